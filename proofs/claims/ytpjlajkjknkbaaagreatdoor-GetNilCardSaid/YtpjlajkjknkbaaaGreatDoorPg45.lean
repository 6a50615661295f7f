/- Texts of this claim, packed: WKnown, WBytes. -/
import Derived.Test.YtpjlajkjknkbaaaGreatDoorPg44
import Derived.Deep.QuietTactic
import Derived.BigQuiet
import Derived.ChangeKeysEq
/- The contracts of word's functions that known() goes through, and known() itself: each returns as the document says, and turns no memory that was there; for words below 2^64, texts of at most a million bytes. -/
namespace Go.Proofs.YtpjlajkjknkbaaaGreatDoor
open Go.RowKit

set_option maxRecDepth 100000 in
set_option maxHeartbeats 400000 in
theorem wput_any (n : Nat) (w : World) :
    Calls Tryz.prog 159 #[.int .u64 n] w fun e w' => e = .returned (.agg (bytes8 n)) ∧ Below w.heap.size w w' := by
  go_enter Tryz.func159, Tryz.ntmps159
  go_wp2
  go_loopw [5] (fun i wr => ∃ k : Nat, k ≤ 8 ∧ i = .int .i64 k ∧ Row wr (w.heap.size + 1) 251 (part 8 (fun j => decide (j < k)) (fun j => bv (byt n j)) (bv 0)) ∧
      Row wr w.heap.size 251 (Array.replicate 8 (bv 0)) ∧ Below w.heap.size w wr) (fun i _ => 8 - (intOf i).toNat)
  case atStart =>
    refine ⟨0, by omega, rfl, ?_, ?_, ?_⟩
    · rw [part_none 8 _ _ (by simp)]
      exact heap_alloc2_new w _ _
    · exact heap_alloc2_old w _ _
    · exact ((Below.refl _ _).alloc (Nat.le_refl _) _).alloc (by simp) _
  case round =>
    obtain ⟨k, hk, rfl, hrow, hres, hb⟩ := hrel
    have hlt := byt_lt n k
    by_cases h8 : k < 8
    · have hc := hrow.cell k
      rw [part_get h8] at hc
      have hf := hrow.free k
      simp only [decide_eq_true_eq, Nat.lt_irrefl, if_false] at hc
      go_wp2
      go_roundw
      case rel => exact ⟨k + 1, by omega, by go_num, by
        have h := hrow.set k (bv (byt n k))
        rw [part_next 8 k (fun j => bv (byt n j)) (bv 0)] at h
        rw [byt_shift]
        exact h, hres.other (p := ⟨w.heap.size + 1, k, none⟩) (by show w.heap.size ≠ w.heap.size + 1; omega) _, hb.setCell (p := ⟨w.heap.size + 1, k, none⟩) (by show w.heap.size ≤ w.heap.size + 1; omega) _⟩
      case measure => simp [intOf]; omega
    · have hk8 : k = 8 := by omega
      subst hk8
      rw [part_all _ _ (by intro i hi; simpa using hi)] at hrow
      have hrow' : Row wr (w.heap.size + 1) 251 (bytes8 n) := hrow
      clear hrow
      have hfit := bytes8_fit n
      have hold := bytes8_old n
      have hone := bytes8_one n
      go_wp2_with (first | (refine wpList_load_row rfl 251 _ rfl (w.heap.size + 1) rfl 251 _ _ _ hrow' Tryz.underlying251 rfl hfit ?_) | (refine wpList_store_row rfl 251 _ _ rfl w.heap.size (bytes8 n) rfl rfl 251 _ hres hfit hold hone ?_))
      refine bodyPost_ret (v := .agg (bytes8 n)) (results_cell_row Tryz.results159 _ _ w.heap.size 251 _ _ _ rfl (hres.setRow _) Tryz.underlying251 rfl hfit) rfl ⟨rfl, ?_⟩
      exact below_setRow hb (Nat.le_refl _) _

set_option maxRecDepth 100000 in
set_option maxHeartbeats 400000 in
theorem join_any (l : List Nat) (A : Option Addr) (len cap : Nat) (w : World) (hl : Byts l) (hlen : l.length = len) (h8 : len ≤ 8) (hs : Sl w A (l.map bv)) :
    Calls Tryz.prog 143 #[.slice A len cap] w fun e w' => e = .returned (.int .u64 (joinN l)) ∧ w = w' := by
  subst hlen
  go_enter Tryz.func143, Tryz.ntmps143
  go_wp2
  go_loop [3, 7] (fun q i => ∃ k : Nat, k ≤ l.length ∧ q = .int .u64 (joinTo l k) ∧ i = .int .i64 k) (fun _ i => l.length - (intOf i).toNat)
  case atStart => exact ⟨0, by omega, by rw [joinTo_zero]; rfl, rfl⟩
  case round =>
    obtain ⟨k, hk, rfl, rfl⟩ := hrel
    by_cases hlt : k < l.length
    · obtain ⟨a, rfl, hc⟩ := hs.at_ (i := k) (by simpa using hlt)
      rw [List.getElem_map] at hc
      have hor := joinTo_or l k hl hlt (by omega)
      have hb : l[k] < 256 := hl _ (List.getElem_mem hlt)
      unfold bv at hc
      go_wp2
      go_round
      case rel => exact ⟨k + 1, by omega, rfl, by go_num⟩
      case measure => simp [intOf]; omega
    · have hk8 : k = l.length := by omega
      subst hk8
      rw [joinTo_all]
      go_wp2
      go_ret
      exact ⟨rfl, rfl⟩

theorem infoW8 : (Tryz.prog.info? 5).map (fun i => (i.zero, i.size, i.bytes)) = some (some (.int .u8 0), 1, 1) := by kernel_rfl
theorem info22 : (Tryz.prog.info? 24).map (fun i => (i.zero, i.size, i.bytes)) = some (some (.int .u64 0), 1, 8) := by kernel_rfl
def kb : List Nat := [0, 1, 0, 0, 0, 0, 0, 0, 0]
end Go.Proofs.YtpjlajkjknkbaaaGreatDoor
/- A word's bytes as a list; the document's own reading of a word; Set: what each turns and answers. For words below 2^64 and places at which eight bytes stand. -/
namespace Go.Proofs.YtpjlajkjknkbaaaGreatDoor
open Go.RowKit
set_option linter.unusedVariables false
def bytesN (n : Nat) : List Nat := (List.range 8).map (byt n)
theorem bytesN_length (n : Nat) : (bytesN n).length = 8 := by simp [bytesN]
theorem bytesN_byts (n : Nat) : Byts (bytesN n) := by
  intro b hb
  simp only [bytesN, List.mem_map] at hb
  obtain ⟨i, _, rfl⟩ := hb
  exact byt_lt n i
theorem bytes8_list (n : Nat) : bytes8 n = ((bytesN n).map bv).toArray := by
  apply Array.ext
  · simp [bytes8, bytesN]
  · intro i h1 h2
    simp [bytes8, bytesN]
end Go.Proofs.YtpjlajkjknkbaaaGreatDoor
