/- The document's Put and Take: a word as eight bytes, and back. -/
import Derived.Test.YthibbcokpmckfaaGreatDoorZ33
namespace Go.Proofs.YthibbcokpmckfaaGreatDoor
open Go.RowKit
set_option linter.unusedVariables false
def upW (n k : Nat) : Nat := n / 256 ^ k
theorem upW_zero (n : Nat) : upW n 0 = n := by simp [upW]
theorem upW_succ (n k : Nat) : upW n (k + 1) = upW n k / 256 := by unfold upW; rw [Nat.pow_succ, Nat.div_div_eq_div_mul]
theorem upW_le (n k : Nat) : upW n k ≤ n := Nat.div_le_self _ _
theorem wbyt_up (n k : Nat) : wbyt n k = upW n k % 256 := rfl
def b8A (n : Nat) : Array Value := Array.ofFn fun i : Fin 8 => bv (wbyt n i.val)
theorem b8A_size (n : Nat) : (b8A n).size = 8 := by simp [b8A]
theorem b8A_one (n : Nat) : (b8A n).all (·.oneCell') = true := by
  rw [Array.all_eq_true]
  intro i hi
  simp [b8A, bv, Value.oneCell']
theorem sizeB8 : (Tryz.prog.info? 92).map (·.size) = some 8 := by kernel_rfl
theorem b8A_fit (n : Nat) : (Tryz.prog.info? 92).map (·.size) = some (b8A n).size := by rw [b8A_size]; exact sizeB8
theorem b8A_old (n : Nat) : (Array.replicate 8 (bv 0)).size = (b8A n).size := by rw [b8A_size]; rfl
set_option maxHeartbeats 400000 in
theorem r1Put_any (n : Nat) (w : World) (hn : n < 18446744073709551616) :
    Calls Tryz.prog 40 #[wv n] w fun e w' => e = .returned (.agg (b8A n)) ∧ Below w.heap.size w w' := by
  unfold wv
  go_enter Tryz.func40, Tryz.ntmps40
  go_wp2
  go_loopw [0, 4] (fun q i wr => ∃ k : Nat, k ≤ 8 ∧ q = .int .u64 (upW n k) ∧ i = .int .i64 k ∧ Row wr (w.heap.size + 1) 92 (part 8 (fun j => decide (j < k)) (fun j => bv (wbyt n j)) (bv 0)) ∧
      Row wr w.heap.size 92 (Array.replicate 8 (bv 0)) ∧ Below w.heap.size w wr) (fun _ i _ => 8 - (intOf i).toNat)
  case atStart =>
    refine ⟨0, by omega, by rw [upW_zero], rfl, ?_, ?_, ?_⟩
    · rw [part_none 8 _ _ (by simp)]
      exact heap_alloc2_new w _ _
    · exact heap_alloc2_old w _ _
    · exact ((Below.refl _ _).alloc (Nat.le_refl _) _).alloc (by simp) _
  case round =>
    obtain ⟨k, hk, rfl, rfl, hrow, hres, hb⟩ := hrel
    have hun := upW_le n k
    by_cases h8 : k < 8
    · have hc := hrow.cell k
      rw [part_get h8] at hc
      have hf := hrow.free k
      simp only [decide_eq_true_eq, Nat.lt_irrefl, if_false] at hc
      have HRW := Lib.hid hrow
      have HRS := Lib.hid hres
      have HB := Lib.hid hb
      clear hrow hres hb
      go_wp2
      go_roundw
      case rel => exact ⟨k + 1, by omega, by rw [upW_succ]; go_num, by go_num, by
        have h := HRW.out.set k (bv (wbyt n k))
        rw [part_next 8 k (fun j => bv (wbyt n j)) (bv 0)] at h
        exact h, HRS.out.other (p := ⟨w.heap.size + 1, k, none⟩) (by show w.heap.size ≠ w.heap.size + 1; omega) _, HB.out.setCell (p := ⟨w.heap.size + 1, k, none⟩) (by show w.heap.size ≤ w.heap.size + 1; omega) _⟩
      case measure => simp [intOf]; omega
    · have hk8 : k = 8 := by omega
      subst hk8
      rw [part_all _ _ (by intro i hi; simpa using hi)] at hrow
      have hrow' : Row _ (w.heap.size + 1) 92 (b8A n) := hrow
      clear hrow
      have hfit := b8A_fit n
      have hold := b8A_old n
      have hone := b8A_one n
      go_wp2_with (first | (refine wpList_load_row rfl 92 _ rfl (w.heap.size + 1) rfl 92 _ _ _ hrow' Tryz.underlying92 rfl hfit ?_) | (refine wpList_store_row rfl 92 _ _ rfl w.heap.size (b8A n) rfl rfl 92 _ hres hfit hold hone ?_))
      refine bodyPost_ret (v := .agg (b8A n)) (results_cell_row Tryz.results40 _ _ w.heap.size 92 _ _ _ rfl (hres.setRow _) Tryz.underlying92 rfl hfit) rfl ⟨rfl, ?_⟩
      exact below_setRow hb (Nat.le_refl _) _
theorem ofBTake_succ (l : List Nat) (k j : Nat) (hj : j < 8) (h : k + 8 ≤ l.length) :
    ofB ((l.drop (k + 8 - (j + 1))).take (j + 1)) = (l[k + 8 - (j + 1)]'(by omega)) + 256 * ofB ((l.drop (k + 8 - j)).take j) := by
  have e : l.drop (k + 8 - (j + 1)) = (l[k + 8 - (j + 1)]'(by omega)) :: l.drop (k + 8 - j) := by
    rw [List.drop_eq_getElem_cons (by omega)]
    rw [show k + 8 - (j + 1) + 1 = k + 8 - j from by omega]
  rw [e, List.take_succ_cons, ofB]
theorem pow_le8' {k : Nat} (h : k ≤ 8) : 256 ^ k ≤ 18446744073709551616 := Nat.pow_le_pow_right (n := 256) (by decide) h
set_option maxHeartbeats 400000 in
theorem r1Take_any (l : List Nat) (a : Addr) (len cap k : Nat) (w : World) (hlen : l.length = len) (hl : len ≤ 1000000) (h : k + 8 ≤ len) (hb : ∀ x ∈ l, x < 256) (hs : Sl w (some a) (l.map bv)) :
    Calls Tryz.prog 47 #[.slice (some a) len cap, .int .i64 (k : Int)] w fun e w' => e = .returned (wv (ofB ((l.drop k).take 8))) ∧ w = w' := by
  subst hlen
  unfold wv
  go_enter Tryz.func47, Tryz.ntmps47
  go_wp2
  go_loop [5, 6] (fun q i => ∃ j : Nat, j ≤ 8 ∧ q = .int .u64 (ofB ((l.drop (k + 8 - j)).take j)) ∧ i = .int .i64 (7 - (j : Int))) (fun _ i => (intOf i + 1).toNat)
  case atStart => exact ⟨0, by omega, by simp [ofB], rfl⟩
  case round =>
    obtain ⟨j, hj, rfl, rfl⟩ := hrel
    by_cases hlt : j < 8
    · have hx := ofB_lt (xs := (l.drop (k + 8 - j)).take j) (fun b h => hb b (List.mem_of_mem_drop (List.mem_of_mem_take h)))
      have hlj : ((l.drop (k + 8 - j)).take j).length = j := by rw [List.length_take, List.length_drop]; omega
      rw [hlj] at hx
      have hp := pow_le8' (k := j + 1) (by omega)
      have hp2 : 256 ^ (j + 1) = 256 * 256 ^ j := by rw [Nat.pow_succ, Nat.mul_comm]
      have hq := ofBTake_succ l k j hlt h
      obtain ⟨Q, hQ⟩ : ∃ Q, Q = ofB ((l.drop (k + 8 - j)).take j) := ⟨_, rfl⟩
      rw [← hQ] at hx hq ⊢
      have hx2 : Q * 256 + 255 < 18446744073709551616 := by omega
      have hc := hs.some_ (i := k + 8 - (j + 1)) (by rw [List.length_map]; omega)
      rw [List.getElem_map] at hc
      obtain ⟨b, hbe⟩ : ∃ b, b = l[k + 8 - (j + 1)]'(by omega) := ⟨_, rfl⟩
      have hb256 : b < 256 := by rw [hbe]; exact hb _ (List.getElem_mem _)
      rw [← hbe] at hc hq
      have HQ := Lib.hid hq
      clear hp hp2 hx hQ hlj hq hbe
      have e1 : k + 8 - (j + 1) = k + (7 - j) := by omega
      rw [e1] at hc
      unfold bv at hc
      go_wp2
      go_round
      case rel => exact ⟨j + 1, by omega, by rw [HQ.out]; go_num, by go_num⟩
      case measure => simp [intOf]; omega
    · have hj8 : j = 8 := by omega
      subst hj8
      go_wp2
      go_ret
      exact ⟨rfl, rfl⟩
end Go.Proofs.YthibbcokpmckfaaGreatDoor
