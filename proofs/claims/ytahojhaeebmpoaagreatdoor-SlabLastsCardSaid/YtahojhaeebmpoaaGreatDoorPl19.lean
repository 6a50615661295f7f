/- Texts of this claim, packed: PIter. -/
import Derived.Test.YtahojhaeebmpoaaGreatDoorPl18
import Derived.Test.YtahojhaeebmpoaaGreatDoorPl13
import Derived.Shelf.Abstract
import Derived.Shelf.RegionOpen
import Derived.OwnWalkIn
import Derived.TacticsInMore
import Derived.LoopNIn
import Derived.LoopIn
/- lines: the iterator over the lines with pending stores: it calls yield once for each of them, rising, whatever a round makes of the line that it was told; for memories that are there. -/
namespace Go.Proofs.YtahojhaeebmpoaaGreatDoor
open Go.RowKit Go.Shelf
set_option linter.unusedVariables false
attribute [local go_sem] Oper.semAt_some

def nzFrom : List (List (Nat × Nat)) → Nat → Nat → List (Nat × Nat)
  | [], _, _ => []
  | l :: t, i, j => if l = [] then nzFrom t i (j + 1) else (i, j) :: nzFrom t (i + 1) (j + 1)
def nz (p : List (List (Nat × Nat))) : List (Nat × Nat) := nzFrom p 0 0
def encN (x : Nat × Nat) : Array Value := #[.int .i64 (x.1 : Int), .int .i64 (x.2 : Int)]
theorem nzFrom_step {p : List (List (Nat × Nat))} {i j : Nat} {l : List (Nat × Nat)} (h : p[0]? = some l) : nzFrom p i j = if l = [] then nzFrom p.tail i (j + 1) else (i, j) :: nzFrom p.tail (i + 1) (j + 1) := by
  cases p with
  | nil => cases h
  | cons a t =>
    simp at h
    subst h
    rfl
def Reads0 (W : World) (gp nl : Nat) (ps : List Value) (xs : List (Nat × Nat)) (k : Nat) : Prop :=
  ∀ (j : Nat) (v : Value), j < nl → (∀ (i : Nat) (q : Nat × Nat), xs[i]? = some q → i < k → q.2 < j) → ps[j]? = some v → W.cell? ⟨gp, j, none⟩ = some v
set_option maxRecDepth 100000 in
set_option maxHeartbeats 1600000 in
theorem iter_tells {w : World} {y : Lay} {s : St} (h : MemAt w y s) (bx : Nat) (I : Nat → World → Prop) (hbx : w.cell? ⟨bx, 0, none⟩ = some (.pointer (some ⟨y.g, 0, none⟩)))
    (hI : ∀ k W, I k W → Reads0 W y.gp s.nl y.ps (nz s.pend) k) :
    Tells Fence.wide 5 Tryz.prog 89 #[.pointer (some ⟨bx, 0, none⟩)] encN (nz s.pend) w I := by
  intro l J W hW hJ hY h0
  have hm := h.below hW
  have hnone := none_yes hm
  have hbox : W.cell? ⟨bx, 0, none⟩ = some (.pointer (some ⟨y.g, 0, none⟩)) := (hW.cell (p := ⟨bx, 0, none⟩) (block_lt_of_cell hbx)).trans hbx
  have c2 := hm.row.cell 2
  simp only [List.getElem?_toArray, List.getElem?_cons_succ, List.getElem?_cons_zero] at c2
  have hmost := h.most
  have hplen := h.plen
  have HP := Lib.hid fun j (hj : j < s.nl) => ps_get h hj
  have HN := Lib.hid hnone
  have HJ := Lib.hid hJ
  have HY := Lib.hid hY
  have HI := Lib.hid hI
  have H0 := Lib.hid h0
  obtain ⟨xs, hxs⟩ : ∃ xs, xs = nz s.pend := ⟨_, rfl⟩
  rw [← hxs] at HY HI ⊢
  have HX := Lib.hid hxs
  have HPL := Lib.hid hplen
  clear hnone hm hJ hY hI h0 hxs hbx h hplen hW
  refine callsIn_of_wp Tryz.func89 rfl trivial ?_ rfl
  simp only [Tryz.ntmps89, List.size_toArray, List.length_cons, List.length_nil, Nat.reduceAdd, Nat.reduceSub, Array.replicate_succ, Array.replicate_zero, List.push_toArray, List.append_toArray, List.nil_append, List.cons_append]
  gi_wp2_with (refine ⟨trivial, ?_⟩; gi_at_call 57; refine (callsIn_wide.2 HN.out).mono ?_; rintro e w' ⟨rfl, rfl⟩)
  gi_loopw [3, 13] (fun a b wr => ∃ k j : Nat, a = .int .i64 k ∧ b = .int .i64 j ∧ j ≤ s.nl ∧ k ≤ j ∧ k ≤ xs.length ∧ J k wr ∧ xs.drop k = nzFrom (s.pend.drop j) k j ∧ ∀ (i : Nat) (q : Nat × Nat), xs[i]? = some q → i < k → q.2 < j) (fun _ b _ => s.nl - (intOf b).toNat)
  case atStart => exact ⟨0, 0, rfl, rfl, by omega, by omega, by omega, H0.out, by rw [HX.out]; rfl, fun i q _ hi => by omega⟩
  case round =>
    obtain ⟨k, j, rfl, rfl, hj, hkj, hkx, hJk, hdr, hlt⟩ := hrel
    by_cases hjn : j < s.nl
    · obtain ⟨v, m, hv, hmm, ht⟩ := HP.out j hjn
      obtain ⟨A, cap, rfl, hcap⟩ := ht.len
      have hcell : wr.cell? ⟨y.gp, j, none⟩ = some (.slice A m.length cap) := HI.out k wr (HJ.out k wr hJk) j _ hjn hlt hv
      rw [nzFrom_step (l := m) (by rw [List.getElem?_drop]; exact hmm), List.tail_drop] at hdr
      by_cases hm0 : m = []
      · rw [if_pos hm0] at hdr
        subst hm0
        have HDR := Lib.hid hdr
        have HLT := Lib.hid hlt
        have HJK := Lib.hid hJk
        clear hdr hlt hJk hv ht
        gi_wp2
        go_roundw
        case rel => exact ⟨k, j + 1, rfl, by go_num, by omega, by omega, hkx, HJK.out, by simpa using HDR.out, fun i q hq hi => by have := HLT.out i q hq hi; omega⟩
        case measure => simp [intOf]; omega
      · rw [if_neg hm0] at hdr
        have hml : ((m.length : Int) == 0) = false := by
          rw [Bool.eq_false_iff]
          intro hh
          have := beq_iff_eq.1 hh
          exact hm0 (List.eq_nil_of_length_eq_zero (by omega))
        have hxk : xs[k]? = some (k, j) := by
          have : (xs.drop k)[0]? = some (k, j) := by rw [hdr]; rfl
          rwa [List.getElem?_drop] at this
        obtain ⟨fn, tmps, assign, body, hy, hR⟩ := HY.out k (k, j) wr hxk hJk
        dsimp only [encN] at hy
        have HDR := Lib.hid hdr
        have HLT := Lib.hid hlt
        clear hdr hlt hJk hv ht hm0
        gi_wp2
        refine hR.mono ?_
        rintro e W3 ⟨rfl, hJ3⟩
        have HJ3 := Lib.hid hJ3
        clear hJ3
        gi_wp2
        go_roundw
        case rel =>
          have hkl : k < xs.length := (List.getElem?_eq_some_iff.1 hxk).1
          refine ⟨k + 1, j + 1, by go_num, by go_num, by omega, by omega, by omega, HJ3.out, ?_, ?_⟩
          · have h1 := HDR.out
            have h2 : xs.drop (k + 1) = (xs.drop k).drop 1 := by rw [List.drop_drop]
            rw [h2, h1]
            rfl
          · intro i q hq hi
            by_cases e : i = k
            · subst e
              rw [hxk] at hq
              cases hq
              show j < j + 1
              omega
            · have := HLT.out i q hq (by omega)
              omega
        case measure => simp [intOf]; omega
    · have hje : j = s.nl := by omega
      have hk : k = xs.length := by
        rw [List.drop_of_length_le (l := s.pend) (by rw [HPL.out]; omega)] at hdr
        have h3 : (xs.drop k).length = 0 := by rw [hdr]; rfl
        rw [List.length_drop] at h3
        omega
      subst hk
      have HJK := Lib.hid hJk
      clear hdr hlt hJk
      gi_wp2
      go_end0
      exact ⟨⟨_, rfl⟩, HJK.out⟩
end Go.Proofs.YtahojhaeebmpoaaGreatDoor
