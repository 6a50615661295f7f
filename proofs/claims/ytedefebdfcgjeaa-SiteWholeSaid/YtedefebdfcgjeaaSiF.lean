/- few of stage 13: are steps such as are gone through? -/
import Derived.Test.YtedefebdfcgjeaaSiM
namespace Go.Proofs.Ytedefebdfcgjeaa
open Go.RowKit Go.Shelf
set_option linter.unusedVariables false
def okP (x : Sp) : Bool := !(decide (x.did < 0) || decide (9 < x.did) || decide (x.bad < 0) || decide (20 < x.bad))
def fewP (l : List Sp) : Bool := decide (l.length ≤ 100) && l.all okP
def FwI (w : World) (l : List Sp) (f : Nat) (a : Value) (wr : World) : Prop := ∃ i : Nat, a = .int .i64 (i : Int) ∧ i ≤ l.length ∧ f = l.length - i ∧ (∀ j, j < i → okP (spAt l j) = true) ∧ w = wr
theorem fewP_no {l : List Sp} {i : Nat} (hi : i < l.length) (h : okP (spAt l i) = false) : fewP l = false := by
  unfold fewP
  rw [Bool.and_eq_false_iff]
  right
  rw [Bool.eq_false_iff]
  intro ha
  rw [List.all_eq_true] at ha
  rw [ha _ (spAt_mem hi)] at h
  cases h
theorem fewP_yes {l : List Sp} (hl : l.length ≤ 100) (h : ∀ j, j < l.length → okP (spAt l j) = true) : fewP l = true := by
  unfold fewP
  rw [Bool.and_eq_true, decide_eq_true_eq]
  refine ⟨hl, ?_⟩
  rw [List.all_eq_true]
  intro x hx
  obtain ⟨j, hj, rfl⟩ := List.getElem_of_mem hx
  have := h j hj
  unfold spAt at this
  rwa [List.getD_eq_getElem?_getD, List.getElem?_eq_getElem hj] at this
theorem fewP_few {l : List Sp} (h : fewP l = true) : FewL l ∧ l.length ≤ 100 := by
  unfold fewP at h
  rw [Bool.and_eq_true, decide_eq_true_eq, List.all_eq_true] at h
  refine ⟨fun x hx => ?_, h.1⟩
  have := h.2 x hx
  unfold okP at this
  simp only [Bool.not_eq_true', Bool.or_eq_false_iff, decide_eq_false_iff_not] at this
  omega
set_option maxRecDepth 100000 in
set_option maxHeartbeats 2000000 in
theorem few13_any {w : World} {n cap : Nat} {A : Option Addr} {l : List Sp} (hS : StepsIn w A n cap l) :
    Calls Try.prog 6 #[.slice A n cap] w fun e w' => e = .returned (.bool (fewP l)) ∧ w = w' := by
  have HS := Lib.hid hS
  have hln := hS.1
  have hnm := hS.2.2.1
  unfold maxLen at hnm
  clear hS
  by_cases hn : 100 < n
  · have HE := Lib.hid (show fewP l = false by unfold fewP; rw [decide_eq_false (by omega)]; rfl)
    have d1 : decide ((100 : Int) < (n : Int)) = true := by simp; omega
    have d2 : decide (100 < n) = true := by simpa using hn
    clear hln
    go_enter Try.func6, Try.ntmps6
    go_wp2
    go_ret
    exact ⟨by rw [HE.out]; rfl, rfl⟩
  · have HLN := Lib.hid hln
    have d1 : decide ((100 : Int) < (n : Int)) = false := by simp; omega
    have d2 : decide (100 < n) = false := by simpa using hn
    clear hln hnm
    go_enter Try.func6, Try.ntmps6
    go_wp2
    go_loopw [3] (fun v wr => ∃ i : Nat, v = .int .i64 (i : Int) ∧ i ≤ n ∧ (∀ j, j < i → okP (spAt l j) = true) ∧ w = wr) (fun v _ => n - (intOf v).toNat)
    case atStart => exact ⟨0, rfl, Nat.zero_le _, fun j hj => absurd hj (Nat.not_lt_zero _), rfl⟩
    case round =>
      obtain ⟨i, rfl, hi, hok, rfl⟩ := hrel
      have HOK := Lib.hid hok
      clear hok
      by_cases hlt : i < n
      · obtain ⟨ga, hga, hst⟩ := HS.out.2.2.2 (by have := HLN.out; omega)
        have hil : i < l.length := by have := HLN.out; omega
        have d0 := hst.c0 i hil
        have d2 := hst.c2 i hil
        obtain ⟨x, hx⟩ : ∃ x, x = spAt l i := ⟨_, rfl⟩
        rw [← hx] at d0 d2
        have HX := Lib.hid hx
        have HIL := Lib.hid hil
        subst hga
        clear hst hx hil
        obtain ⟨xd, xdn, xbd⟩ := x
        dsimp only at d0 d2
        by_cases h1 : xd < 0
        · have HE := Lib.hid (fewP_no HIL.out (by rw [← HX.out]; unfold okP; simp [h1]))
          go_wp2
          go_ret
          exact ⟨by rw [HE.out]; rfl, rfl⟩
        · by_cases h2 : 9 < xd
          · have HE := Lib.hid (fewP_no HIL.out (by rw [← HX.out]; unfold okP; simp [h2]))
            go_wp2
            go_ret
            exact ⟨by rw [HE.out]; rfl, rfl⟩
          · by_cases h3 : xbd < 0
            · have HE := Lib.hid (fewP_no HIL.out (by rw [← HX.out]; unfold okP; simp [h3]))
              go_wp2
              go_ret
              exact ⟨by rw [HE.out]; rfl, rfl⟩
            · by_cases h4 : 20 < xbd
              · have HE := Lib.hid (fewP_no HIL.out (by rw [← HX.out]; unfold okP; simp [h4]))
                go_wp2
                go_ret
                exact ⟨by rw [HE.out]; rfl, rfl⟩
              · have HE := Lib.hid (show okP (spAt l i) = true by rw [← HX.out]; unfold okP; simp [h1, h2, h3, h4])
                go_wp2
                go_roundw
                case rel => exact ⟨i + 1, by go_num, by omega, fun j hj => by
                  by_cases e : j = i
                  · subst e; exact HE.out
                  · exact HOK.out j (by omega), trivial⟩
                case measure => simp [intOf]; omega
      · have HE := Lib.hid (fewP_yes (l := l) (by have := HLN.out; omega) (fun j hj => HOK.out j (by have := HLN.out; omega)))
        go_wp2
        go_ret
        exact ⟨by rw [HE.out]; rfl, rfl⟩
end Go.Proofs.Ytedefebdfcgjeaa
