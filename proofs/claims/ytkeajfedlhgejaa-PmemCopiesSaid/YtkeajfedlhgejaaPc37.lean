/- Texts of this claim, packed: R2G5, R2D7. -/
import Derived.Test.YtkeajfedlhgejaaPc33
import Derived.Test.YtkeajfedlhgejaaPc36
import Derived.Deep.QuietTactic
import Derived.Deep.DeepCutAuto
import Derived.Deep.CutBlock
/- game.do's odd calls: a crash, of the program's memory by a new list, of the document's by the act's own; a copy; for memories of at most eight lines. -/
namespace Go.Proofs.Ytkeajfedlhgejaa
open Go Go.RowKit
set_option linter.unusedVariables false
/-- An act's own slice, older than B. -/
def KB (P : Nat → Prop) (w : World) (ks : Value) (kp : List Int) : Prop := ∃ A cap, ks = .slice A kp.length cap ∧ Sl w A (kp.map iv) ∧ (A = none → cap = 0) ∧ (∀ a, A = some a → kp ≠ [] → P a.block) ∧ (∀ z ∈ kp, (Lit.int .i64 z).wf = true) ∧ kp.length ≤ 1000
theorem KB.keep {P : Nat → Prop} {w W : World} {ks : Value} {kp : List Int} (h : KB P w ks kp) (hb : KeepP P w W) : KB P W ks kp := by
  obtain ⟨A, cap, h1, h2, h3, h4, h5, h6⟩ := h
  refine ⟨A, cap, h1, fun i u hu => ?_, h3, h4, h5, h6⟩
  obtain ⟨a, e, hc⟩ := h2 i u hu
  have hne : kp ≠ [] := fun e => by subst e; simp at hu
  refine ⟨a, e, (World.cell?_of_block (hb.block _ ?_)).trans hc⟩
  rw [add_block]
  exact h4 a e hne
theorem KB.of {w : World} {ks : Value} {kp : List Int} (h : KpAt w ks kp) (hl : kp.length ≤ 1000) : KB (fun q => q < w.heap.size) w ks kp := by
  obtain ⟨⟨A, cap, h1, h2, h3, h4, h6⟩, h5⟩ := h
  refine ⟨A, cap, h1, h4, h6, fun a e hne => ?_, h5, hl⟩
  obtain ⟨z, hz⟩ : ∃ z, kp[0]? = some z := by cases kp with
    | nil => exact absurd rfl hne
    | cons z t => exact ⟨z, rfl⟩
  obtain ⟨a', e', hc⟩ := h4 0 (iv z) (by rw [List.getElem?_map, hz]; rfl)
  have : a = a' := Option.some.inj (e.symm.trans e')
  subst this
  have := w.block_lt_of_cell? _ hc
  rwa [add_block] at this
theorem KB.rds {P : Nat → Prop} {w : World} {ks : Value} {kp : List Int} (h : KB P w ks kp) : RdsI w ks (kp.map iv) := by
  obtain ⟨A, cap, rfl, h2, h3, h4, h5, h6⟩ := h
  cases A with
  | none =>
    have hc := h3 rfl
    subst hc
    have : kp = [] := by cases kp with
      | nil => rfl
      | cons z t => obtain ⟨a, e, _⟩ := h2 0 (iv z) rfl; cases e
    subst this
    exact .inl ⟨rfl, rfl⟩
  | some a => exact .inr ⟨a, cap, by simp, fun j u hu => by obtain ⟨a', e, hc⟩ := h2 j u hu; cases e; exact hc⟩
theorem below_grown {w w' : World} (h : w.grownBy w' none) : Below w.heap.size w w' := ⟨h.os, h.tape, h.output, h.size, fun k hk => h.block k hk (fun e => by cases e)⟩
section
variable {P : Nat → Prop} {w W W' : World} {gg ab : Nat} {k c : Int} {a v : Nat} {n : Int} {ks : Value} {yg g : Nat} {s s' : St} {r r' : Rf}
theorem GY.crashP (h : GY P w gg ab k c a v n ks yg g s r W) (ok : s.Ok) {kp : List Int} {V : Value} {C q : Nat} (hV : W.ownsRow C 3 1 V q (kp.map iv)) (hq : q = kp.length) (hw : ∀ z ∈ kp, (Lit.int .i64 z).wf = true) (hl : kp.length ≤ 1000) :
    Calls Try.prog 27 #[.pointer (some ⟨yg, 0, none⟩), V] W fun e W' => e = .returned (.tuple #[]) ∧ GY P w gg ab k c a v n ks yg g (s.crash kp) r W' := by
  have hlt := h.lt
  obtain ⟨y, vF, vL, ms, rfl, h4, hn, hB, _⟩ := h
  subst hq
  obtain ⟨A, cap, rfl, _, _, hs, _⟩ := own_sl hV
  refine (crash_okE h4.g3.m ok kp A cap hs ?_ (by omega) hw).mono ?_
  · rintro ad rfl hne hk
    obtain ⟨z, hz⟩ : ∃ z, kp[0]? = some z := by cases kp with
      | nil => exact absurd rfl hne
      | cons z t => exact ⟨z, rfl⟩
    rcases hV.2 with ⟨h0, _⟩ | ⟨g', cap', cur, h0, _, hh, _⟩
    · cases h0
    · simp only [Value.slice.injEq, Option.some.injEq] at h0
      obtain ⟨rfl, _, _⟩ := h0
      exact fp_ne h4.g3.m (show Row W g' 3 cur from hh) (by decide) (by decide) (by decide) (by decide) hk
  · rintro e W' ⟨rfl, y', hm, ht⟩
    obtain ⟨q1, q2⟩ := hn.turn hlt ht
    exact ⟨rfl, y', vF, vL, ms, ht.g, h4.turn hm ht, q1, hB.trans q2, fun q hq => Nat.lt_of_lt_of_le (hlt q hq) ht.but.size⟩
theorem GY.crashR (h : GY P w gg ab k c a v n ks yg g s r W) {s0 : St} (hr : RelAt s0 r) (hnl : s0.nl ≤ 8) (hL : r.L.length ≤ 1000) {kp : List Int} (hK : KB P w ks kp) :
    Calls Try.prog 43 #[.pointer (some ⟨g, 0, none⟩), ks] W fun e W' => e = .returned (.tuple #[]) ∧ GY P w gg ab k c a v n ks yg g s (r.crash kp (nz s0.pend)) W' := by
  have hlt := h.lt
  obtain ⟨y, vF, vL, ms, rfl, h4, hn, hB, _⟩ := h
  obtain ⟨A, cap, rfl, hs, _, hb, hw, hl⟩ := hK.keep hB
  refine (r2Crash_any h4.g3.d (by rw [hr.nl]; exact ⟨hr.pos, by omega⟩) (by rw [hr.nl]; exact hr.fl) (by rw [hr.nl]; exact hr.ad) (by omega) kp A cap hs ?_ hl hw (nz s0.pend) (lines_rel hr) (fun i x hx => nz_place hr i x hx)).mono ?_
  · rintro ad rfl hne hk
    exact hn.d _ hk (hb ad rfl hne)
  · rintro e W' ⟨rfl, vF', vL', ms', hm, ht⟩
    obtain ⟨q1, q2⟩ := hn.turn2 hlt ht
    exact ⟨rfl, y, vF', vL', ms', rfl, h4.turn2 hm ht, q1, hB.trans q2, fun q hq => Nat.lt_of_lt_of_le (hlt q hq) ht.but.size⟩
theorem GY.copy (h : GY P w gg ab k c a v n ks yg g s r W) (ok : s.Ok) :
    Calls Try.prog 20 #[.pointer (some ⟨yg, 0, none⟩)] W fun e W' => ∃ yg', e = .returned (.pointer (some ⟨yg', 0, none⟩)) ∧ SG gg ab yg g k c a v n ks W' ∧ (∀ j, W'.frozen? ⟨gg, j, none⟩ = false) ∧ GY P w gg ab k c a v n ks yg' g s r (W'.setCell ⟨gg, 0, none⟩ (.pointer (some ⟨yg', 0, none⟩))) := by
  have hlt := h.lt
  obtain ⟨y, vF, vL, ms, rfl, h4, hn, hB, _⟩ := h
  refine (copy_yes h4.g3.m ok).mono ?_
  rintro e W' ⟨y', rfl, hm, hf, hb⟩
  have h4' := h4.below hb
  have hgg := h4.g3.row.lt
  have hab : ab ≠ gg := fun e => by
    have h1 := h4'.row
    have h2 := h4'.g3.row
    subst e
    exact tag_ne h1 h2 (by decide) rfl
  have ht : ∀ q, q ≠ gg → (W'.setCell ⟨gg, 0, none⟩ (.pointer (some ⟨y'.g, 0, none⟩))).heap[q]? = W'.heap[q]? := fun q hq => heap_setCell_other _ _ _ _ (by show q ≠ gg; exact hq)
  refine ⟨y'.g, rfl, h4'.sg, h4'.g3.row.free, y', vF, vL, ms, rfl, ⟨⟨?_, ?_, ?_⟩, ?_⟩, ⟨hn.gg, fun q hq hp => by have := hf q hq; have := hlt q hp; omega, hn.d⟩, ?_, fun q hq => by rw [size_set]; exact Nat.lt_of_lt_of_le (hlt q hq) hb.size⟩
  · exact h4'.g3.row.set 0 _
  · exact hm.same fun q hq => ht q (by have := hf q hq; omega)
  · exact h4'.g3.d.same fun q hq => ht q (fun e => h4'.g3.ng2 (e ▸ hq))
  · exact h4'.row.other (p := ⟨gg, 0, none⟩) hab _
  · refine hB.trans ((KeepP.of_below hb hlt).trans ⟨rfl, rfl, rfl, by rw [size_set]; exact Nat.le_refl _, fun q hq => ht q (fun e => hn.gg (e ▸ hq))⟩)
end
end Go.Proofs.Ytkeajfedlhgejaa
/- game.do, a copy: both memories turn likewise, and look alike; for memories of at most eight lines. -/
namespace Go.Proofs.Ytkeajfedlhgejaa
open Go Go.RowKit
set_option linter.unusedVariables false
set_option maxRecDepth 100000 in
set_option maxHeartbeats 4000000 in
theorem gdo_7 {P : Nat → Prop} {w : World} {gg : Nat} {s s' : St} {r r' : Rf} (h : GSP P w gg s r) (hR : RelAt s' r') (hnl : s'.nl ≤ 8) (c : Int) (a v : Nat) (n : Int) (ks : Value) (ha : a < 18446744073709551616) (hs : s' = s) (hr : r' = r) :
    Calls Try.prog 13 #[.pointer (some ⟨gg, 0, none⟩), .agg #[.int .i64 7, .int .i64 c, .int .u64 (a : Int), .int .u64 (v : Int), .int .i64 n, ks]] w (DoPost2 P gg s' r' w) := by
  obtain ⟨yg, g, hg⟩ := GY.start h 7 c a v n ks
  have H := Lib.hid hg
  have HR := Lib.hid hR
  have EGCopy := Lib.hid (enters_of Try.func20 (by kernel_rfl) rfl)
  have EGPending := Lib.hid (enters_of Try.func19 (by kernel_rfl) rfl)
  have EGr2Pending := Lib.hid (enters_of Try.func35 (by kernel_rfl) rfl)
  have EGgsame := Lib.hid (enters_of Try.func12 (by kernel_rfl) rfl)
  have hpq : ((pcnt r' a : Int) == (pcnt r' a : Int)) = true := by simp
  have mixed : Try.prog.follows .mixedOrders = true := by kernel_rfl
  clear h hg hR
  subst hs hr
  obtain ⟨s0, s1, a0, a1, a2, a3, a4, a5⟩ := H.out.sg
  have HC := Lib.hid (H.out.copy HR.out.ok)
  go_enter Try.func13, Try.ntmps13
  go_wp2_with fail
  refine HC.out.mono ?_
  rintro e x0 ⟨yg', rfl, ⟨p0, p1, b0, b1, b2, b3, b4, b5⟩, hfz, hH⟩
  clear H s0 s1 a0 a1 a2 a3 a4 a5 HC
  have H := Lib.hid hH
  clear hH
  have hf0 := hfz 0
  clear hfz
  go_wp2
  go_upto_region 26 with (fail)
  refine wp_region_noPanic ?_
  refine wp_region_held_drew (S := SG gg w.heap.size yg' g 7 c a v n ks) (by kernel_rfl) H.out.drew.sg (fun hHeld => ?_)
  have H2 := Lib.hid H.out.drew
  clear H
  have H := H2
  clear H2
  refine wpAnyH_take (i := 0) (oi := ⟨some 165, _, _, _, _, _⟩) (v := .pointer (some ⟨gg, 0, none⟩)) rfl (by kernel_rfl) (by kernel_rfl) (by kernel_rfl) (fun _ _ _ h => h) (Or.inl ⟨by kernel_rfl, by intro WW hSw; obtain ⟨s0, s1, a0, a1, a2, a3, a4, a5⟩ := hSw; go_simp⟩) (by assumption) ?_
  (try simp only [Act.put, List.setIfInBounds_toArray, List.set_cons_zero, List.set_cons_succ])
  refine wpAnyH_take (i := 1) (oi := ⟨some 166, _, _, _, _, _⟩) (v := .pointer (some ⟨gg, 0, none⟩)) rfl (by kernel_rfl) (by kernel_rfl) (by kernel_rfl) (fun _ _ _ h => h) (Or.inl ⟨by kernel_rfl, by intro WW hSw; obtain ⟨s0, s1, a0, a1, a2, a3, a4, a5⟩ := hSw; go_simp⟩) (by assumption) ?_
  (try simp only [Act.put, List.setIfInBounds_toArray, List.set_cons_zero, List.set_cons_succ])
  refine wpAnyH_take (i := 2) (oi := ⟨some 167, _, _, _, _, _⟩) (v := .pointer (some ⟨gg, 0, none⟩)) rfl (by kernel_rfl) (by kernel_rfl) (by kernel_rfl) (fun _ _ _ h => h) (Or.inl ⟨by kernel_rfl, by intro WW hSw; obtain ⟨s0, s1, a0, a1, a2, a3, a4, a5⟩ := hSw; go_simp⟩) (by assumption) ?_
  (try simp only [Act.put, List.setIfInBounds_toArray, List.set_cons_zero, List.set_cons_succ])
  refine wpAnyH_take (i := 3) (oi := ⟨some 168, _, _, _, _, _⟩) (v := .pointer (some ⟨yg', 0, none⟩)) rfl (by kernel_rfl) (by kernel_rfl) (by kernel_rfl) (fun _ _ _ h => h) (Or.inl ⟨by kernel_rfl, by intro WW hSw; obtain ⟨s0, s1, a0, a1, a2, a3, a4, a5⟩ := hSw; go_simp⟩) (by assumption) ?_
  (try simp only [Act.put, List.setIfInBounds_toArray, List.set_cons_zero, List.set_cons_succ])
  refine wpAnyH_take (i := 4) (oi := ⟨some 169, _, _, _, _, _⟩) (v := .bool true) rfl (by kernel_rfl) (by kernel_rfl) (by kernel_rfl) (fun _ _ _ h => h) (Or.inl ⟨by kernel_rfl, by intro WW hSw; obtain ⟨s0, s1, a0, a1, a2, a3, a4, a5⟩ := hSw; go_simp⟩) (by assumption) ?_
  (try simp only [Act.put, List.setIfInBounds_toArray, List.set_cons_zero, List.set_cons_succ])
  refine wpAnyH_take (i := 5) (oi := ⟨some 170, _, _, _, _, _⟩) (v := .bool true) rfl (by kernel_rfl) (by kernel_rfl) (by kernel_rfl) (fun _ _ _ h => h) (Or.inl ⟨by kernel_rfl, by intro WW hSw; obtain ⟨s0, s1, a0, a1, a2, a3, a4, a5⟩ := hSw; go_simp⟩) (by assumption) ?_
  (try simp only [Act.put, List.setIfInBounds_toArray, List.set_cons_zero, List.set_cons_succ])
  refine wpAnyH_take (i := 6) (oi := ⟨some 171, _, _, _, _, _⟩) (v := .pointer (some ⟨gg, 0, none⟩)) rfl (by kernel_rfl) (by kernel_rfl) (by kernel_rfl) (fun _ _ _ h => h) (Or.inl ⟨by kernel_rfl, by intro WW hSw; obtain ⟨s0, s1, a0, a1, a2, a3, a4, a5⟩ := hSw; go_simp⟩) (by assumption) ?_
  (try simp only [Act.put, List.setIfInBounds_toArray, List.set_cons_zero, List.set_cons_succ])
  refine wpAnyH_take (i := 7) (oi := ⟨some 172, _, _, _, _, _⟩) (v := .pointer (some ⟨gg, 0, none⟩)) rfl (by kernel_rfl) (by kernel_rfl) (by kernel_rfl) (fun _ _ _ h => h) (Or.inl ⟨by kernel_rfl, by intro WW hSw; obtain ⟨s0, s1, a0, a1, a2, a3, a4, a5⟩ := hSw; go_simp⟩) (by assumption) ?_
  (try simp only [Act.put, List.setIfInBounds_toArray, List.set_cons_zero, List.set_cons_succ])
  refine wpAnyH_take (i := 8) (oi := ⟨some 173, _, _, _, _, _⟩) (v := .pointer (some ⟨gg, 0, none⟩)) rfl (by kernel_rfl) (by kernel_rfl) (by kernel_rfl) (fun _ _ _ h => h) (Or.inl ⟨by kernel_rfl, by intro WW hSw; obtain ⟨s0, s1, a0, a1, a2, a3, a4, a5⟩ := hSw; go_simp⟩) (by assumption) ?_
  (try simp only [Act.put, List.setIfInBounds_toArray, List.set_cons_zero, List.set_cons_succ])
  refine wpAnyH_take (i := 9) (oi := ⟨some 174, _, _, _, _, _⟩) (v := .pointer (some ⟨yg', 0, none⟩)) rfl (by kernel_rfl) (by kernel_rfl) (by kernel_rfl) (fun _ _ _ h => h) (Or.inl ⟨by kernel_rfl, by intro WW hSw; obtain ⟨s0, s1, a0, a1, a2, a3, a4, a5⟩ := hSw; go_simp⟩) (by assumption) ?_
  (try simp only [Act.put, List.setIfInBounds_toArray, List.set_cons_zero, List.set_cons_succ])
  refine wpAnyH_take (i := 10) (oi := ⟨some 175, _, _, _, _, _⟩) (v := .pointer (some ⟨w.heap.size, 2, none⟩)) rfl (by kernel_rfl) (by kernel_rfl) (by kernel_rfl) (fun _ _ _ h => h) (Or.inl ⟨by kernel_rfl, by intro WW hSw; obtain ⟨s0, s1, a0, a1, a2, a3, a4, a5⟩ := hSw; go_simp⟩) (by assumption) ?_
  (try simp only [Act.put, List.setIfInBounds_toArray, List.set_cons_zero, List.set_cons_succ])
  refine wpAnyH_take (i := 11) (oi := ⟨some 176, _, _, _, _, _⟩) (v := .int .u64 (a : Int)) rfl (by kernel_rfl) (by kernel_rfl) (by kernel_rfl) (fun _ _ _ h => h) (Or.inl ⟨by kernel_rfl, by intro WW hSw; obtain ⟨s0, s1, a0, a1, a2, a3, a4, a5⟩ := hSw; go_simp⟩) (by assumption) ?_
  (try simp only [Act.put, List.setIfInBounds_toArray, List.set_cons_zero, List.set_cons_succ])
  refine wpAnyH_take (i := 13) (oi := ⟨some 178, _, _, _, _, _⟩) (v := .pointer (some ⟨gg, 0, none⟩)) rfl (by kernel_rfl) (by kernel_rfl) (by kernel_rfl) (fun _ _ _ h => h) (Or.inl ⟨by kernel_rfl, by intro WW hSw; obtain ⟨s0, s1, a0, a1, a2, a3, a4, a5⟩ := hSw; go_simp⟩) (by assumption) ?_
  (try simp only [Act.put, List.setIfInBounds_toArray, List.set_cons_zero, List.set_cons_succ])
  refine wpAnyH_take (i := 14) (oi := ⟨some 179, _, _, _, _, _⟩) (v := .pointer (some ⟨gg, 0, none⟩)) rfl (by kernel_rfl) (by kernel_rfl) (by kernel_rfl) (fun _ _ _ h => h) (Or.inl ⟨by kernel_rfl, by intro WW hSw; obtain ⟨s0, s1, a0, a1, a2, a3, a4, a5⟩ := hSw; go_simp⟩) (by assumption) ?_
  (try simp only [Act.put, List.setIfInBounds_toArray, List.set_cons_zero, List.set_cons_succ])
  refine wpAnyH_take (i := 15) (oi := ⟨some 180, _, _, _, _, _⟩) (v := .pointer (some ⟨gg, 1, none⟩)) rfl (by kernel_rfl) (by kernel_rfl) (by kernel_rfl) (fun _ _ _ h => h) (Or.inl ⟨by kernel_rfl, by intro WW hSw; obtain ⟨s0, s1, a0, a1, a2, a3, a4, a5⟩ := hSw; go_simp⟩) (by assumption) ?_
  (try simp only [Act.put, List.setIfInBounds_toArray, List.set_cons_zero, List.set_cons_succ])
  refine wpAnyH_take (i := 16) (oi := ⟨some 181, _, _, _, _, _⟩) (v := .pointer (some ⟨g, 0, none⟩)) rfl (by kernel_rfl) (by kernel_rfl) (by kernel_rfl) (fun _ _ _ h => h) (Or.inl ⟨by kernel_rfl, by intro WW hSw; obtain ⟨s0, s1, a0, a1, a2, a3, a4, a5⟩ := hSw; go_simp⟩) (by assumption) ?_
  (try simp only [Act.put, List.setIfInBounds_toArray, List.set_cons_zero, List.set_cons_succ])
  refine wpAnyH_take (i := 17) (oi := ⟨some 182, _, _, _, _, _⟩) (v := .pointer (some ⟨w.heap.size, 2, none⟩)) rfl (by kernel_rfl) (by kernel_rfl) (by kernel_rfl) (fun _ _ _ h => h) (Or.inl ⟨by kernel_rfl, by intro WW hSw; obtain ⟨s0, s1, a0, a1, a2, a3, a4, a5⟩ := hSw; go_simp⟩) (by assumption) ?_
  (try simp only [Act.put, List.setIfInBounds_toArray, List.set_cons_zero, List.set_cons_succ])
  refine wpAnyH_take (i := 18) (oi := ⟨some 183, _, _, _, _, _⟩) (v := .int .u64 (a : Int)) rfl (by kernel_rfl) (by kernel_rfl) (by kernel_rfl) (fun _ _ _ h => h) (Or.inl ⟨by kernel_rfl, by intro WW hSw; obtain ⟨s0, s1, a0, a1, a2, a3, a4, a5⟩ := hSw; go_simp⟩) (by assumption) ?_
  (try simp only [Act.put, List.setIfInBounds_toArray, List.set_cons_zero, List.set_cons_succ])
  refine wpAnyH_one (i := 12) (oi := ⟨_, _, _, _, _, _⟩) rfl (by kernel_rfl) (fun K hK => ?_)
  refine step_calls (by rfl) 19 EGPending.out [.tmp 174, .tmp 176] _ rfl [.pointer (some ⟨yg', 0, none⟩), .int .u64 (a : Int)] rfl (H.out.pendP HR.out) ?_
  rintro e x1 ⟨rfl, hH⟩
  refine ⟨_, rfl, hK _ _ hH.sg (fun _ => ?_)⟩
  have hHeld := hH.sg
  clear hK K H
  have H := Lib.hid hH
  clear hH
  (try simp only [Act.put, List.setIfInBounds_toArray, List.set_cons_zero, List.set_cons_succ])
  refine wpAnyH_one (i := 19) (oi := ⟨_, _, _, _, _, _⟩) rfl (by kernel_rfl) (fun K hK => ?_)
  refine step_calls (by rfl) 35 EGr2Pending.out [.tmp 181, .tmp 183] _ rfl [.pointer (some ⟨g, 0, none⟩), .int .u64 (a : Int)] rfl (H.out.pendR HR.out hnl ha) ?_
  rintro e x2 ⟨rfl, hH⟩
  refine ⟨_, rfl, hK _ _ hH.sg (fun _ => ?_)⟩
  have hHeld := hH.sg
  clear hK K H
  have H := Lib.hid hH
  clear hH
  (try simp only [Act.put, List.setIfInBounds_toArray, List.set_cons_zero, List.set_cons_succ])
  refine wpAnyH_take (i := 20) (oi := ⟨some 185, _, _, _, _, _⟩) (v := .bool true) rfl (by kernel_rfl) (by kernel_rfl) (by kernel_rfl) (fun _ _ _ h => h) (Or.inl ⟨by kernel_rfl, by intro WW hSw; obtain ⟨s0, s1, a0, a1, a2, a3, a4, a5⟩ := hSw; go_simp⟩) (by assumption) ?_
  (try simp only [Act.put, List.setIfInBounds_toArray, List.set_cons_zero, List.set_cons_succ])
  refine wpAnyH_take (i := 21) (oi := ⟨some 186, _, _, _, _, _⟩) (v := .bool true) rfl (by kernel_rfl) (by kernel_rfl) (by kernel_rfl) (fun _ _ _ h => h) (Or.inl ⟨by kernel_rfl, by intro WW hSw; obtain ⟨s0, s1, a0, a1, a2, a3, a4, a5⟩ := hSw; go_simp⟩) (by assumption) ?_
  (try simp only [Act.put, List.setIfInBounds_toArray, List.set_cons_zero, List.set_cons_succ])
  refine wpAnyH_take (i := 22) (oi := ⟨some 187, _, _, _, _, _⟩) (v := .bool true) rfl (by kernel_rfl) (by kernel_rfl) (by kernel_rfl) (fun _ _ _ h => h) (Or.inl ⟨by kernel_rfl, by intro WW hSw; obtain ⟨s0, s1, a0, a1, a2, a3, a4, a5⟩ := hSw; go_simp⟩) (by assumption) ?_
  (try simp only [Act.put, List.setIfInBounds_toArray, List.set_cons_zero, List.set_cons_succ])
  refine wpAnyH_take (i := 23) (oi := ⟨some 188, _, _, _, _, _⟩) (v := .pointer (some ⟨gg, 0, none⟩)) rfl (by kernel_rfl) (by kernel_rfl) (by kernel_rfl) (fun _ _ _ h => h) (Or.inl ⟨by kernel_rfl, by intro WW hSw; obtain ⟨s0, s1, a0, a1, a2, a3, a4, a5⟩ := hSw; go_simp⟩) (by assumption) ?_
  (try simp only [Act.put, List.setIfInBounds_toArray, List.set_cons_zero, List.set_cons_succ])
  refine wpAnyH_one (i := 24) (oi := ⟨_, _, _, _, _, _⟩) rfl (by kernel_rfl) (fun K hK => ?_)
  refine step_calls (by rfl) 12 EGgsame.out [.tmp 188] _ rfl [.pointer (some ⟨gg, 0, none⟩)] rfl (H.out.same HR.out hnl) ?_
  rintro e x3 ⟨rfl, hH⟩
  refine ⟨_, rfl, hK _ _ hH.sg (fun _ => ?_)⟩
  have hHeld := hH.sg
  clear hK K H
  have H := Lib.hid hH
  clear hH
  (try simp only [Act.put, List.setIfInBounds_toArray, List.set_cons_zero, List.set_cons_succ])
  refine wpAnyH_take (i := 25) (oi := ⟨some 190, _, _, _, _, _⟩) (v := .bool true) rfl (by kernel_rfl) (by kernel_rfl) (by kernel_rfl) (fun _ _ _ h => h) (Or.inl ⟨by kernel_rfl, by intro WW hSw; obtain ⟨s0, s1, a0, a1, a2, a3, a4, a5⟩ := hSw; go_simp⟩) (by assumption) ?_
  (try simp only [Act.put, List.setIfInBounds_toArray, List.set_cons_zero, List.set_cons_succ])
  refine wpAnyH_take (i := 26) (oi := ⟨some 4, _, _, _, _, _⟩) (v := .bool true) rfl (by kernel_rfl) (by kernel_rfl) (by kernel_rfl) (fun _ _ _ h => h) (Or.inl ⟨by kernel_rfl, by intro WW hSw; obtain ⟨s0, s1, a0, a1, a2, a3, a4, a5⟩ := hSw; go_simp⟩) (by assumption) ?_
  (try simp only [Act.put, List.setIfInBounds_toArray, List.set_cons_zero, List.set_cons_succ])
  refine wpAnyH_done (by kernel_rfl) ?_ _
  unfold NoPanic
  clear hHeld
  have HE := Lib.hid H.out.fin
  clear H
  go_wp2
  go_ret
  exact ⟨rfl, HE.out⟩
end Go.Proofs.Ytkeajfedlhgejaa
