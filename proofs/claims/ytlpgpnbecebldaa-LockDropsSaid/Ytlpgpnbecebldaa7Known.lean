/- The chapter's row on locks; without conditions. -/
import Derived.Test.Ytlpgpnbecebldaa7Runs
namespace Go.Proofs.Ytlpgpnbecebldaa
open Go.RowKit
set_option linter.unusedVariables false
/-- A table in memory that is new since w0, in a world in which nothing older has turned. -/
structure OwnK (w0 w : World) (g b : Nat) (s : Lk) : Prop where
  at_ : KAt w g b s
  lg : w0.heap.size ≤ g
  lb : w0.heap.size ≤ b
  bel : Below w0.heap.size w0 w
theorem OwnK.below {w0 w w' : World} {g b : Nat} {s : Lk} (h : OwnK w0 w g b s) (hb : Below w.heap.size w w') : OwnK w0 w' g b s :=
  ⟨h.at_.below hb, h.lg, h.lb, h.bel.trans (hb.mono h.bel.size)⟩
theorem OwnK.turn {w0 w w' : World} {g b : Nat} {s s' : Lk} (h : OwnK w0 w g b s) (hk : KAt w' g b s') (hb : But w w' (kfp g b)) : OwnK w0 w' g b s' :=
  ⟨hk, h.lg, h.lb, h.bel.trans (hb.below h.bel.size (fun k hk => by have h1 := h.lg; have h2 := h.lb; rcases hk with rfl | rfl <;> omega))⟩
theorem runsPost_is {w : World} {s : Lk} {c r : Nat} (hr : RunsIs s c r) {e : Ending} {w' : World} (h : RunsPost w s c e w') : e = .returned (.int .i64 (r : Int)) ∧ Below w.heap.size w w' := by
  obtain ⟨r', h1, h2, h3⟩ := h
  rw [runs_one hr h1]
  exact ⟨h2, h3⟩
def kk1 : Lk := tryS (lk0 3) 0 64
def kk2 : Lk := tryS kk1 1 64
def kk3 : Lk := relS kk2 0 64
theorem k2_runs : RunsIs kk2 1 0 := .inl ⟨1, rfl, rfl⟩
theorem k3_runs : RunsIs kk3 1 1 := .inl ⟨0, rfl, rfl⟩
set_option maxRecDepth 100000 in
set_option maxHeartbeats 4000000 in
theorem known7_any (w : World) : Calls Try.prog 6 #[] w fun e w' => e = .returned (.bool true) ∧ Below w.heap.size w w' := by
  go_enter Try.func6, Try.ntmps6
  go_wp2_with fail
  refine (knew_yes (n := 3) _ (by omega) (by omega)).mono ?_
  rintro e w1 ⟨g, b, rfl, hK, hg, hb, hB⟩
  have HO := Lib.hid (show OwnK w w1 g b (lk0 3) from ⟨hK, hg, hb, hB⟩)
  clear hK hg hb hB
  go_wp2_with fail
  refine (try_any HO.out.at_ (c := 0) (id := 64) (by decide) (by decide) (by decide) (by decide)).mono ?_
  rintro e w2 ⟨he, hK, hB⟩
  have HO2 := Lib.hid (HO.out.turn (s' := kk1) hK hB)
  obtain rfl : e = .returned (.bool true) := he
  clear hK hB HO
  go_wp2_with fail
  refine (try_any HO2.out.at_ (c := 1) (id := 64) (by decide) (by decide) (by decide) (by decide)).mono ?_
  rintro e w3 ⟨he, hK, hB⟩
  have HO3 := Lib.hid (HO2.out.turn (s' := kk2) hK hB)
  obtain rfl : e = .returned (.bool false) := he
  clear hK hB HO2
  go_wp2_with fail
  refine (wants_any HO3.out.at_ (c := 1) (by decide)).mono ?_
  rintro e w4 ⟨he, hB⟩
  have HO4 := Lib.hid (HO3.out.below hB)
  obtain rfl : e = .returned (.tuple #[.int .u64 64, .bool true]) := he
  clear hB HO3
  go_wp2_with fail
  refine (runs_any HO4.out.at_ (c := 1) (by decide)).mono ?_
  intro e w5 hr
  obtain ⟨he, hB⟩ := runsPost_is k2_runs hr
  have HO5 := Lib.hid (HO4.out.below hB)
  obtain rfl : e = .returned (.int .i64 0) := he
  clear hB HO4 hr
  go_wp2_with fail
  refine (rel_any HO5.out.at_ (c := 0) (id := 64) (by decide) (by decide) (by decide)).mono ?_
  rintro e w6 ⟨he, hK, hB⟩
  have HO6 := Lib.hid (HO5.out.turn (s' := kk3) hK hB)
  obtain rfl : e = .returned (.bool true) := he
  clear hK hB HO5
  go_wp2_with fail
  refine (runs_any HO6.out.at_ (c := 1) (by decide)).mono ?_
  intro e w7 hr
  obtain ⟨he, hB⟩ := runsPost_is k3_runs hr
  have HO7 := Lib.hid (HO6.out.below hB)
  obtain rfl : e = .returned (.int .i64 1) := he
  clear hB HO6 hr
  go_wp2_with fail
  refine (try_any HO7.out.at_ (c := 2) (id := 64) (by decide) (by decide) (by decide) (by decide)).mono ?_
  rintro e w8 ⟨he, hK, hB⟩
  have HE := Lib.hid (HO7.out.turn hK hB).bel
  obtain rfl : e = .returned (.bool true) := he
  clear hK hB HO7
  go_wp2
  go_ret
  exact ⟨rfl, HE.out⟩
end Go.Proofs.Ytlpgpnbecebldaa
