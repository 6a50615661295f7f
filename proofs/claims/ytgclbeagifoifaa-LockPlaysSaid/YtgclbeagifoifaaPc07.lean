/- Texts of this claim, packed: 7Run, 7Runs, 7Known. -/
import Derived.Test.YtgclbeagifoifaaPc06
import Derived.Deep.LoopGhost
import Derived.WalkMore
/- least, Runs: on whom a client's going on hangs; for any table. -/
namespace Go.Proofs.Ytgclbeagifoifaa
open Go.RowKit
set_option linter.unusedVariables false
def LeastInv (s : Lk) (c m k : Nat) (v5 v6 : Value) : Prop := ∃ j l a : Nat, 1 ≤ j ∧ j + k = m ∧ it s c j = some a ∧ a < s.n ∧ v5 = .int .i64 (l : Int) ∧ v6 = .int .i64 (a : Int) ∧ l < s.n ∧ (∃ i, i < j ∧ it s c i = some l) ∧ ∀ i y, i < j → it s c i = some y → l ≤ y
def IntPost (w : World) (P : Nat → Prop) (e : Ending) (w' : World) : Prop := ∃ r : Nat, P r ∧ e = .returned (.int .i64 (r : Int)) ∧ w = w'
theorem hV_of {s : Lk} {c d : Nat} (h : nx s c = some d) : hV (s.hm (s.wt c)) = .int .i64 (d : Int) ∧ (s.hm (s.wt c)).isSome = true := by
  have h' : s.hm (s.wt c) = some d := h
  rw [h']
  exact ⟨rfl, rfl⟩
theorem ahead_yes {w : World} {g b : Nat} {s : Lk} (h : KAt w g b s) {c d : Nat} (hc : c < s.n) (hd : nx s c = some d) : Calls Try.prog 34 #[.pointer (some ⟨g, 0, none⟩), .int .i64 (c : Int)] w fun e w' => e = .returned (.tuple #[.int .i64 (d : Int), .bool true]) ∧ w = w' := by
  have H := ahead_any h hc
  rw [(hV_of hd).1, (hV_of hd).2] at H
  exact H
theorem ahead_stop {w : World} {g b : Nat} {s : Lk} (h : KAt w g b s) {c : Nat} (hc : c < s.n) (hd : nx s c = none) : Calls Try.prog 34 #[.pointer (some ⟨g, 0, none⟩), .int .i64 (c : Int)] w fun e w' => e = .returned (.tuple #[.int .i64 0, .bool false]) ∧ w = w' := by
  have H := ahead_any h hc
  have h' : s.hm (s.wt c) = none := hd
  rw [h'] at H
  exact H
set_option maxHeartbeats 1000000 in
theorem least_any {w : World} {g b : Nat} {s : Lk} (h : KAt w g b s) {c : Nat} (hc : c < s.n) {m : Nat} (hm : 0 < m) (hcc : it s c m = some c) :
    Calls Try.prog 35 #[.pointer (some ⟨g, 0, none⟩), .int .i64 (c : Int)] w (IntPost w (fun r => Circ s c r)) := by
  have HK := Lib.hid h
  have HC := Lib.hid hcc
  have hn64 := h.ok.n2
  have step : ∀ j a, j < m → it s c j = some a → ∃ d, nx s a = some d ∧ d < s.n ∧ it s c (j + 1) = some d := by
    intro j a hj ha
    have e := it_from ha (show j ≤ m by omega)
    rw [hcc] at e
    cases hd : nx s a with
    | none =>
      rw [it_end hd (by omega)] at e
      cases e
    | some d => exact ⟨d, rfl, nx_lt h.ok hd, by simp [it, ha, hd]⟩
  have HS := Lib.hid step
  obtain ⟨d, hd, hdn, hd1⟩ := step 0 c hm rfl
  have HA := Lib.hid (ahead_yes h hc hd)
  have hcs := hc
  clear h hcc step hd
  go_enter Try.func35, Try.ntmps35
  go_wp2_with fail
  refine HA.out.mono ?_
  rintro e w1 ⟨rfl, rfl⟩
  go_wp2
  go_loopg [5, 6] (m - 1) (fun k v5 v6 wr => LeastInv s c m k v5 v6 ∧ w = wr)
  case atStart => exact ⟨⟨1, c, d, by omega, by omega, hd1, hdn, rfl, rfl, hcs, ⟨0, by omega, rfl⟩, fun i y hi hy => by
    obtain rfl : i = 0 := by omega
    cases hy
    exact Nat.le_refl _⟩, rfl⟩
  case round =>
    obtain ⟨⟨j, l, a, hj1, hjk, ha, han, rfl, rfl, hln, hlo, hmin⟩, rfl⟩ := hrel
    have HA := Lib.hid ha
    have HL := Lib.hid hlo
    have HM := Lib.hid hmin
    clear ha hlo hmin hd1
    by_cases e : a = c
    · subst e
      have HE : Hid (IntPost w (fun r => Circ s a r) (.returned (.int .i64 (l : Int))) w) := Lib.hid ⟨l, ⟨⟨m, hm, HC.out⟩, ⟨_, HL.out.choose_spec.2⟩, fun y hy => by
        obtain ⟨i, hi, hy'⟩ := circ_all (by omega) HA.out hy
        exact HM.out i y hi hy'⟩, rfl, rfl⟩
      clear hm
      go_wp2
      go_ret
      exact HE.out
    · have hjm : j < m := by
        by_cases h1 : j < m
        · exact h1
        · obtain rfl : j = m := by omega
          have := HA.out
          rw [HC.out] at this
          cases this
          exact absurd rfl e
      obtain ⟨d2, hd2, hdn2, hd3⟩ := HS.out j a hjm HA.out
      have HA2 := Lib.hid (ahead_yes HK.out han hd2)
      have HD3 := Lib.hid hd3
      have hne := nat_ne e
      clear hd2 hd3
      have hrel : ∀ l' : Nat, (l' = l ∨ l' = a) → l' ≤ l → l' ≤ a → LeastInv s c m (gk - 1) (.int .i64 (l' : Int)) (.int .i64 (d2 : Int)) := by
        intro l' h1 h2 h3
        refine ⟨j + 1, l', d2, by omega, by omega, HD3.out, hdn2, rfl, rfl, by omega, ?_, ?_⟩
        · rcases h1 with rfl | rfl
          · obtain ⟨i, hi, hl⟩ := HL.out
            exact ⟨i, by omega, hl⟩
          · exact ⟨j, by omega, HA.out⟩
        · intro i y hi hy
          by_cases e : i < j
          · exact Nat.le_trans h2 (HM.out i y e hy)
          · obtain rfl : i = j := by omega
            have := HA.out
            rw [hy] at this
            cases this
            exact h3
      have HR := Lib.hid hrel
      clear hrel
      by_cases hl : a < l
      · have hl' : decide ((a : Int) < (l : Int)) = true := by simpa using hl
        have hl2 : (a : Int) < (l : Int) := by omega
        have HP := Lib.hid (HR.out a (.inr rfl) (by omega) (by omega))
        clear hl
        go_wp2_with fail
        refine HA2.out.mono ?_
        rintro e w1 ⟨rfl, rfl⟩
        go_wp2
        go_roundg (gk - 1)
        case measure => omega
        case rel => exact ⟨HP.out, rfl⟩
      · have hl' : decide ((a : Int) < (l : Int)) = false := by simpa using hl
        have hl2 : ¬ (a : Int) < (l : Int) := by omega
        have HP := Lib.hid (HR.out l (.inl rfl) (by omega) (by omega))
        clear hl
        go_wp2_with fail
        refine HA2.out.mono ?_
        rintro e w1 ⟨rfl, rfl⟩
        go_wp2
        go_roundg (gk - 1)
        case measure => omega
        case rel => exact ⟨HP.out, rfl⟩
end Go.Proofs.Ytgclbeagifoifaa
/- Runs: on whom a client's going on hangs; for any table and client. -/
namespace Go.Proofs.Ytgclbeagifoifaa
open Go.RowKit
set_option linter.unusedVariables false
/-- Who was met, as cells. -/
def barr (V : List Nat) : Array Value := Array.ofFn fun i : Fin 64 => .bool (decide (i.val ∈ V))
theorem barr_get (V : List Nat) {i : Nat} (h : i < 64) : (barr V)[i]? = some (.bool (decide (i ∈ V))) := by simp [barr, h]
theorem barr_size (V : List Nat) : (barr V).size = 64 := by simp [barr]
theorem barr_set (V : List Nat) (c : Nat) : (barr V).setIfInBounds c (.bool true) = barr (c :: V) := by
  apply Array.ext_getElem?
  intro j
  rw [Array.getElem?_setIfInBounds]
  by_cases hj : j < 64
  · by_cases e : c = j
    · subst e
      have hm : c ∈ c :: V := List.mem_cons_self
      rw [if_pos rfl, if_pos (by rw [barr_size]; exact hj), barr_get _ hj, decide_eq_true hm]
    · have hn : ¬ j = c := fun h => e h.symm
      have hd : decide (j ∈ c :: V) = decide (j ∈ V) := by simp [hn]
      rw [if_neg e, barr_get V hj, barr_get (c :: V) hj, hd]
  · have h1 : (barr (c :: V))[j]? = none := Array.getElem?_eq_none (by rw [barr_size]; omega)
    have h2 : (barr V)[j]? = none := Array.getElem?_eq_none (by rw [barr_size]; omega)
    rw [h1, h2]
    by_cases e : c = j
    · subst e
      rw [if_pos rfl, if_neg (by rw [barr_size]; omega)]
    · rw [if_neg e]
def RunsInv (w : World) (h : Nat) (s : Lk) (c0 k : Nat) (v : Value) (wr : World) : Prop := ∃ (cur : Nat) (V : List Nat), v = .int .i64 (cur : Int) ∧ Met s c0 V cur ∧ V.length + k = 64 ∧ Row wr h 68 (barr V) ∧ Below w.heap.size w wr ∧ w.heap.size ≤ h
def RunsPost (w : World) (s : Lk) (c0 : Nat) (e : Ending) (w' : World) : Prop := ∃ r : Nat, RunsIs s c0 r ∧ e = .returned (.int .i64 (r : Int)) ∧ Below w.heap.size w w'
theorem runs_out {p : Option Addr} {w : World} {c : Int} (h : Calls Try.prog 33 #[.pointer p, .int .i64 c] w fun e w' => e = .returned (.bool false) ∧ w = w') :
    Calls Try.prog 16 #[.pointer p, .int .i64 c] w fun e w' => e = .returned (.int .i64 (-1)) ∧ w = w' := by
  have H := Lib.hid h
  clear h
  go_enter Try.func16, Try.ntmps16
  go_wp2_with fail
  go_step3
  go_wp2_with fail
  refine H.out.mono ?_
  rintro e w1 ⟨rfl, rfl⟩
  go_wp2
  rw [Exit.noGoto_ret]
  go_ret
  exact ⟨rfl, rfl⟩
set_option maxRecDepth 100000 in
set_option maxHeartbeats 1000000 in
theorem runs_any {w : World} {g b : Nat} {s : Lk} (h : KAt w g b s) {c : Nat} (hc : c < s.n) :
    Calls Try.prog 16 #[.pointer (some ⟨g, 0, none⟩), .int .i64 (c : Int)] w (RunsPost w s c) := by
  have hI := kis_any h (c : Int)
  rw [isC_yes hc] at hI
  have HI := Lib.hid hI
  have HK := Lib.hid h
  have HC := Lib.hid hc
  clear h hI hc
  go_enter Try.func16, Try.ntmps16
  go_wp2_with fail
  go_step3
  go_wp2_with fail
  refine HI.out.mono ?_
  rintro e w1 ⟨rfl, rfl⟩
  go_wp2
  go_step3
  go_wp2
  go_loopg [1] 64 (fun k v wr => RunsInv w w.heap.size s c k v wr)
  case atStart => exact ⟨c, [], rfl, ⟨List.nodup_nil, fun d h => (by cases h), (by simp), HC.out, ⟨0, rfl⟩, fun d h => (by cases h)⟩, rfl, Eq.subst (motive := fun a => Row (w.alloc (.cells a 68)) w.heap.size 68 (barr [])) (by kernel_rfl) (Row.new w 68 (barr [])), alloc_below w _, Nat.le_refl _⟩
  case round =>
    obtain ⟨cur, V, rfl, hM, hk, hR, hB, _⟩ := hrel
    have hcur := hM.cl
    have hn64 := HK.out.ok.n2
    have c64 : cur < 64 := by omega
    have c64' : (cur : Int) < 64 := by omega
    have hgl := HK.out.row.lt
    have hbl := HK.out.mp.lt
    have hf := hR.free cur
    have hc0 : wr.cell? ⟨w.heap.size, cur, none⟩ = some (.bool (decide (cur ∈ V))) := by rw [hR.cell]; exact barr_get V c64
    have hR2 : Row (wr.setCell ⟨w.heap.size, cur, none⟩ (.bool true)) w.heap.size 68 (barr (cur :: V)) := by
      have := hR.set cur (.bool true)
      rw [barr_set] at this
      exact this
    have hB2 : Below w.heap.size w (wr.setCell ⟨w.heap.size, cur, none⟩ (.bool true)) := hB.setCell (Nat.le_refl _) _
    have HM := Lib.hid hM
    have HR2 := Lib.hid hR2
    have HB2 := Lib.hid hB2
    have HK2 := Lib.hid (HK.out.below hB2)
    generalize decide (cur ∈ V) = oldv at hc0
    clear hM hR hR2 hB hB2
    cases hn : nx s cur with
    | none =>
      have HA := Lib.hid (ahead_stop HK2.out hcur hn)
      have HE := Lib.hid (show RunsPost w s c (.returned (.int .i64 (cur : Int))) (wr.setCell ⟨w.heap.size, cur, none⟩ (.bool true)) from ⟨cur, .inl (by
        obtain ⟨i, hi⟩ := HM.out.from_
        exact ⟨i, hi, hn⟩), rfl, HB2.out⟩)
      clear hn
      go_wp2_with fail
      refine HA.out.mono ?_
      rintro e w1 ⟨rfl, rfl⟩
      go_wp2
      rw [Exit.noGoto_ret]
      go_ret
      exact HE.out
    | some nxt =>
      have HA := Lib.hid (ahead_yes HK2.out hcur hn)
      have hnl := nx_lt HK.out.ok hn
      have hn64 : nxt < 64 := by omega
      have hn64' : (nxt : Int) < 64 := by omega
      have hc1 : (wr.setCell ⟨w.heap.size, cur, none⟩ (.bool true)).cell? ⟨w.heap.size, nxt, none⟩ = some (.bool (decide (nxt ∈ cur :: V))) := by rw [HR2.out.cell]; exact barr_get _ hn64
      have HN := Lib.hid hn
      clear hn
      obtain ⟨W, hW⟩ : ∃ W, W = wr.setCell ⟨w.heap.size, cur, none⟩ (.bool true) := ⟨_, rfl⟩
      by_cases hm : nxt ∈ cur :: V
      · have hd : decide (nxt ∈ cur :: V) = true := decide_eq_true hm
        rw [hd] at hc1
        obtain ⟨m, hm0, hmc⟩ := HM.out.circ HN.out hm
        have HL := Lib.hid (least_any HK2.out hcur hm0 hmc)
        have HP : Hid (∀ r : Nat, Circ s cur r → RunsPost w s c (.returned (.int .i64 (r : Int))) (wr.setCell ⟨w.heap.size, cur, none⟩ (.bool true))) := Lib.hid fun r hr => ⟨r, .inr ⟨cur, HM.out.from_, hr⟩, rfl, HB2.out⟩
        clear hm hd hmc
        go_wp2_with fail
        refine HA.out.mono ?_
        rintro e w1 ⟨rfl, rfl⟩
        go_wp2_with fail
        refine HL.out.mono ?_
        rintro e w1 ⟨r, hr, rfl, rfl⟩
        have HE := Lib.hid (HP.out r hr)
        clear hr
        go_wp2
        rw [Exit.noGoto_ret]
        go_ret
        exact HE.out
      · have hd : decide (nxt ∈ cur :: V) = false := decide_eq_false hm
        rw [hd] at hc1
        have HE : Hid (RunsInv w w.heap.size s c (gk - 1) (.int .i64 (nxt : Int)) (wr.setCell ⟨w.heap.size, cur, none⟩ (.bool true))) := Lib.hid ⟨nxt, cur :: V, rfl, HM.out.step HK.out.ok HN.out hm, by
          have := HM.out.few
          simp only [List.length_cons]
          omega, HR2.out, HB2.out, Nat.le_refl _⟩
        have hgk : gk - 1 < gk := by have := HM.out.few; omega
        clear hm hd
        go_wp2_with fail
        refine HA.out.mono ?_
        rintro e w1 ⟨rfl, rfl⟩
        go_wp2
        go_roundg (gk - 1)
        case measure => exact hgk
        case rel => exact HE.out
end Go.Proofs.Ytgclbeagifoifaa
/- The chapter's row on locks; without conditions. -/
namespace Go.Proofs.Ytgclbeagifoifaa
open Go.RowKit
set_option linter.unusedVariables false
/-- A table in memory that is new since w0, in a world in which nothing older has turned. -/
structure OwnK (w0 w : World) (g b : Nat) (s : Lk) : Prop where
  at_ : KAt w g b s
  lg : w0.heap.size ≤ g
  lb : w0.heap.size ≤ b
  bel : Below w0.heap.size w0 w
theorem OwnK.below {w0 w w' : World} {g b : Nat} {s : Lk} (h : OwnK w0 w g b s) (hb : Below w.heap.size w w') : OwnK w0 w' g b s :=
  ⟨h.at_.below hb, h.lg, h.lb, h.bel.trans (hb.mono h.bel.size)⟩
theorem OwnK.turn {w0 w w' : World} {g b : Nat} {s s' : Lk} (h : OwnK w0 w g b s) (hk : KAt w' g b s') (hb : But w w' (kfp g b)) : OwnK w0 w' g b s' :=
  ⟨hk, h.lg, h.lb, h.bel.trans (hb.below h.bel.size (fun k hk => by have h1 := h.lg; have h2 := h.lb; rcases hk with rfl | rfl <;> omega))⟩
theorem runsPost_is {w : World} {s : Lk} {c r : Nat} (hr : RunsIs s c r) {e : Ending} {w' : World} (h : RunsPost w s c e w') : e = .returned (.int .i64 (r : Int)) ∧ Below w.heap.size w w' := by
  obtain ⟨r', h1, h2, h3⟩ := h
  rw [runs_one hr h1]
  exact ⟨h2, h3⟩
def kk1 : Lk := tryS (lk0 3) 0 64
def kk2 : Lk := tryS kk1 1 64
def kk3 : Lk := relS kk2 0 64
theorem k2_runs : RunsIs kk2 1 0 := .inl ⟨1, rfl, rfl⟩
theorem k3_runs : RunsIs kk3 1 1 := .inl ⟨0, rfl, rfl⟩
set_option maxRecDepth 100000 in
set_option maxHeartbeats 4000000 in
theorem known7_any (w : World) : Calls Try.prog 5 #[] w fun e w' => e = .returned (.bool true) ∧ Below w.heap.size w w' := by
  go_enter Try.func5, Try.ntmps5
  go_wp2_with fail
  refine (knew_yes (n := 3) _ (by omega) (by omega)).mono ?_
  rintro e w1 ⟨g, b, rfl, hK, hg, hb, hB⟩
  have HO := Lib.hid (show OwnK w w1 g b (lk0 3) from ⟨hK, hg, hb, hB⟩)
  clear hK hg hb hB
  go_wp2_with fail
  refine (try_any HO.out.at_ (c := 0) (id := 64) (by decide) (by decide) (by decide) (by decide)).mono ?_
  rintro e w2 ⟨he, hK, hB⟩
  have HO2 := Lib.hid (HO.out.turn (s' := kk1) hK hB)
  obtain rfl : e = .returned (.bool true) := he
  clear hK hB HO
  go_wp2_with fail
  refine (try_any HO2.out.at_ (c := 1) (id := 64) (by decide) (by decide) (by decide) (by decide)).mono ?_
  rintro e w3 ⟨he, hK, hB⟩
  have HO3 := Lib.hid (HO2.out.turn (s' := kk2) hK hB)
  obtain rfl : e = .returned (.bool false) := he
  clear hK hB HO2
  go_wp2_with fail
  refine (wants_any HO3.out.at_ (c := 1) (by decide)).mono ?_
  rintro e w4 ⟨he, hB⟩
  have HO4 := Lib.hid (HO3.out.below hB)
  obtain rfl : e = .returned (.tuple #[.int .u64 64, .bool true]) := he
  clear hB HO3
  go_wp2_with fail
  refine (runs_any HO4.out.at_ (c := 1) (by decide)).mono ?_
  intro e w5 hr
  obtain ⟨he, hB⟩ := runsPost_is k2_runs hr
  have HO5 := Lib.hid (HO4.out.below hB)
  obtain rfl : e = .returned (.int .i64 0) := he
  clear hB HO4 hr
  go_wp2_with fail
  refine (rel_any HO5.out.at_ (c := 0) (id := 64) (by decide) (by decide) (by decide)).mono ?_
  rintro e w6 ⟨he, hK, hB⟩
  have HO6 := Lib.hid (HO5.out.turn (s' := kk3) hK hB)
  obtain rfl : e = .returned (.bool true) := he
  clear hK hB HO5
  go_wp2_with fail
  refine (runs_any HO6.out.at_ (c := 1) (by decide)).mono ?_
  intro e w7 hr
  obtain ⟨he, hB⟩ := runsPost_is k3_runs hr
  have HO7 := Lib.hid (HO6.out.below hB)
  obtain rfl : e = .returned (.int .i64 1) := he
  clear hB HO6 hr
  go_wp2_with fail
  refine (try_any HO7.out.at_ (c := 2) (id := 64) (by decide) (by decide) (by decide) (by decide)).mono ?_
  rintro e w8 ⟨he, hK, hB⟩
  have HE := Lib.hid (HO7.out.turn hK hB).bel
  obtain rfl : e = .returned (.bool true) := he
  clear hK hB HO7
  go_wp2
  go_ret
  exact ⟨rfl, HE.out⟩
end Go.Proofs.Ytgclbeagifoifaa
