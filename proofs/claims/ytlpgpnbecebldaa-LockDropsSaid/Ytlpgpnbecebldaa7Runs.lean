/- Runs: on whom a client's going on hangs; for any table and client. -/
import Derived.Test.Ytlpgpnbecebldaa7Run
namespace Go.Proofs.Ytlpgpnbecebldaa
open Go.RowKit
set_option linter.unusedVariables false
/-- Who was met, as cells. -/
def barr (V : List Nat) : Array Value := Array.ofFn fun i : Fin 64 => .bool (decide (i.val ∈ V))
theorem barr_get (V : List Nat) {i : Nat} (h : i < 64) : (barr V)[i]? = some (.bool (decide (i ∈ V))) := by simp [barr, h]
theorem barr_size (V : List Nat) : (barr V).size = 64 := by simp [barr]
theorem barr_set (V : List Nat) (c : Nat) : (barr V).setIfInBounds c (.bool true) = barr (c :: V) := by
  apply Array.ext_getElem?
  intro j
  rw [Array.getElem?_setIfInBounds]
  by_cases hj : j < 64
  · by_cases e : c = j
    · subst e
      have hm : c ∈ c :: V := List.mem_cons_self
      rw [if_pos rfl, if_pos (by rw [barr_size]; exact hj), barr_get _ hj, decide_eq_true hm]
    · have hn : ¬ j = c := fun h => e h.symm
      have hd : decide (j ∈ c :: V) = decide (j ∈ V) := by simp [hn]
      rw [if_neg e, barr_get V hj, barr_get (c :: V) hj, hd]
  · have h1 : (barr (c :: V))[j]? = none := Array.getElem?_eq_none (by rw [barr_size]; omega)
    have h2 : (barr V)[j]? = none := Array.getElem?_eq_none (by rw [barr_size]; omega)
    rw [h1, h2]
    by_cases e : c = j
    · subst e
      rw [if_pos rfl, if_neg (by rw [barr_size]; omega)]
    · rw [if_neg e]
def RunsInv (w : World) (h : Nat) (s : Lk) (c0 k : Nat) (v : Value) (wr : World) : Prop := ∃ (cur : Nat) (V : List Nat), v = .int .i64 (cur : Int) ∧ Met s c0 V cur ∧ V.length + k = 64 ∧ Row wr h 72 (barr V) ∧ Below w.heap.size w wr ∧ w.heap.size ≤ h
def RunsPost (w : World) (s : Lk) (c0 : Nat) (e : Ending) (w' : World) : Prop := ∃ r : Nat, RunsIs s c0 r ∧ e = .returned (.int .i64 (r : Int)) ∧ Below w.heap.size w w'
theorem runs_out {p : Option Addr} {w : World} {c : Int} (h : Calls Try.prog 33 #[.pointer p, .int .i64 c] w fun e w' => e = .returned (.bool false) ∧ w = w') :
    Calls Try.prog 20 #[.pointer p, .int .i64 c] w fun e w' => e = .returned (.int .i64 (-1)) ∧ w = w' := by
  have H := Lib.hid h
  clear h
  go_enter Try.func20, Try.ntmps20
  go_wp2_with fail
  go_step3
  go_wp2_with fail
  refine H.out.mono ?_
  rintro e w1 ⟨rfl, rfl⟩
  go_wp2
  rw [Exit.noGoto_ret]
  go_ret
  exact ⟨rfl, rfl⟩
set_option maxRecDepth 100000 in
set_option maxHeartbeats 1000000 in
theorem runs_any {w : World} {g b : Nat} {s : Lk} (h : KAt w g b s) {c : Nat} (hc : c < s.n) :
    Calls Try.prog 20 #[.pointer (some ⟨g, 0, none⟩), .int .i64 (c : Int)] w (RunsPost w s c) := by
  have hI := kis_any h (c : Int)
  rw [isC_yes hc] at hI
  have HI := Lib.hid hI
  have HK := Lib.hid h
  have HC := Lib.hid hc
  clear h hI hc
  go_enter Try.func20, Try.ntmps20
  go_wp2_with fail
  go_step3
  go_wp2_with fail
  refine HI.out.mono ?_
  rintro e w1 ⟨rfl, rfl⟩
  go_wp2
  go_step3
  go_wp2
  go_loopg [1] 64 (fun k v wr => RunsInv w w.heap.size s c k v wr)
  case atStart => exact ⟨c, [], rfl, ⟨List.nodup_nil, fun d h => (by cases h), (by simp), HC.out, ⟨0, rfl⟩, fun d h => (by cases h)⟩, rfl, Eq.subst (motive := fun a => Row (w.alloc (.cells a 72)) w.heap.size 72 (barr [])) (by kernel_rfl) (Row.new w 72 (barr [])), alloc_below w _, Nat.le_refl _⟩
  case round =>
    obtain ⟨cur, V, rfl, hM, hk, hR, hB, _⟩ := hrel
    have hcur := hM.cl
    have hn64 := HK.out.ok.n2
    have c64 : cur < 64 := by omega
    have c64' : (cur : Int) < 64 := by omega
    have hgl := HK.out.row.lt
    have hbl := HK.out.mp.lt
    have hf := hR.free cur
    have hc0 : wr.cell? ⟨w.heap.size, cur, none⟩ = some (.bool (decide (cur ∈ V))) := by rw [hR.cell]; exact barr_get V c64
    have hR2 : Row (wr.setCell ⟨w.heap.size, cur, none⟩ (.bool true)) w.heap.size 72 (barr (cur :: V)) := by
      have := hR.set cur (.bool true)
      rw [barr_set] at this
      exact this
    have hB2 : Below w.heap.size w (wr.setCell ⟨w.heap.size, cur, none⟩ (.bool true)) := hB.setCell (Nat.le_refl _) _
    have HM := Lib.hid hM
    have HR2 := Lib.hid hR2
    have HB2 := Lib.hid hB2
    have HK2 := Lib.hid (HK.out.below hB2)
    generalize decide (cur ∈ V) = oldv at hc0
    clear hM hR hR2 hB hB2
    cases hn : nx s cur with
    | none =>
      have HA := Lib.hid (ahead_stop HK2.out hcur hn)
      have HE := Lib.hid (show RunsPost w s c (.returned (.int .i64 (cur : Int))) (wr.setCell ⟨w.heap.size, cur, none⟩ (.bool true)) from ⟨cur, .inl (by
        obtain ⟨i, hi⟩ := HM.out.from_
        exact ⟨i, hi, hn⟩), rfl, HB2.out⟩)
      clear hn
      go_wp2_with fail
      refine HA.out.mono ?_
      rintro e w1 ⟨rfl, rfl⟩
      go_wp2
      rw [Exit.noGoto_ret]
      go_ret
      exact HE.out
    | some nxt =>
      have HA := Lib.hid (ahead_yes HK2.out hcur hn)
      have hnl := nx_lt HK.out.ok hn
      have hn64 : nxt < 64 := by omega
      have hn64' : (nxt : Int) < 64 := by omega
      have hc1 : (wr.setCell ⟨w.heap.size, cur, none⟩ (.bool true)).cell? ⟨w.heap.size, nxt, none⟩ = some (.bool (decide (nxt ∈ cur :: V))) := by rw [HR2.out.cell]; exact barr_get _ hn64
      have HN := Lib.hid hn
      clear hn
      obtain ⟨W, hW⟩ : ∃ W, W = wr.setCell ⟨w.heap.size, cur, none⟩ (.bool true) := ⟨_, rfl⟩
      by_cases hm : nxt ∈ cur :: V
      · have hd : decide (nxt ∈ cur :: V) = true := decide_eq_true hm
        rw [hd] at hc1
        obtain ⟨m, hm0, hmc⟩ := HM.out.circ HN.out hm
        have HL := Lib.hid (least_any HK2.out hcur hm0 hmc)
        have HP : Hid (∀ r : Nat, Circ s cur r → RunsPost w s c (.returned (.int .i64 (r : Int))) (wr.setCell ⟨w.heap.size, cur, none⟩ (.bool true))) := Lib.hid fun r hr => ⟨r, .inr ⟨cur, HM.out.from_, hr⟩, rfl, HB2.out⟩
        clear hm hd hmc
        go_wp2_with fail
        refine HA.out.mono ?_
        rintro e w1 ⟨rfl, rfl⟩
        go_wp2_with fail
        refine HL.out.mono ?_
        rintro e w1 ⟨r, hr, rfl, rfl⟩
        have HE := Lib.hid (HP.out r hr)
        clear hr
        go_wp2
        rw [Exit.noGoto_ret]
        go_ret
        exact HE.out
      · have hd : decide (nxt ∈ cur :: V) = false := decide_eq_false hm
        rw [hd] at hc1
        have HE : Hid (RunsInv w w.heap.size s c (gk - 1) (.int .i64 (nxt : Int)) (wr.setCell ⟨w.heap.size, cur, none⟩ (.bool true))) := Lib.hid ⟨nxt, cur :: V, rfl, HM.out.step HK.out.ok HN.out hm, by
          have := HM.out.few
          simp only [List.length_cons]
          omega, HR2.out, HB2.out, Nat.le_refl _⟩
        have hgk : gk - 1 < gk := by have := HM.out.few; omega
        clear hm hd
        go_wp2_with fail
        refine HA.out.mono ?_
        rintro e w1 ⟨rfl, rfl⟩
        go_wp2
        go_roundg (gk - 1)
        case measure => exact hgk
        case rel => exact HE.out
end Go.Proofs.Ytlpgpnbecebldaa
