/- Lists of entries, as they lie; the document's Same; of any two lists; no conditions but on memory. -/
import Derived.Test.YtaegaeljakdffaaDoorN8Act
import Derived.Laws.StructEq
namespace Go.Proofs.YtaegaeljakdffaaDoor
open Go.RowKit
set_option linter.unusedVariables false
/-- A slice of entries that reads as a list. -/
def EntAt (w : World) (v : Value) (l : List (Int × Int)) : Prop :=
  ∃ A cap, v = .slice A l.length cap ∧ (0 < l.length → ∃ g o, A = some ⟨g, o, none⟩ ∧ ∀ i e, l[i]? = some e → w.cell? ⟨g, o + i * 2, none⟩ = some (uw e.1) ∧ w.cell? ⟨g, o + i * 2 + 1, none⟩ = some (uw e.2))
theorem EntAt.low {w w' : World} {v : Value} {l : List (Int × Int)} (h : EntAt w v l) (hb : Below w.heap.size w w') : EntAt w' v l := by
  obtain ⟨A, cap, rfl, h⟩ := h
  refine ⟨A, cap, rfl, fun h0 => ?_⟩
  obtain ⟨g, o, rfl, hc⟩ := h h0
  refine ⟨g, o, rfl, fun i e he => ?_⟩
  obtain ⟨c1, c2⟩ := hc i e he
  exact ⟨(hb.cell (p := ⟨g, o + i * 2, none⟩) (w.block_lt_of_cell? _ c1)).trans c1, (hb.cell (p := ⟨g, o + i * 2 + 1, none⟩) (w.block_lt_of_cell? _ c2)).trans c2⟩
theorem ent_own {w : World} {B : Nat} {v : Value} {l : List (Int × Int)} (h : w.ownsRow B 39 2 v l.length (flatE l)) : EntAt w v l := by
  rcases h.2 with ⟨rfl, h0⟩ | ⟨g, cap, cur, rfl, _, _, _⟩
  · exact ⟨none, 0, by rw [h0], fun h1 => by omega⟩
  · refine ⟨_, cap, rfl, fun h0 => ⟨g, 0, rfl, fun i e he => ?_⟩⟩
    obtain ⟨f1, f2⟩ := flatE_at l i e he
    have c1 := h.cells (g := g) rfl _ _ f1
    have c2 := h.cells (g := g) rfl _ _ f2
    rw [Addr.add_mid] at c1 c2
    exact ⟨c1, by rw [Nat.add_assoc]; exact c2⟩
set_option maxRecDepth 100000 in
theorem eqEnt (a b c d : Int) (w : World) : (Op.equalIn 10000 39 (.agg #[.int .u64 a, .int .u64 b]) (.agg #[.int .u64 c, .int .u64 d])).run Tryd.prog w = .ok (a == c && b == d) w := by
  have u3 := Tryd.underlying22
  have a3 := Tryd.isAgg22
  have z3 := Tryd.sizeOf22
  have u4 := Tryd.underlying23
  have a4 := Tryd.isAgg23
  have z4 := Tryd.sizeOf23
  have hS : Tryd.prog.underlying 39 = some (.struct (Tryd.prog.fieldsOf 39)) := by kernel_rfl
  have hp : Tryd.prog.stoodInHeld 39 = false := by kernel_rfl
  rw [show (10000 : Nat) = 9999 + 1 from rfl, run_equalIn_agg w 9999 39 _ _ hS hp]
  simp only [Program.fieldsOf, Tryd.underlying39]
  go_simp
  by_cases h1 : a = c <;> by_cases h2 : b = d <;> simp [h1, h2]
theorem ext_ent {l m : List (Int × Int)} (hl : l.length = m.length) (h : ∀ j, j < l.length → l.getD j (0, 0) = m.getD j (0, 0)) : l = m := by
  apply List.ext_getElem hl
  intro i h1 h2
  have := h i h1
  rw [List.getD_eq_getElem?_getD, List.getD_eq_getElem?_getD, List.getElem?_eq_getElem h1, List.getElem?_eq_getElem h2] at this
  exact this
theorem getD_ent {l : List (Int × Int)} {k : Nat} (h : k < l.length) : l[k]? = some (l.getD k (0, 0)) := by
  rw [List.getD_eq_getElem?_getD, List.getElem?_eq_getElem h]
  rfl
set_option maxRecDepth 100000 in
set_option maxHeartbeats 1600000 in
theorem same_any {w : World} {v v' : Value} {l m : List (Int × Int)} (h : EntAt w v l) (h' : EntAt w v' m) (hl : l.length ≤ 1000000000) (hm : m.length ≤ 1000000000) :
    Calls Tryd.prog 18 #[v, v'] w fun e w' => e = .returned (.bool (decide (l = m))) ∧ Below w.heap.size w w' := by
  obtain ⟨bb, hbb⟩ : ∃ bb, bb = decide (l = m) := ⟨_, rfl⟩
  rw [← hbb]
  have HBB := Lib.hid hbb
  clear hbb
  obtain ⟨A, c, rfl, hA⟩ := h
  obtain ⟨A', c', rfl, hB⟩ := h'
  by_cases hn : l.length = m.length
  · by_cases h0 : 0 < l.length
    · obtain ⟨g, o, rfl, hA2⟩ := hA h0
      obtain ⟨g', o', rfl, hB2⟩ := hB (by omega)
      obtain ⟨n, hnn⟩ : ∃ n, n = l.length := ⟨_, rfl⟩
      have hmn : m.length = n := by omega
      have HEXT := Lib.hid fun (hh : ∀ j, j < n → l.getD j (0, 0) = m.getD j (0, 0)) => ext_ent hn (by rw [← hnn]; exact hh)
      have HA := Lib.hid (fun k (hk : k < n) => hA2 k _ (getD_ent (by omega)))
      have HB := Lib.hid (fun k (hk : k < n) => hB2 k _ (getD_ent (by omega)))
      have HL := Lib.hid (show n ≤ 1000000000 from by omega)
      rw [hmn, ← hnn]
      have hne : ((n : Int) != (n : Int)) = false := by simp
      clear hl hm hA hB hA2 hB2 hnn h0 hn hmn
      go_enter Tryd.func18, Tryd.ntmps18
      go_wp2_with fail
      go_loopw [5] (fun i wr => ∃ k : Nat, k ≤ n ∧ i = .int .i64 (k : Int) ∧ (∀ j, j < k → l.getD j (0, 0) = m.getD j (0, 0)) ∧ ∃ q, wr = w.drewN q) (fun i _ => n - (intOf i).toNat)
      case atStart => exact ⟨0, by omega, rfl, fun j hj => by omega, 0, rfl⟩
      case round =>
        obtain ⟨k, hk, rfl, ht, q, rfl⟩ := hrel
        have HT := Lib.hid ht
        clear ht
        by_cases hlt : k < n
        · obtain ⟨a1, a2⟩ := HA.out k hlt
          obtain ⟨b1, b2⟩ := HB.out k hlt
          have hkb : k < 1000000000 := by have := HL.out; omega
          obtain ⟨u, hu⟩ : ∃ u, u = l.getD k (0, 0) := ⟨_, rfl⟩
          obtain ⟨x, hx⟩ : ∃ x, x = m.getD k (0, 0) := ⟨_, rfl⟩
          rw [← hu] at a1 a2
          rw [← hx] at b1 b2
          have HU := Lib.hid hu
          have HX := Lib.hid hx
          clear hu hx
          have hq := fun W => eqEnt u.1 u.2 x.1 x.2 W
          by_cases he : u = x
          · have hee : ((u.1 == x.1) && (u.2 == x.2)) = true := by rw [he]; simp
            have HE := Lib.hid he
            obtain ⟨u1, u2⟩ := u
            obtain ⟨x1, x2⟩ := x
            dsimp only at *
            rw [hee] at hq
            clear he hee
            go_wp2
            go_quiet (fail)
            go_wp2
            refine ⟨⟨k + 1, by omega, by go_num, fun j hj => ?_, q + nq, rfl⟩, by simp [intOf]; omega⟩
            rcases Nat.lt_or_ge j k with h1 | h1
            · exact HT.out j h1
            · obtain rfl : j = k := by omega
              exact HU.out.symm.trans (HE.out.trans HX.out)
          · have hee : ((u.1 == x.1) && (u.2 == x.2)) = false := by
              rw [Bool.eq_false_iff]
              intro hh
              simp at hh
              exact he (Prod.ext hh.1 hh.2)
            have hlm : decide (l = m) = false := by
              simp
              intro e
              subst e
              exact he (HU.out.trans HX.out.symm)
            have HLM := Lib.hid (HBB.out.trans hlm)
            obtain ⟨u1, u2⟩ := u
            obtain ⟨x1, x2⟩ := x
            dsimp only at *
            rw [hee] at hq
            clear he hee hlm
            go_wp2
            go_quiet (fail)
            go_wp2
            go_ret
            exact ⟨by rw [HLM.out]; rfl, ⟨rfl, rfl, rfl, Nat.le_refl _, fun _ _ => rfl⟩⟩
        · have hkn : k = n := by omega
          have hlm : decide (l = m) = true := by
            simp
            exact HEXT.out fun j hj => HT.out j (by omega)
          have HLM := Lib.hid (HBB.out.trans hlm)
          clear hlm
          go_wp2
          go_ret
          exact ⟨by rw [HLM.out]; rfl, ⟨rfl, rfl, rfl, Nat.le_refl _, fun _ _ => rfl⟩⟩
    · have hl0 : l.length = 0 := by omega
      have hm0 : m.length = 0 := by omega
      have hlm : decide (l = m) = true := by
        simp
        rw [List.eq_nil_of_length_eq_zero hl0, List.eq_nil_of_length_eq_zero hm0]
      have HLM := Lib.hid (HBB.out.trans hlm)
      rw [hl0, hm0]
      clear hlm
      go_enter Tryd.func18, Tryd.ntmps18
      go_wp2_with fail
      go_loopw [5] (fun i wr => i = .int .i64 0 ∧ w = wr) (fun _ _ => 0)
      case atStart => exact ⟨rfl, rfl⟩
      case round =>
        obtain ⟨rfl, rfl⟩ := hrel
        go_wp2
        go_ret
        exact ⟨by rw [HLM.out]; rfl, Below.refl _ _⟩
  · have hne : ((l.length : Int) != (m.length : Int)) = true := by simp; omega
    have hlm : decide (l = m) = false := by
      simp
      intro e
      exact hn (by rw [e])
    have HLM := Lib.hid (HBB.out.trans hlm)
    clear hlm hA hB
    generalize l.length = n1 at *
    generalize m.length = n2 at *
    go_enter Tryd.func18, Tryd.ntmps18
    go_wp2
    go_ret
    exact ⟨by rw [HLM.out]; rfl, Below.refl _ _⟩
end Go.Proofs.YtaegaeljakdffaaDoor
