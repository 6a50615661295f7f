/- What goes on from a packed claim: PEqW,PEqP,PEqF,PEqM0,PEqM1,PEqM,PLow,PSame,R2Of,R2Cop,R2Cpy,R2SaS. -/
import Derived.Test.YtkeajfedlhgejaaPcRAllC
import Derived.BigQuiet
import Derived.Laws.StructEq
import Derived.Deep.QuietTactic
import Derived.Deep.DeepCutAuto
import Derived.Deep.CutBlock
/- slices.Equal of words: are the two lists the same; without conditions but on memory. -/
namespace Go.Proofs.Ytkeajfedlhgejaa
open Go.RowKit
set_option linter.unusedVariables false
theorem ext_getD {α : Type} {d : α} {l m : List α} {n : Nat} (hl : l.length = n) (hm : m.length = n) (h : ∀ j, j < n → l.getD j d = m.getD j d) : l = m := by
  refine List.ext_getElem (by omega) fun j h1 h2 => ?_
  have := h j (by omega)
  rwa [getD_at h1, getD_at h2] at this
set_option maxRecDepth 100000 in
set_option maxHeartbeats 1600000 in
theorem eqW_any (l m : List Nat) (g c g' c' n n' B B' : Nat) (w : World) (hl : l.length = n) (hm : m.length = n') (hb : n ≤ 131072) (hb' : n' ≤ 131072)
    (h : w.ownsRow B 34 1 (.slice (some ⟨g, 0, none⟩) n c) n (l.map wv)) (h' : w.ownsRow B' 34 1 (.slice (some ⟨g', 0, none⟩) n' c') n' (m.map wv)) :
    Calls Try.prog 52 #[.slice (some ⟨g, 0, none⟩) n c, .slice (some ⟨g', 0, none⟩) n' c'] w fun e w' => e = .returned (.bool (decide (l = m))) ∧ ∃ q, w.drewN q = w' := by
  obtain ⟨bb, hbb⟩ : ∃ bb, bb = decide (l = m) := ⟨_, rfl⟩
  rw [← hbb]
  have HBB := Lib.hid hbb
  clear hbb
  by_cases hn : n = n'
  · subst hn
    have hne : ((n : Int) != (n : Int)) = false := by simp
    have HA := Lib.hid fun k (hk : k < n) => show w.cell? ⟨g, k, none⟩ = some (.int .u64 ((l.getD k 0 : Nat) : Int)) from by
      rw [h.cellAt k (by omega), List.getElem?_map, List.getElem?_eq_getElem (by omega), getD_at (by omega)]
      rfl
    have HB := Lib.hid fun k (hk : k < n) => show w.cell? ⟨g', k, none⟩ = some (.int .u64 ((m.getD k 0 : Nat) : Int)) from by
      rw [h'.cellAt k (by omega), List.getElem?_map, List.getElem?_eq_getElem (by omega), getD_at (by omega)]
      rfl
    have HEXT := Lib.hid fun (hh : ∀ j, j < n → l.getD j 0 = m.getD j 0) => ext_getD hl hm hh
    clear h h' hl hm
    go_enter Try.func52, Try.ntmps52
    go_wp2
    go_loopw [5, 13] (fun _ i wr => ∃ k : Nat, k ≤ n ∧ i = .int .i64 (k : Int) ∧ (∀ j, j < k → l.getD j 0 = m.getD j 0) ∧ ∃ q, wr = w.drewN q) (fun _ i _ => n - (intOf i).toNat)
    case atStart => exact ⟨0, by omega, rfl, fun j hj => by omega, 0, rfl⟩
    case round =>
      obtain ⟨k, hk, rfl, ht, q, rfl⟩ := hrel
      have HT := Lib.hid ht
      clear ht
      by_cases hlt : k < n
      · have ha := HA.out k hlt
        have hb2 := HB.out k hlt
        obtain ⟨u, hu⟩ : ∃ u, u = l.getD k 0 := ⟨_, rfl⟩
        obtain ⟨v, hv⟩ : ∃ v, v = m.getD k 0 := ⟨_, rfl⟩
        rw [← hu] at ha
        rw [← hv] at hb2
        by_cases he : u = v
        · subst he
          have huu : ((u : Int) != (u : Int)) = false := by simp
          have HE := Lib.hid (show l.getD k 0 = m.getD k 0 from hu.symm.trans hv)
          clear hu hv
          go_wp2
          go_quiet (fail)
          go_wp2
          go_roundw
          case rel =>
            refine ⟨k + 1, by omega, by go_num, fun j hj => ?_, q + nq, rfl⟩
            rcases Nat.lt_or_ge j k with h1 | h1
            · exact HT.out j h1
            · obtain rfl : j = k := by omega
              exact HE.out
          case measure => simp [intOf]; omega
        · have huv : ((u : Int) != (v : Int)) = true := by
            simp
            omega
          have hlm : decide (l = m) = false := by
            simp
            intro e
            subst e
            exact he (hu.trans hv.symm)
          have HLM := Lib.hid (HBB.out.trans hlm)
          clear hu hv he hlm
          go_wp2
          go_quiet (fail)
          go_wp2
          go_ret
          exact ⟨by rw [HLM.out]; rfl, q + nq, by simp [World.drewN, Nat.add_assoc]⟩
      · have hkn : k = n := by omega
        have hlm : decide (l = m) = true := by
          simp
          exact HEXT.out fun j hj => HT.out j (by omega)
        have HLM := Lib.hid (HBB.out.trans hlm)
        clear hlm
        go_wp2
        go_ret
        exact ⟨by rw [HLM.out]; rfl, q, rfl⟩
  · have hlm : decide (l = m) = false := by
      simp
      intro e
      subst e
      omega
    have hne : ((n : Int) != (n' : Int)) = true := by simp; omega
    have HLM := Lib.hid (HBB.out.trans hlm)
    clear hlm h h' hl hm
    go_enter Try.func52, Try.ntmps52
    go_wp2
    go_ret
    exact ⟨by rw [HLM.out]; rfl, 0, rfl⟩
end Go.Proofs.Ytkeajfedlhgejaa
/- slices.Equal of stores: are the two lists the same; without conditions but on memory. -/
namespace Go.Proofs.Ytkeajfedlhgejaa
open Go.RowKit
set_option linter.unusedVariables false
set_option maxRecDepth 100000 in
theorem eqPut (a b c d : Int) (w : World) : (Op.equalIn 10000 47 (.agg #[.int .u64 a, .int .u64 b]) (.agg #[.int .u64 c, .int .u64 d])).run Try.prog w = .ok (a == c && b == d) w := by
  have u3 := Try.underlying34
  have a3 := Try.isAgg34
  have z3 := Try.sizeOf34
  have u4 := Try.underlying35
  have a4 := Try.isAgg35
  have z4 := Try.sizeOf35
  have hS : Try.prog.underlying 47 = some (.struct (Try.prog.fieldsOf 47)) := by kernel_rfl
  have hp : Try.prog.stoodInHeld 47 = false := by kernel_rfl
  rw [show (10000 : Nat) = 9999 + 1 from rfl, run_equalIn_agg w 9999 47 _ _ hS hp]
  simp only [Program.fieldsOf, Try.underlying47]
  go_simp
  by_cases h1 : a = c <;> by_cases h2 : b = d <;> simp [h1, h2]
theorem tail_cells {w : World} {v : Value} {l : List (Nat × Nat)} (h : Tail w v l) (h0 : 0 < l.length) : ∃ g off cap, v = .slice (some ⟨g, off, none⟩) l.length cap ∧ ∀ k, k < l.length → w.cell? ⟨g, off + k * 2, none⟩ = some (.int .u64 (((l.getD k (0, 0)).1 : Nat) : Int)) ∧ w.cell? ⟨g, off + k * 2 + 1, none⟩ = some (.int .u64 (((l.getD k (0, 0)).2 : Nat) : Int)) := by
  rcases h with ⟨_, rfl⟩ | ⟨g, off, cap, cur, rfl, hr, hp, hlc, hcm, hoc, hcur⟩
  · exact absurd h0 (by decide)
  refine ⟨g, off, cap, rfl, fun k hk => ?_⟩
  have hg := flat_get l k hk
  have hat : ∀ j, j < l.length * 2 → w.cell? ⟨g, off + j, none⟩ = (flat l)[j]? := by
    intro j hj
    rw [hr.cell, ← hcur, List.getElem?_take_of_lt hj, List.getElem?_drop, ← Array.getElem?_toList]
  rw [getD_at hk]
  constructor
  · have := hat (k * 2) (by omega)
    rw [this, Nat.mul_comm k 2, hg.1]
    rfl
  · have := hat (k * 2 + 1) (by omega)
    rw [Nat.add_assoc, this, Nat.mul_comm k 2, hg.2]
    rfl
set_option maxRecDepth 100000 in
set_option maxHeartbeats 1600000 in
theorem eqP_any {w : World} {v v' : Value} {l m : List (Nat × Nat)} (h : Tail w v l) (h' : Tail w v' m) (hl : l.length ≤ 1000000000) (hm : m.length ≤ 1000000000) :
    Calls Try.prog 54 #[v, v'] w fun e w' => e = .returned (.bool (decide (l = m))) ∧ ∃ q, w.drewN q = w' := by
  obtain ⟨bb, hbb⟩ : ∃ bb, bb = decide (l = m) := ⟨_, rfl⟩
  rw [← hbb]
  have HBB := Lib.hid hbb
  clear hbb
  obtain ⟨A, c, hv, _⟩ := h.len
  obtain ⟨A', c', hv', _⟩ := h'.len
  by_cases hn : l.length = m.length
  · by_cases h0 : 0 < l.length
    · obtain ⟨g, off, cap, rfl, hA⟩ := tail_cells h h0
      obtain ⟨g', off', cap', rfl, hB⟩ := tail_cells h' (by omega)
      obtain ⟨n, hnn⟩ : ∃ n, n = l.length := ⟨_, rfl⟩
      have hmn : m.length = n := by omega
      rw [hmn, ← hnn]
      rw [← hnn] at hA
      rw [hmn] at hB
      have hne : ((n : Int) != (n : Int)) = false := by simp
      have HEXT := Lib.hid fun (hh : ∀ j, j < n → l.getD j (0, 0) = m.getD j (0, 0)) => ext_getD hnn.symm hmn hh
      have HA := Lib.hid hA
      have HB := Lib.hid hB
      have HL := Lib.hid (show n ≤ 1000000000 from by omega)
      clear h h' hl hm hA hB hnn hv hv' h0 hn hmn
      go_enter Try.func54, Try.ntmps54
      go_wp2
      go_loopw [5, 13] (fun _ i wr => ∃ k : Nat, k ≤ n ∧ i = .int .i64 (k : Int) ∧ (∀ j, j < k → l.getD j (0, 0) = m.getD j (0, 0)) ∧ ∃ q, wr = w.drewN q) (fun _ i _ => n - (intOf i).toNat)
      case atStart => exact ⟨0, by omega, rfl, fun j hj => by omega, 0, rfl⟩
      case round =>
        obtain ⟨k, hk, rfl, ht, q, rfl⟩ := hrel
        have HT := Lib.hid ht
        clear ht
        by_cases hlt : k < n
        · obtain ⟨a1, a2⟩ := HA.out k hlt
          obtain ⟨b1, b2⟩ := HB.out k hlt
          have hkb : k < 1000000000 := by have := HL.out; omega
          obtain ⟨u, hu⟩ : ∃ u, u = l.getD k (0, 0) := ⟨_, rfl⟩
          obtain ⟨x, hx⟩ : ∃ x, x = m.getD k (0, 0) := ⟨_, rfl⟩
          rw [← hu] at a1 a2
          rw [← hx] at b1 b2
          have HU := Lib.hid hu
          have HX := Lib.hid hx
          clear hu hx
          have hq := fun W => eqPut u.1 u.2 x.1 x.2 W
          by_cases he : u = x
          · have hee : (((u.1 : Int) == (x.1 : Int)) && ((u.2 : Int) == (x.2 : Int))) = true := by rw [he]; simp
            have HE := Lib.hid he
            obtain ⟨u1, u2⟩ := u
            obtain ⟨x1, x2⟩ := x
            dsimp only at *
            rw [hee] at hq
            clear he hee
            go_wp2
            go_quiet (fail)
            go_wp2
            go_roundw
            case rel =>
              refine ⟨k + 1, by omega, by go_num, fun j hj => ?_, q + nq, rfl⟩
              rcases Nat.lt_or_ge j k with h1 | h1
              · exact HT.out j h1
              · obtain rfl : j = k := by omega
                exact HU.out.symm.trans (HE.out.trans HX.out)
            case measure => simp [intOf]; omega
          · have hee : (((u.1 : Int) == (x.1 : Int)) && ((u.2 : Int) == (x.2 : Int))) = false := by
              rw [Bool.eq_false_iff]
              intro hh
              simp at hh
              exact he (Prod.ext (by omega) (by omega))
            have hlm : decide (l = m) = false := by
              simp
              intro e
              subst e
              exact he (HU.out.trans HX.out.symm)
            have HLM := Lib.hid (HBB.out.trans hlm)
            obtain ⟨u1, u2⟩ := u
            obtain ⟨x1, x2⟩ := x
            dsimp only at *
            rw [hee] at hq
            clear he hee hlm
            go_wp2
            go_quiet (fail)
            go_wp2
            go_ret
            exact ⟨by rw [HLM.out]; rfl, q + nq, by simp [World.drewN, Nat.add_assoc]⟩
        · have hkn : k = n := by omega
          have hlm : decide (l = m) = true := by
            simp
            exact HEXT.out fun j hj => HT.out j (by omega)
          have HLM := Lib.hid (HBB.out.trans hlm)
          clear hlm
          go_wp2
          go_ret
          exact ⟨by rw [HLM.out]; rfl, q, rfl⟩
    · have e1 : l = [] := List.eq_nil_of_length_eq_zero (by omega)
      have e2 : m = [] := List.eq_nil_of_length_eq_zero (by omega)
      subst e1 e2
      subst hv hv'
      have HLM := Lib.hid (show bb = true from by rw [HBB.out]; rfl)
      clear h h' hl hm hn h0
      go_enter Try.func54, Try.ntmps54
      go_wp2
      go_loopw [5, 13] (fun _ i wr => i = .int .i64 0 ∧ wr = w) (fun _ _ _ => 0)
      case atStart => exact ⟨rfl, rfl⟩
      case round =>
        obtain ⟨rfl, rfl⟩ := hrel
        go_wp2
        go_ret
        exact ⟨by rw [HLM.out]; rfl, 0, rfl⟩
  · have hlm : decide (l = m) = false := by
      simp
      intro e
      subst e
      exact hn rfl
    have hne : ((l.length : Int) != (m.length : Int)) = true := by simp; omega
    have HLM := Lib.hid (HBB.out.trans hlm)
    subst hv hv'
    clear hlm h h' hl hm
    go_enter Try.func54, Try.ntmps54
    go_wp2
    go_ret
    exact ⟨by rw [HLM.out]; rfl, 0, rfl⟩
end Go.Proofs.Ytkeajfedlhgejaa
/- slices.EqualFunc of the lines' pending stores: are they the same, line by line; without conditions but on memory. -/
namespace Go.Proofs.Ytkeajfedlhgejaa
open Go.RowKit
set_option linter.unusedVariables false
set_option maxRecDepth 100000 in
set_option maxHeartbeats 1600000 in
theorem eqF_any {w : World} {g c g' c' n n' B B' : Nat} {ps ps' : List Value} {p p' : List (List (Nat × Nat))} (h : w.ownsRow B 41 1 (.slice (some ⟨g, 0, none⟩) n c) n ps) (h' : w.ownsRow B' 41 1 (.slice (some ⟨g', 0, none⟩) n' c') n' ps')
    (hp : p.length = n) (hp' : p'.length = n') (hn : n ≤ 16384) (hn' : n' ≤ 16384) (ht : ∀ (j : Nat) (v : Value) (l : List (Nat × Nat)), ps[j]? = some v → p[j]? = some l → Tail w v l) (ht' : ∀ (j : Nat) (v : Value) (l : List (Nat × Nat)), ps'[j]? = some v → p'[j]? = some l → Tail w v l)
    (hf : ∀ l ∈ p, l.length ≤ 1000000000) (hf' : ∀ l ∈ p', l.length ≤ 1000000000) :
    Calls Try.prog 53 #[.slice (some ⟨g, 0, none⟩) n c, .slice (some ⟨g', 0, none⟩) n' c', .func (.func 54) #[] #[]] w fun e w' => e = .returned (.bool (decide (p = p'))) ∧ ∃ q, w.drewN q = w' := by
  obtain ⟨bb, hbb⟩ : ∃ bb, bb = decide (p = p') := ⟨_, rfl⟩
  rw [← hbb]
  have HBB := Lib.hid hbb
  clear hbb
  by_cases he : n = n'
  · subst he
    have hne : ((n : Int) != (n : Int)) = false := by simp
    have hl1 : ps.length = n := by have := h.1; omega
    have hl2 : ps'.length = n := by have := h'.1; omega
    have HA := Lib.hid fun k (hk : k < n) => show ∃ v, w.cell? ⟨g, k, none⟩ = some v ∧ Tail w v (p.getD k []) from by
      obtain ⟨v, hv⟩ : ∃ v, ps[k]? = some v := ⟨_, List.getElem?_eq_getElem (by omega)⟩
      refine ⟨v, by rw [h.cellAt k (by omega), hv], ht k v _ hv ?_⟩
      rw [getD_at (by omega), List.getElem?_eq_getElem (by omega)]
    have HB := Lib.hid fun k (hk : k < n) => show ∃ v, w.cell? ⟨g', k, none⟩ = some v ∧ Tail w v (p'.getD k []) from by
      obtain ⟨v, hv⟩ : ∃ v, ps'[k]? = some v := ⟨_, List.getElem?_eq_getElem (by omega)⟩
      refine ⟨v, by rw [h'.cellAt k (by omega), hv], ht' k v _ hv ?_⟩
      rw [getD_at (by omega), List.getElem?_eq_getElem (by omega)]
    have HF := Lib.hid fun k (hk : k < n) => hf (p.getD k []) (by rw [getD_at (by omega)]; exact List.getElem_mem _)
    have HF' := Lib.hid fun k (hk : k < n) => hf' (p'.getD k []) (by rw [getD_at (by omega)]; exact List.getElem_mem _)
    have HEXT := Lib.hid fun (hh : ∀ j, j < n → p.getD j [] = p'.getD j []) => ext_getD hp hp' hh
    clear h h' hp hp' ht ht' hf hf' hl1 hl2
    go_enter Try.func53, Try.ntmps53
    go_wp2
    go_loopw [7, 8, 9, 17] (fun _ _ _ i wr => ∃ k : Nat, k ≤ n ∧ i = .int .i64 (k : Int) ∧ (∀ j, j < k → p.getD j [] = p'.getD j []) ∧ ∃ q, wr = w.drewN q) (fun _ _ _ i _ => n - (intOf i).toNat)
    case atStart => exact ⟨0, by omega, rfl, fun j hj => by omega, 0, rfl⟩
    case round =>
      obtain ⟨k, hk, rfl, htk, q, rfl⟩ := hrel
      have HT := Lib.hid htk
      clear htk
      by_cases hlt : k < n
      · obtain ⟨v, a1, ta⟩ := HA.out k hlt
        obtain ⟨v', b1, tb⟩ := HB.out k hlt
        have ta2 : Tail (w.drewN q) v (p.getD k []) := ta.same fun _ _ => rfl
        have tb2 : Tail (w.drewN q) v' (p'.getD k []) := tb.same fun _ _ => rfl
        have HC := Lib.hid (eqP_any ta2 tb2 (HF.out k hlt) (HF'.out k hlt))
        obtain ⟨A, cc, rfl, _⟩ := ta.len
        obtain ⟨A', cc', rfl, _⟩ := tb.len
        clear ta tb ta2 tb2
        by_cases hd : p.getD k [] = p'.getD k []
        · rw [show decide (p.getD k [] = p'.getD k []) = true from by simpa using hd] at HC
          have HD := Lib.hid hd
          obtain ⟨u1, hu1⟩ : ∃ u1, u1 = (p.getD k []).length := ⟨_, rfl⟩
          obtain ⟨u2, hu2⟩ : ∃ u2, u2 = (p'.getD k []).length := ⟨_, rfl⟩
          rw [← hu1] at a1 HC
          rw [← hu2] at b1 HC
          clear hd hu1 hu2
          go_wp2_with fail
          refine HC.out.mono ?_
          rintro e w2 ⟨rfl, q2, rfl⟩
          go_wp2
          go_roundw
          case rel =>
            refine ⟨k + 1, by omega, by go_num, fun j hj => ?_, q + q2, by simp [World.drewN, Nat.add_assoc]⟩
            rcases Nat.lt_or_ge j k with h1 | h1
            · exact HT.out j h1
            · obtain rfl : j = k := by omega
              exact HD.out
          case measure => simp [intOf]; omega
        · rw [show decide (p.getD k [] = p'.getD k []) = false from by simpa using hd] at HC
          have hlm : decide (p = p') = false := by
            simp
            intro e
            subst e
            exact hd rfl
          have HLM := Lib.hid (HBB.out.trans hlm)
          obtain ⟨u1, hu1⟩ : ∃ u1, u1 = (p.getD k []).length := ⟨_, rfl⟩
          obtain ⟨u2, hu2⟩ : ∃ u2, u2 = (p'.getD k []).length := ⟨_, rfl⟩
          rw [← hu1] at a1 HC
          rw [← hu2] at b1 HC
          clear hd hu1 hu2 hlm
          go_wp2_with fail
          refine HC.out.mono ?_
          rintro e w2 ⟨rfl, q2, rfl⟩
          go_wp2
          go_ret
          exact ⟨by rw [HLM.out]; rfl, q + q2, by simp [World.drewN, Nat.add_assoc]⟩
      · have hkn : k = n := by omega
        have hlm : decide (p = p') = true := by
          simp
          exact HEXT.out fun j hj => HT.out j (by omega)
        have HLM := Lib.hid (HBB.out.trans hlm)
        clear hlm
        go_wp2
        go_ret
        exact ⟨by rw [HLM.out]; rfl, q, rfl⟩
  · have hlm : decide (p = p') = false := by
      simp
      intro e
      subst e
      omega
    have hne : ((n : Int) != (n' : Int)) = true := by simp; omega
    have HLM := Lib.hid (HBB.out.trans hlm)
    clear hlm h h' hp hp' ht ht' hf hf'
    go_enter Try.func53, Try.ntmps53
    go_wp2
    go_ret
    exact ⟨by rw [HLM.out]; rfl, 0, rfl⟩
end Go.Proofs.Ytkeajfedlhgejaa
/- Two clients' marks, held against each other place by place; without conditions. -/
namespace Go.Proofs.Ytkeajfedlhgejaa
open Go.RowKit
set_option linter.unusedVariables false
theorem items65g (f g : Nat → Nat) (w : World) : ∀ is : List Nat, (∀ i ∈ is, i < 65) → (Op.eqItems 9999 3 1 (marr f) (marr g) is).run Try.prog w = .ok (is.all fun i => f i == g i) w
  | [], _ => by simp [Op.eqItems]
  | i :: is, h => by
    have hp := run_part_plain (P := Try.prog) w plainInt (xs := marr f) (off := i) (marr_get f i (h i (by simp)))
    have hq := run_part_plain (P := Try.prog) w plainInt (xs := marr g) (off := i) (marr_get g i (h i (by simp)))
    have he := run_equalIn_int (P := Try.prog) w 9998 3 .i64 .i64 (f i : Int) (g i : Int) Try.underlying3
    have hi := items65g f g w is (fun j hj => h j (by simp [hj]))
    have hb : (((f i : Int)) == (g i : Int)) = (f i == g i) := by
      rw [Bool.eq_iff_iff, beq_iff_eq, beq_iff_eq]
      omega
    simp only [Op.eqItems, Sem.run_bind, Nat.mul_one, hp, hq, Result.andThen_ok, he, hb, hi, List.all_cons]
    cases hz : (f i == g i) <;> simp [hi]
def sameMk (f g : Nat → Nat) : Bool := (List.range 65).all fun i => f i == g i
theorem sameMk_iff (f g : Nat → Nat) : sameMk f g = true ↔ ∀ c, c < 65 → f c = g c := by
  unfold sameMk
  rw [List.all_eq_true]
  constructor
  · intro h c hc
    exact beq_iff_eq.1 (h c (List.mem_range.2 hc))
  · intro h c hc
    exact beq_iff_eq.2 (h c (List.mem_range.1 hc))
theorem neq65 (f g : Nat → Nat) (w : World) : (binOp .neq 97 (.agg (marr f)) (.agg (marr g))).run Try.prog w = .ok (.bool (!sameMk f g)) w := by
  obtain ⟨i0, hi, hz0, hz1, hz2⟩ := info_parts infoInt
  have h := run_equalIn_array (P := Try.prog) w 9999 (marr f) (marr g) Try.underlying97 hi
  rw [cellsInt, items65g f g w _ (by intro i hi; exact List.mem_range.1 hi)] at h
  rw [run_neq_struct, h]
  rfl
end Go.Proofs.Ytkeajfedlhgejaa
/- Two marks' maps, of as many entries: where each entry of the one is the other's, the marks are the same; without conditions but on the maps. -/
namespace Go.Proofs.Ytkeajfedlhgejaa
open Go.RowKit Go.Maps
set_option linter.unusedVariables false
theorem same_key {i j : Nat} (h : (key i).sameKey (key j) = true) : i = j := by
  unfold key Lit.sameKey at h
  simp at h
  omega
theorem keys_of {w : World} {mb nl : Nat} {D : DataW Unit} (h : w.ownsMap Try.prog 3 mkR mb (Maps.size D) D) (hk : ∀ k, Maps.has D k = true → ∃ j, j < nl ∧ k = key j) :
    ∃ ks : List Lit, ks.Nodup ∧ ks.length = Maps.size D ∧ (∀ j, Maps.has D (key j) = true ↔ key j ∈ ks) ∧ ∀ k ∈ ks, ∃ j, j < nl ∧ k = key j := by
  obtain ⟨es, rfl, hp, hl⟩ := h.entries keyed
  have hself : ∀ p ∈ es, Maps.has (.map es) p.1 = true := by
    intro p hp'
    rw [Maps.has_eq, List.any_eq_true]
    exact ⟨p, hp', same_refl (hl p hp')⟩
  refine ⟨es.map Prod.fst, ?_, by simp [Maps.size_eq], fun j => ⟨fun hh => ?_, fun hm => ?_⟩, fun k hkm => ?_⟩
  · rw [List.nodup_iff_pairwise_ne]
    exact List.pairwise_map.2 hp
  · rw [Maps.has_eq, List.any_eq_true] at hh
    obtain ⟨p, hp', hs⟩ := hh
    obtain ⟨i, _, e⟩ := hk _ (hself p hp')
    rw [e] at hs
    have := same_key hs
    subst this
    exact List.mem_map.2 ⟨p, hp', e⟩
  · obtain ⟨p, hp', e⟩ := List.mem_map.1 hm
    rw [← e]
    exact hself p hp'
  · obtain ⟨p, hp', rfl⟩ := List.mem_map.1 hkm
    exact hk _ (hself p hp')
theorem size_le {w : World} {mb mb' nl : Nat} {D D' : DataW Unit} (h : w.ownsMap Try.prog 3 mkR mb (Maps.size D) D) (hk : ∀ k, Maps.has D k = true → ∃ j, j < nl ∧ k = key j)
    (h' : w.ownsMap Try.prog 3 mkR mb' (Maps.size D') D') (hk' : ∀ k, Maps.has D' k = true → ∃ j, j < nl ∧ k = key j) (hsub : ∀ j, j < nl → Maps.has D (key j) = true → Maps.has D' (key j) = true) : Maps.size D ≤ Maps.size D' := by
  obtain ⟨ks, hn, hl, hm, hall⟩ := keys_of h hk
  obtain ⟨ks', hn', hl', hm', _⟩ := keys_of h' hk'
  rw [← hl, ← hl']
  refine List.Nodup.length_le_of_subset hn fun k hkm => ?_
  obtain ⟨j, hj, rfl⟩ := hall k hkm
  exact (hm' j).1 (hsub j hj ((hm j).2 hkm))
theorem size_lt {w : World} {mb mb' nl : Nat} {D D' : DataW Unit} (h : w.ownsMap Try.prog 3 mkR mb (Maps.size D) D) (hk : ∀ k, Maps.has D k = true → ∃ j, j < nl ∧ k = key j)
    (h' : w.ownsMap Try.prog 3 mkR mb' (Maps.size D') D') (hk' : ∀ k, Maps.has D' k = true → ∃ j, j < nl ∧ k = key j) (hsub : ∀ j, j < nl → Maps.has D (key j) = true → Maps.has D' (key j) = true)
    {i : Nat} (hi : i < nl) (h1 : Maps.has D' (key i) = true) (h2 : Maps.has D (key i) ≠ true) : Maps.size D < Maps.size D' := by
  obtain ⟨ks, hn, hl, hm, hall⟩ := keys_of h hk
  obtain ⟨ks', hn', hl', hm', _⟩ := keys_of h' hk'
  rw [← hl, ← hl']
  have hni : key i ∉ ks := fun hx => h2 ((hm i).2 hx)
  have h3 : (key i :: ks).length ≤ ks'.length := by
    refine List.Nodup.length_le_of_subset (List.nodup_cons.2 ⟨hni, hn⟩) fun k hkm => ?_
    rcases List.mem_cons.1 hkm with rfl | hkm
    · exact (hm' i).1 h1
    · obtain ⟨j, hj, rfl⟩ := hall k hkm
      exact (hm' j).1 (hsub j hj ((hm j).2 hkm))
  rw [List.length_cons] at h3
  omega
end Go.Proofs.Ytkeajfedlhgejaa
/- maps.Equal of marks: are the marks the same; on every order in which the entries may come. -/
namespace Go.Proofs.Ytkeajfedlhgejaa
open Go.RowKit Go.Maps
set_option linter.unusedVariables false
attribute [local go_sem ↓] Go.wp_at_zero Go.wp_at_succ
/-- A struct's or an array's load behind a guard that lets it by. -/
theorem load_row_g {ops : Array Oper} {rest : List Oper} {o : Oper} {a : Act} {w : World} {Q : Exit → Act → World → Prop} (hw : Region.wanted o (yielded ops a.tmps) = true) (x : Operand) (ho : o.op = .load 97 x)
    (g : Nat) (hx : a.eval x = .pointer (some ⟨g, 0, none⟩)) (cs : Array Value) (hg : w.heap[g]? = some (.cells cs 97 (0, 0))) (hi : (Try.prog.info? 97).map (·.size) = some cs.size)
    (h : wpList Try.prog ops Q rest (a.put o.dst (.agg cs)) w) : wpList Try.prog ops Q (o :: rest) a w :=
  wpList_step fun K hK => by
    rw [if_pos hw]
    exact wp_load_row 97 x ho g hx 97 cs (0, 0) _ hg Try.underlying97 rfl hi (hK _ _ h)
/-- The marks of two memories of as many lines are the same. -/
def SameMarks (nl : Nat) (m m' : Nat → Nat → Nat) : Prop := ∀ j, j < nl → ∀ c, c < 65 → m j c = m' j c
set_option maxRecDepth 100000 in
set_option maxHeartbeats 1600000 in
theorem eqM_any {w : World} {mb mb' nl : Nat} {m m' : Nat → Nat → Nat} (h : MarksAt w mb nl m) (h' : MarksAt w mb' nl m') (hb : nl ≤ 16384) {bb : Bool} (hbb : bb = true ↔ SameMarks nl m m') :
    Calls Try.prog 55 #[.map (some mb), .map (some mb')] w fun e w' => e = .returned (.bool bb) ∧ Below w.heap.size w w' := by
  obtain ⟨D, hown, hk, hs, ha⟩ := h
  obtain ⟨D', hown', hk', hs', ha'⟩ := h'
  have l1 := fun ty => hown.len (t := 68) Try.underlying68 ty
  have l2 := fun ty => hown'.len (t := 68) Try.underlying68 ty
  have HBB := Lib.hid hbb
  have HO := Lib.hid hown
  have HO' := Lib.hid hown'
  by_cases hsz : Maps.size D = Maps.size D'
  · have hne : (((Maps.size D : Nat) : Int) != ((Maps.size D' : Nat) : Int)) = false := by rw [hsz]; simp
    go_enter Try.func55, Try.ntmps55
    go_wp2_with (at_range; refine wpList_range_own _ rfl (.tmp 14) 68 rfl 3 97 keyed Try.underlying68 mkR mb (Maps.size D) D rfl hown ?_; intro w0 hrg0 hg0 hs0)
    go_frame
    have hmb' := hown'.lt
    have hw0 : Below w.heap.size w w0 := ⟨hg0.os, hg0.tape, hg0.output, hg0.size, fun k hk => hg0.block k hk (by simp)⟩
    have hm0 : MarksAt w0 mb' nl m' := MarksAt.same ⟨D', hown', hk', hs', ha'⟩ (hw0.block mb' hmb')
    have HK := Lib.hid hk
    have HS := Lib.hid hs
    have HA := Lib.hid ha
    have HK' := Lib.hid hk'
    have HS' := Lib.hid hs'
    have HSZ := Lib.hid hsz
    clear hk hs ha hown hown' hk' hs' ha' l1 l2 hne hsz
    go_loopw [5, 8] (fun _ _ wr => ∃ (left : Lit → Bool) (cnt : Nat), wr.ranges Try.prog 3 mkR mb w.heap.size (Maps.size D) D left cnt ∧ MarksAt wr mb' nl m' ∧ Below w.heap.size w wr ∧ ∀ j, j < nl → left (key j) = false → someMk (m j) → ∀ c, c < 65 → m j c = m' j c) (fun _ _ wr => wr.rangeLeft mb w.heap.size)
    case atStart =>
      refine ⟨_, _, hrg0, hm0, hw0, fun j hj hl hs => ?_⟩
      rw [(HS.out j hj).2 hs] at hl
      cases hl
    case round =>
      obtain ⟨left, cnt, hrg, hmk, hbl, hdone⟩ := hrel
      have HRG := Lib.hid hrg
      have HMK := Lib.hid hmk
      have HBL := Lib.hid hbl
      have HDN := Lib.hid hdone
      clear hm0 hw0 hrg0 hg0 hs0 hmk hbl hdone
      go_wp2_with (at_next; refine wpList_next_ranges wr rfl (.tmp 15) rfl 3 keyed mkR (fun x : Int => Value.int .i64 x) mkV (fun key kl hkey => by obtain ⟨x, rfl, _⟩ := Maps.keyOf_int_inv Try.underlying3 hkey; exact ⟨x, rfl⟩) (fun v y hv => by obtain ⟨f, rfl, _⟩ := mkR_inv hv; exact ⟨f, rfl⟩) mb w.heap.size (Maps.size D) D left cnt rfl hrg ?_ ?_)
      · intro hc0 hl0
        clear hrg
        go_wp2_with fail
        go_ret
        refine ⟨?_, HBL.out⟩
        have hsame : SameMarks nl m m' := by
          intro j hj c hc
          by_cases h1 : someMk (m j)
          · exact HDN.out j hj (hl0 _) h1 c hc
          · by_cases h2 : someMk (m' j)
            · have hlt := size_lt HO.out HK.out HO'.out HK'.out (fun i hi hh => (HS'.out i hi).2 (by
                have h3 := (HS.out i hi).1 hh
                obtain ⟨c0, hc0, hn0⟩ := h3
                refine ⟨c0, hc0, ?_⟩
                rw [← HDN.out i hi (hl0 _) ⟨c0, hc0, hn0⟩ c0 hc0]
                exact hn0)) hj ((HS'.out j hj).2 h2) (fun hx => h1 ((HS.out j hj).1 hx))
              have := HSZ.out
              omega
            · rw [not_some h1 c hc, not_some h2 c hc]
        rw [HBB.out.2 hsame]
        rfl
      · intro x f kl a ps w1 cnt1 hkey hl hv hat hrg1 hlt hg1 hsz hen
        clear hsz
        have hhas := left_has HRG.out keyed hl
        obtain ⟨j, hj, rfl⟩ := HK.out kl hhas
        obtain rfl : x = (j : Int) := by
          have e1 : Value.int .i64 x = .int .i64 (j : Int) := keyed.inj hkey (key_of (i := j) (by omega))
          exact (Value.int.inj e1).2
        have hfm : mkV f = mkV (m j) := by
          obtain ⟨f', e3, e4, _⟩ := mkR_inv hv
          have e6 : a = mkD f' := congrArg Prod.fst e4
          have e5 := HA.out j hj (mkD fun _ => 0) hhas
          rw [hat] at e5
          exact e3.trans (mkV_of (mkD_inj (e6.symm.trans e5)))
        rw [hfm, mkV_marr] at hen ⊢
        obtain ⟨B, hB⟩ : ∃ B, B = marr (m j) := ⟨_, rfl⟩
        obtain ⟨C, hC⟩ : ∃ C, C = marr (m' j) := ⟨_, rfl⟩
        have hneq := fun W => neq65 (m j) (m' j) W
        rw [← hB, ← hC] at hneq
        rw [← hB] at hen ⊢
        have hfit : (Try.prog.info? 97).map (·.size) = some B.size := by rw [hB]; exact marr_fit _
        have hold : (Array.replicate 65 (Value.int .i64 0)).size = B.size := by rw [hB, marr_size]; rfl
        have hone : B.all (·.oneCell') = true := by rw [hB]; exact marr_one _
        have hfit2 : (Try.prog.info? 97).map (·.size) = some C.size := by rw [hC]; exact marr_fit _
        have hold2 : (Array.replicate 65 (Value.int .i64 0)).size = C.size := by rw [hC, marr_size]; rfl
        have hone2 : C.all (·.oneCell') = true := by rw [hC]; exact marr_one _
        have hr3 := Row.new w1 97 (Array.replicate 65 (Value.int .i64 0))
        obtain ⟨W2, hW2⟩ : ∃ W2, W2 = (w1.alloc (.cells Try.zeroCells97 97)).setRow w1.heap.size B := ⟨_, rfl⟩
        have hrr : Row W2 w1.heap.size 97 B := by rw [hW2]; exact (Row.new w1 97 Try.zeroCells97).setRow B
        have hb2 : Below w1.heap.size w1 W2 := by rw [hW2]; exact below_setRow (alloc_below _ _) (Nat.le_refl _) _
        have hr4 := Row.new W2 97 (Array.replicate 65 (Value.int .i64 0))
        obtain ⟨W3, hW3⟩ : ∃ W3, W3 = (W2.alloc (.cells Try.zeroCells97 97)).setRow W2.heap.size C := ⟨_, rfl⟩
        have hb3 : Below W2.heap.size W2 W3 := by rw [hW3]; exact below_setRow (alloc_below _ _) (Nat.le_refl _) _
        have hrB : Row W3 w1.heap.size 97 B := hrr.below hb3 hrr.lt
        have hrC : Row W3 W2.heap.size 97 C := by rw [hW3]; exact (Row.new W2 97 Try.zeroCells97).setRow C
        have hwr := HRG.out.lt
        have hmr : mb' ≠ w.heap.size := by omega
        have hbw1 : Below w.heap.size w w1 := HBL.out.trans ⟨hg1.os, hg1.tape, hg1.output, hg1.size, fun k hk => hg1.block k (by have := HBL.out.size; omega) (fun e => by have := Option.some.inj e; omega)⟩
        have hml := HMK.out.lt
        have hm1 : MarksAt w1 mb' nl m' := HMK.out.same (hg1.block mb' hml (fun e => hmr (Option.some.inj e)))
        have hm2 : MarksAt W2 mb' nl m' := hm1.same (hb2.block mb' hm1.lt)
        have hm3 : MarksAt W3 mb' nl m' := hm2.same (hb3.block mb' hm2.lt)
        obtain ⟨bo, hbo, hlk⟩ := marks_look_ok hm2 hj hb
        rw [mkV_marr, ← hC] at hlk
        have HW2 := Lib.hid hW2
        have HW3 := Lib.hid hW3
        have hrg3 : W3.ranges Try.prog 3 mkR mb w.heap.size (Maps.size D) D (fun z => left z && !z.sameKey (key j)) cnt1 := by
          have hbl1 := hrg1.owns.lt
          have hrl1 := hrg1.lt
          have hB13 : Below w1.heap.size w1 W3 := Below.and hb2 hb3
          refine hrg1.kept (row := some w1.heap.size) ⟨hB13.os, hB13.tape, hB13.output, hB13.size, fun k hk _ => hB13.block k hk⟩ (fun e => ?_) (fun e => ?_)
          · have := Option.some.inj e
            omega
          · have := Option.some.inj e
            omega
        have HRG3 := Lib.hid hrg3
        have HB3 := Lib.hid (hbw1.trans ((Below.and hb2 hb3).mono hbw1.size))
        have HM3 := Lib.hid hm3
        have HHAS := Lib.hid hhas
        have HBO := Lib.hid hbo
        have HLT := Lib.hid hlt
        have hi2 : (Try.prog.info? 97).map (·.size) = some B.size := hfit
        have hu := Try.underlying97
        have hld1 := run_loadVar_row (P := Try.prog) W3 w1.heap.size 97 97 B (0, 0) _ hrB hu rfl hfit
        have hld2 := run_loadVar_row (P := Try.prog) W3 W2.heap.size 97 97 C (0, 0) _ hrC hu rfl hfit2
        clear hW2 hW3 hrr hb2 hb3 hld1 hld2 hbw1 hm1 hm2 hm3 hrg3 hhas hbo hrg1 hg1 hkey hl hv hat hfm hB hC hrg hml hmr hwr hlt
        cases bo with
        | false =>
          have hbf : bb = false := by
            rw [Bool.eq_false_iff]
            intro hx
            have hsm := HBB.out.1 hx
            obtain ⟨c0, hc0, hn0⟩ := (HS.out j hj).1 HHAS.out
            have h3 : someMk (m' j) := ⟨c0, hc0, by rw [← hsm j hj c0 hc0]; exact hn0⟩
            exact Bool.noConfusion (HBO.out.2 h3)
          have HF := Lib.hid hbf
          clear hbf hbb
          go_wp2_with (first | (refine wpList_store_row rfl 97 (.tmp 6) (.tmp 20) rfl w1.heap.size B rfl rfl 97 _ hr3 hfit hold hone ?_; rw [← HW2.out]) | (refine wpList_store_row rfl 97 (.tmp 7) (.tmp 25) rfl W2.heap.size C rfl rfl 97 _ hr4 hfit2 hold2 hone2 ?_; rw [← HW3.out]) | (refine load_row_g (by rfl) (.tmp 6) rfl w1.heap.size rfl B hrB hfit ?_) | (refine load_row_g (by rfl) (.tmp 7) rfl W2.heap.size rfl C hrC hfit2 ?_))
          go_ret
          exact ⟨by rw [HF.out]; rfl, HB3.out⟩
        | true =>
          by_cases hsm : sameMk (m j) (m' j) = true
          · rw [hsm] at hneq
            have HSM := Lib.hid ((sameMk_iff _ _).1 hsm)
            clear hsm hbb
            go_wp2_with (first | (refine wpList_store_row rfl 97 (.tmp 6) (.tmp 20) rfl w1.heap.size B rfl rfl 97 _ hr3 hfit hold hone ?_; rw [← HW2.out]) | (refine wpList_store_row rfl 97 (.tmp 7) (.tmp 25) rfl W2.heap.size C rfl rfl 97 _ hr4 hfit2 hold2 hone2 ?_; rw [← HW3.out]) | (refine load_row_g (by rfl) (.tmp 6) rfl w1.heap.size rfl B hrB hfit ?_) | (refine load_row_g (by rfl) (.tmp 7) rfl W2.heap.size rfl C hrC hfit2 ?_))
            go_roundw
            case rel =>
              refine ⟨_, _, HRG3.out, HM3.out, HB3.out, fun i hi hl hs => ?_⟩
              by_cases hij : i = j
              · subst hij
                exact HSM.out
              · refine HDN.out i hi ?_ hs
                have hns : (key i).sameKey (key j) = false := by
                  rw [Bool.eq_false_iff]
                  exact fun hx => hij (same_key hx)
                rw [hns] at hl
                simpa using hl
            case measure => rw [HRG3.out.left_eq, HRG.out.left_eq]; exact HLT.out
          · have hsf : sameMk (m j) (m' j) = false := by simpa using hsm
            rw [hsf] at hneq
            have hbf : bb = false := by
              rw [Bool.eq_false_iff]
              intro hx
              exact hsm ((sameMk_iff _ _).2 (HBB.out.1 hx j hj))
            have HF := Lib.hid hbf
            clear hbf hbb hsm hsf
            go_wp2_with (first | (refine wpList_store_row rfl 97 (.tmp 6) (.tmp 20) rfl w1.heap.size B rfl rfl 97 _ hr3 hfit hold hone ?_; rw [← HW2.out]) | (refine wpList_store_row rfl 97 (.tmp 7) (.tmp 25) rfl W2.heap.size C rfl rfl 97 _ hr4 hfit2 hold2 hone2 ?_; rw [← HW3.out]) | (refine load_row_g (by rfl) (.tmp 6) rfl w1.heap.size rfl B hrB hfit ?_) | (refine load_row_g (by rfl) (.tmp 7) rfl W2.heap.size rfl C hrC hfit2 ?_))
            go_ret
            exact ⟨by rw [HF.out]; rfl, HB3.out⟩
  · have hne : (((Maps.size D : Nat) : Int) != ((Maps.size D' : Nat) : Int)) = true := by simp; omega
    have hbf : bb = false := by
      rw [Bool.eq_false_iff]
      intro hx
      have hsm := hbb.1 hx
      have h1 := size_le HO.out hk HO'.out hk' (fun j hj hh => (hs' j hj).2 (by
        obtain ⟨c0, hc0, hn0⟩ := (hs j hj).1 hh
        exact ⟨c0, hc0, by rw [← hsm j hj c0 hc0]; exact hn0⟩))
      have h2 := size_le HO'.out hk' HO.out hk (fun j hj hh => (hs j hj).2 (by
        obtain ⟨c0, hc0, hn0⟩ := (hs' j hj).1 hh
        exact ⟨c0, hc0, by rw [hsm j hj c0 hc0]; exact hn0⟩))
      omega
    have HF := Lib.hid hbf
    clear hk hs ha hown hown' hk' hs' ha' hbf hbb
    go_enter Try.func55, Try.ntmps55
    go_wp2
    go_ret
    exact ⟨by rw [HF.out]; rfl, Below.refl _ _⟩
end Go.Proofs.Ytkeajfedlhgejaa
/- What Low says, beside the equality of marks. -/
/- Same of two memories that are there: are they in the same state; for states that a memory can have. -/
namespace Go.Proofs.Ytkeajfedlhgejaa
open Go.RowKit
set_option linter.unusedVariables false
/-- What stays while two memories are held against each other. -/
abbrev SmS (w : World) (y : Lay) (s : St) (y' : Lay) (s' : St) (W' : World) : Prop := W'.cell? ⟨y.g, 0, none⟩ = some (.slice (some ⟨y.gl, 0, none⟩) (8 * s.nl) y.cl) ∧ W'.cell? ⟨y.g, 1, none⟩ = some (.slice (some ⟨y.gv, 0, none⟩) (8 * s.nl) y.cv) ∧ W'.cell? ⟨y.g, 2, none⟩ = some (.slice (some ⟨y.gp, 0, none⟩) s.nl y.cp) ∧ W'.cell? ⟨y.g, 3, none⟩ = some (.map (some y.mb)) ∧ W'.cell? ⟨y'.g, 0, none⟩ = some (.slice (some ⟨y'.gl, 0, none⟩) (8 * s'.nl) y'.cl) ∧ W'.cell? ⟨y'.g, 1, none⟩ = some (.slice (some ⟨y'.gv, 0, none⟩) (8 * s'.nl) y'.cv) ∧ W'.cell? ⟨y'.g, 2, none⟩ = some (.slice (some ⟨y'.gp, 0, none⟩) s'.nl y'.cp) ∧ W'.cell? ⟨y'.g, 3, none⟩ = some (.map (some y'.mb)) ∧ Below w.heap.size w W'
theorem SmS.low {w : World} {y : Lay} {s : St} {y' : Lay} {s' : St} {W' : World} (h : SmS w y s y' s' W') : Below w.heap.size w W' := h.2.2.2.2.2.2.2.2
theorem SmS.of {w : World} {y : Lay} {s : St} {y' : Lay} {s' : St} (h : MemAt w y s) (h' : MemAt w y' s') {W' : World} (hb : Below w.heap.size w W') : SmS w y s y' s' W' := by
  have r := (h.below hb).row
  have r' := (h'.below hb).row
  refine ⟨?_, ?_, ?_, ?_, ?_, ?_, ?_, ?_, hb⟩
  · have := r.cell 0; simpa using this
  · have := r.cell 1; simpa using this
  · have := r.cell 2; simpa using this
  · have := r.cell 3; simpa using this
  · have := r'.cell 0; simpa using this
  · have := r'.cell 1; simpa using this
  · have := r'.cell 2; simpa using this
  · have := r'.cell 3; simpa using this
set_option maxRecDepth 100000 in
set_option maxHeartbeats 3200000 in
theorem same_walk {w : World} {y y' : Lay} {s s' : St} (h : MemAt w y s) (h' : MemAt w y' s') {b1 b2 b3 b4 bb : Bool}
    (hbb : b1 = false ∧ bb = false ∨ b1 = true ∧ b2 = false ∧ bb = false ∨ b1 = true ∧ b2 = true ∧ b3 = false ∧ bb = false ∨ b1 = true ∧ b2 = true ∧ b3 = true ∧ bb = b4)
    (HV : Hid (∀ p : LowBy w, Calls Try.prog 52 #[.slice (some ⟨y.gv, 0, none⟩) (8 * s.nl) y.cv, .slice (some ⟨y'.gv, 0, none⟩) (8 * s'.nl) y'.cv] p.W fun e w' => e = .returned (.bool b1) ∧ ∃ q : LowBy w, w' = q.W))
    (HL : Hid (∀ p : LowBy w, Calls Try.prog 52 #[.slice (some ⟨y.gl, 0, none⟩) (8 * s.nl) y.cl, .slice (some ⟨y'.gl, 0, none⟩) (8 * s'.nl) y'.cl] p.W fun e w' => e = .returned (.bool b2) ∧ ∃ q : LowBy w, w' = q.W))
    (HP : Hid (∀ p : LowBy w, Calls Try.prog 53 #[.slice (some ⟨y.gp, 0, none⟩) s.nl y.cp, .slice (some ⟨y'.gp, 0, none⟩) s'.nl y'.cp, .func (.func 54) #[] #[]] p.W fun e w' => e = .returned (.bool b3) ∧ ∃ q : LowBy w, w' = q.W))
    (HQ : Hid (b1 = true → ∀ p : LowBy w, Calls Try.prog 55 #[.map (some y.mb), .map (some y'.mb)] p.W fun e w' => e = .returned (.bool b4) ∧ ∃ q : LowBy w, w' = q.W)) :
    Calls Try.prog 22 #[.pointer (some ⟨y.g, 0, none⟩), .pointer (some ⟨y'.g, 0, none⟩)] w fun e w' => e = .returned (.bool bb) ∧ Below w.heap.size w w' := by
  have mixed : Try.prog.follows .mixedOrders = true := by kernel_rfl
  have HN := Lib.hid (none_yes h)
  have HN' := Lib.hid (none_yes h')
  have S := SmS.of h h' (Below.refl _ w)
  obtain ⟨f0, f1, f2, f3, k0, k1, k2, k3, _⟩ := S
  have c0 := LowBy.cell f0
  have c1 := LowBy.cell f1
  have c2 := LowBy.cell f2
  have c3 := LowBy.cell f3
  have d0 := LowBy.cell k0
  have d1 := LowBy.cell k1
  have d2 := LowBy.cell k2
  have d3 := LowBy.cell k3
  clear h h' f0 f1 f2 f3 k0 k1 k2 k3
  rcases hbb with ⟨rfl, rfl⟩ | ⟨rfl, rfl, rfl⟩ | ⟨rfl, rfl, rfl, rfl⟩ | ⟨rfl, rfl, rfl, rfl⟩
  · clear HL HP HQ
    go_enter Try.func22, Try.ntmps22
    go_wp2_with fail
    refine HN.out.mono ?_
    rintro e w1 ⟨rfl, rfl⟩
    go_wp2_with fail
    refine HN'.out.mono ?_
    rintro e w1 ⟨rfl, rfl⟩
    go_wp2_with fail
    refine wp_region_quiet_low (by assumption) (by kernel_rfl) ?_
    repeat (go_big_quiet_step ((go_at_call 52; with_reducible exact HV.out _)))
    refine wpQuiet_nil ?_
    intro _ hw'
    obtain ⟨p, hw''⟩ := hw'
    subst hw''
    have hp := Lib.hid p.low
    go_wp2
    go_ret
    exact ⟨rfl, hp.out⟩
  · clear HP HQ
    go_enter Try.func22, Try.ntmps22
    go_wp2_with fail
    refine HN.out.mono ?_
    rintro e w1 ⟨rfl, rfl⟩
    go_wp2_with fail
    refine HN'.out.mono ?_
    rintro e w1 ⟨rfl, rfl⟩
    go_wp2_with fail
    refine wp_region_quiet_low (by assumption) (by kernel_rfl) ?_
    repeat (go_big_quiet_step ((go_at_call 52; first | with_reducible exact HV.out _ | with_reducible exact HL.out _)))
    refine wpQuiet_nil ?_
    intro _ hw'
    obtain ⟨p, hw''⟩ := hw'
    subst hw''
    have hp := Lib.hid p.low
    go_wp2
    go_ret
    exact ⟨rfl, hp.out⟩
  · clear HQ
    go_enter Try.func22, Try.ntmps22
    go_wp2_with fail
    refine HN.out.mono ?_
    rintro e w1 ⟨rfl, rfl⟩
    go_wp2_with fail
    refine HN'.out.mono ?_
    rintro e w1 ⟨rfl, rfl⟩
    go_wp2_with fail
    refine wp_region_quiet_low (by assumption) (by kernel_rfl) ?_
    repeat (go_big_quiet_step (first | (go_at_call 52; first | with_reducible exact HV.out _ | with_reducible exact HL.out _) | (go_at_call 53; with_reducible exact HP.out _)))
    refine wpQuiet_nil ?_
    intro _ hw'
    obtain ⟨p, hw''⟩ := hw'
    subst hw''
    have hp := Lib.hid p.low
    go_wp2
    go_ret
    exact ⟨rfl, hp.out⟩
  · have HQ1 := Lib.hid (HQ.out rfl)
    clear HQ
    go_enter Try.func22, Try.ntmps22
    go_wp2_with fail
    refine HN.out.mono ?_
    rintro e w1 ⟨rfl, rfl⟩
    go_wp2_with fail
    refine HN'.out.mono ?_
    rintro e w1 ⟨rfl, rfl⟩
    go_wp2_with fail
    refine wp_region_quiet_low (by assumption) (by kernel_rfl) ?_
    repeat (go_big_quiet_step (first | (go_at_call 52; first | with_reducible exact HV.out _ | with_reducible exact HL.out _) | (go_at_call 53; with_reducible exact HP.out _) | (go_at_call 55; with_reducible exact HQ1.out _)))
    refine wpQuiet_nil ?_
    intro _ hw'
    obtain ⟨p, hw''⟩ := hw'
    subst hw''
    have hp := Lib.hid p.low
    go_wp2
    go_ret
    exact ⟨rfl, hp.out⟩
theorem same_yes {w : World} {y y' : Lay} {s s' : St} (h : MemAt w y s) (h' : MemAt w y' s') (ok : s.Ok) (ok' : s'.Ok) {bb : Bool} (hbb : bb = true ↔ s.view = s'.view ∧ s.lasted = s'.lasted ∧ s.pend = s'.pend ∧ SameMarks s.nl s.mm s'.mm) :
    Calls Try.prog 22 #[.pointer (some ⟨y.g, 0, none⟩), .pointer (some ⟨y'.g, 0, none⟩)] w fun e w' => e = .returned (.bool bb) ∧ Below w.heap.size w w' := by
  have m1 := h.most
  have m2 := h'.most
  have lv := ownsRow_len h.vie
  have lv' := ownsRow_len h'.vie
  have tl := fun W' (hb : Below w.heap.size w W') (j : Nat) (v : Value) (l : List (Nat × Nat)) (hv : y.ps[j]? = some v) (hl : s.pend[j]? = some l) => (h.below hb).tails j (by have := (List.getElem?_eq_some_iff.1 hl).1; have := h.plen; omega) v l hv hl
  have tl' := fun W' (hb : Below w.heap.size w W') (j : Nat) (v : Value) (l : List (Nat × Nat)) (hv : y'.ps[j]? = some v) (hl : s'.pend[j]? = some l) => (h'.below hb).tails j (by have := (List.getElem?_eq_some_iff.1 hl).1; have := h'.plen; omega) v l hv hl
  have hx : ∃ b4 : Bool, b4 = true ↔ SameMarks s.nl s.mm s'.mm := by
    classical
    exact ⟨decide (SameMarks s.nl s.mm s'.mm), by simp⟩
  obtain ⟨b4, hb4⟩ := hx
  refine same_walk h h' (b1 := decide (s.view = s'.view)) (b2 := decide (s.lasted = s'.lasted)) (b3 := decide (s.pend = s'.pend)) (b4 := b4) ?_
    (Lib.hid fun p => Calls.low_of ((eqW_any s.view s'.view _ _ _ _ _ _ 0 0 p.W lv lv' (by omega) (by omega) (h.below p.low).vie (h'.below p.low).vie).mono fun e w' ⟨h1, q, h2⟩ => ⟨h1, by rw [← h2]; exact drewN_below _ q⟩))
    (Lib.hid fun p => Calls.low_of ((eqW_any s.lasted s'.lasted _ _ _ _ _ _ 0 0 p.W (ownsRow_len h.las) (ownsRow_len h'.las) (by omega) (by omega) (h.below p.low).las (h'.below p.low).las).mono fun e w' ⟨h1, q, h2⟩ => ⟨h1, by rw [← h2]; exact drewN_below _ q⟩))
    (Lib.hid fun p => Calls.low_of ((eqF_any (h.below p.low).pen (h'.below p.low).pen h.plen h'.plen m1 m2 (tl p.W p.low) (tl' p.W p.low) ok.few ok'.few).mono fun e w' ⟨h1, q, h2⟩ => ⟨h1, by rw [← h2]; exact drewN_below _ q⟩))
    (Lib.hid fun hv p => Calls.low_of ?_)
  · by_cases v : s.view = s'.view <;> by_cases l : s.lasted = s'.lasted <;> by_cases p : s.pend = s'.pend <;> simp [v, l, p] at hbb ⊢
    all_goals first | exact hbb | (rw [Bool.eq_iff_iff, hbb, hb4])
  · have e : s.view = s'.view := by simpa using hv
    have hnl : s.nl = s'.nl := by rw [e, lv'] at lv; omega
    exact eqM_any (h.below p.low).marks (by rw [hnl]; exact (h'.below p.low).marks) m1 hb4
end Go.Proofs.Ytkeajfedlhgejaa
/- of: the places of a line's pending stores in the document's memory. -/
namespace Go.Proofs.Ytkeajfedlhgejaa
open Go Go.RowKit
set_option linter.unusedVariables false
def ofU (l : Nat) (L : List Md) (i : Nat) : List Nat := (List.range i).filter fun t => match L[t]? with | some x => isPen l x | none => false
theorem ofU_yes {l : Nat} {L : List Md} {i : Nat} {x : Md} (hx : L[i]? = some x) (h : isPen l x = true) : ofU l L (i + 1) = ofU l L i ++ [i] := by simp [ofU, List.range_succ, hx, h]
theorem ofU_no {l : Nat} {L : List Md} {i : Nat} {x : Md} (hx : L[i]? = some x) (h : isPen l x = false) : ofU l L (i + 1) = ofU l L i := by simp [ofU, List.range_succ, hx, h]
theorem ofU_len (l : Nat) (L : List Md) (i : Nat) : (ofU l L i).length ≤ i := by
  unfold ofU
  exact Nat.le_trans (List.length_filter_le _ _) (by simp)
/-- The stores at those places are what is pending. -/
theorem ofU_pen (l : Nat) (L : List Md) (i : Nat) (hi : i ≤ L.length) : (ofU l L i).map (fun t => L[t]?) = (pen l (L.take i)).map some := by
  induction i with
  | zero => simp [ofU, pen]
  | succ i ih =>
    have hx : L[i]? = some L[i] := List.getElem?_eq_getElem (by omega)
    have hp : pen l (L.take (i + 1)) = pen l (L.take i) ++ pen l [L[i]] := by rw [List.take_succ_eq_append_getElem (by omega), pen_append]
    rw [hp]
    cases h : isPen l L[i]
    · rw [ofU_no hx h, ih (by omega)]
      simp [pen, h]
    · rw [ofU_yes hx h, List.map_append, ih (by omega)]
      simp [pen, h, hx]
set_option maxRecDepth 100000 in
set_option maxHeartbeats 8000000 in
theorem r2of_any {w : World} {g : Nat} {r : Rf} {vF vL : Value} {ms : List Value} (h : R2At w g r vF vL ms) (a : Nat) (ha : a < 18446744073709551616) (had : ∀ x ∈ r.L, x.a < 18446744073709551616) (hLn : r.L.length ≤ 1000000) :
    Calls Try.prog 56 #[.pointer (some ⟨g, 0, none⟩), .int .u64 (a : Int)] w (fun e w' => (∃ v, e = .returned v ∧ w'.ownsRow w.heap.size 3 1 v (ofU (a / 64) r.L r.L.length).length ((ofU (a / 64) r.L r.L.length).map cv)) ∧ Below w.heap.size w w') := by
  obtain ⟨i0, hi, hz0, hz1, hz2⟩ := info_parts infoI2
  have HL := Lib.hid fun W => r2line_any a W ha
  have HX := Lib.hid fun (x : Md) (hx : x ∈ r.L) (W : World) => r2line_any x.a W (had x hx)
  obtain ⟨A, cap, rfl, hm⟩ := own4_sl h.li
  obtain ⟨q, hq⟩ : ∃ q, r.L.length = q := ⟨_, rfl⟩
  rw [hq] at h hm
  obtain ⟨l, hl⟩ : ∃ l : Nat, l = a / 64 := ⟨_, rfl⟩
  rw [← hl] at HL ⊢
  rw [hq] at hLn
  rw [hq]
  have H := Lib.hid h
  have HQ := Lib.hid hq
  clear h hm hq had hl
  go_enter Try.func56, Try.ntmps56
  go_wp2
  go_loopg [5, 6] q (fun k u v wr => ∃ i : Nat, v = .int .i64 (i : Int) ∧ i ≤ q ∧ q - i ≤ k ∧ wr.ownsRow w.heap.size 3 1 u (ofU l r.L i).length ((ofU l r.L i).map cv) ∧ Below w.heap.size w wr)
  case atStart => exact ⟨0, rfl, by omega, by omega, World.ownsRow_nil _ _ _ _, Below.refl _ _⟩
  case round =>
    obtain ⟨i, rfl, hin, hk, hown, hlow⟩ := hrel
    rename World => wr
    have hr := H.out.below hlow
    have c1 := hr.row.cell 1
    simp only [List.getElem?_toArray, List.getElem?_cons_succ, List.getElem?_cons_zero] at c1
    by_cases hlt : i < q
    · obtain ⟨x, hx⟩ : ∃ x, r.L[i]? = some x := ⟨_, List.getElem?_eq_getElem (by rw [HQ.out]; exact hlt)⟩
      obtain ⟨gl, v, rfl, hv, x0, x1, x2, x3, fr, ho⟩ := hr.cellsX HQ.out hx
      have HXX := Lib.hid (fun W => HX.out x (List.mem_of_getElem? hx) W)
      have hlen := ofU_len l r.L i
      have HLW := Lib.hid hlow
      have skip : isPen l x = false → Hid (wr.ownsRow w.heap.size 3 1 u5 (ofU l r.L (i + 1)).length ((ofU l r.L (i + 1)).map cv)) := fun e => Lib.hid (by rw [ofU_no hx e]; exact hown)
      cases hxd : x.d
      · rw [hxd] at x2
        obtain ⟨y, hy⟩ : ∃ y : Nat, y = x.a / 64 := ⟨_, rfl⟩
        rw [← hy] at HXX
        by_cases hll : y = l
        · have hle : ((y : Int) == (l : Int)) = true := by simp; omega
          have hp : isPen l x = true := by simp [isPen, hxd, ← hy, hll]
          have HU := Lib.hid (ofU_yes hx hp)
          obtain ⟨t, htt⟩ : ∃ t, t = (ofU l r.L i).length := ⟨_, rfl⟩
          have HO : Hid (wr.ownsRow w.heap.size 3 1 u5 t ((ofU l r.L i).map cv)) := Lib.hid (by rw [htt]; exact hown)
          have HTT := Lib.hid htt
          rw [← htt] at hlen
          have hsw : w.heap.size ≤ wr.heap.size := hlow.size
          clear hr hlow hown hx hv x1 x3 fr ho skip hp htt hy hll hxd
          go_wp2_with fail
          refine (HXX.out _).mono ?_
          rintro e w1 ⟨rfl, rfl⟩
          go_wp2_with fail
          refine (HL.out _).mono ?_
          rintro e w1 ⟨rfl, rfl⟩
          go_wp2_with (at_builtin; refine wpList_append_own_at _ rfl _ _ 36 rfl w.heap.size 3 i0 (.int .i64 0) 1 8 Try.underlying36 hi hz0 hz1 hz2 rfl (by decide) _ t _ (by rfl) (HO.out.alloc _) ⟨wr.heap.size, 0, none⟩ 1 1 [.int .i64 (i : Int)] (by rfl) (by rfl) ?q1 ?q2 ?q3 ?q4 ?q5 ?_)
          case q1 =>
            intro z u hu
            rw [Addr.add_lit, Nat.zero_add, (Row.new wr 3 #[.int .i64 (i : Int)]).cell]
            simpa using hu
          case q2 => simp [Value.oneCell']
          case q3 => unfold maxLen; omega
          case q4 => omega
          case q5 => simp; omega
          intro v' w2 hown' hgrow _ _
          have hl2 : Below w.heap.size w w2 := (Below.and HLW.out (alloc_below _ (.cells #[.int .i64 (i : Int)] 3))).grown hgrow (by simp; omega) (fun q hq => own_fromI HO.out q hq)
          have HO2 : Hid (w2.ownsRow w.heap.size 3 1 v' (ofU l r.L (i + 1)).length ((ofU l r.L (i + 1)).map cv)) := Lib.hid (by
            rw [HU.out, List.length_append, List.map_append, ← HTT.out]
            exact hown')
          have HL2 := Lib.hid hl2
          clear hown' hgrow hl2
          go_wp2
          go_roundg (q - (i + 1))
          case measure => omega
          case rel => exact ⟨i + 1, by go_num, by omega, by omega, HO2.out, HL2.out⟩
        · have hle : ((y : Int) == (l : Int)) = false := by simp; omega
          have HS := skip (by simp [isPen, hxd, ← hy, hll])
          clear hr hlow hown hx hv x1 x3 fr ho skip hy hll hxd
          go_wp2_with fail
          refine (HXX.out _).mono ?_
          rintro e w1 ⟨rfl, rfl⟩
          go_wp2_with fail
          refine (HL.out _).mono ?_
          rintro e w1 ⟨rfl, rfl⟩
          go_wp2
          go_roundg (q - (i + 1))
          case measure => omega
          case rel => exact ⟨i + 1, by go_num, by omega, by omega, HS.out, HLW.out⟩
      · rw [hxd] at x2
        have HS := skip (by simp [isPen, hxd])
        clear hr hlow hown hx hv x0 x1 x3 fr ho skip hxd
        go_wp2
        go_roundg (q - (i + 1))
        case measure => omega
        case rel => exact ⟨i + 1, by go_num, by omega, by omega, HS.out, HLW.out⟩
    · obtain rfl : i = q := by omega
      have hid : decide ((i : Int) < (i : Int)) = false := by simp
      obtain ⟨AL, cL, rfl, _⟩ := own4_sl hown
      have HO := Lib.hid hown
      have HLW := Lib.hid hlow
      clear hr hlow hown
      go_wp2
      go_ret
      exact ⟨⟨_, rfl, HO.out⟩, HLW.out⟩
end Go.Proofs.Ytkeajfedlhgejaa
/- Copy of the document's memory, under way: steps. -/
namespace Go.Proofs.Ytkeajfedlhgejaa
open Go Go.RowKit
set_option linter.unusedVariables false
theorem infoB2 : (Try.prog.info? 5).map (fun i => (i.zero, i.size, i.bytes)) = some (some (.int .u8 0), 1, 1) := by kernel_rfl
/-- Numbers are appended, in a text's order. -/
theorem wp_appI {o : Oper} {a : Act} {w : World} {K : Act → World → Prop} {Q : Exit → Act → World → Prop} (s x : Operand)
    (ho : o.op = .call { callee := .builtin .append, args := #[s, x], argTypes := #[36, 36] }) (B : Nat) (V : Value) (n : Nat) (xs : List Value) (hs : a.eval s = V) (hown : w.ownsRow B 3 1 V n xs) (X : Value) (news : List Value) (hx : a.eval x = X) (hrd : RdsI w X news) (h1 : ∀ u ∈ news, u.oneCell' = true) (hn : n + news.length ≤ 1000000) (hB : B ≤ w.heap.size)
    (h : ∀ v' w', w'.ownsRow B 3 1 v' (n + news.length) (xs ++ news) → w.grownBy w' V.ownBlock → K (a.put o.dst v') w') : Oper.wp Try.prog o a w K Q := by
  have hg := step_appI (ops := #[]) (o := { o with guard := none }) (a := a) (w := w) (K := K) (Q := Q) (E := True) (by rfl) s x ho B V n xs hs hown X news hx hrd h1 hn hB h
  rw [if_pos (by rfl)] at hg
  exact hg
theorem list_appI {ops : Array Oper} {rest : List Oper} {o : Oper} {a : Act} {w : World} {Q : Exit → Act → World → Prop} (hgd : o.guard = none) (s x : Operand)
    (ho : o.op = .call { callee := .builtin .append, args := #[s, x], argTypes := #[36, 36] }) (B : Nat) (V : Value) (n : Nat) (xs : List Value) (hs : a.eval s = V) (hown : w.ownsRow B 3 1 V n xs) (X : Value) (news : List Value) (hx : a.eval x = X) (hrd : RdsI w X news) (h1 : ∀ u ∈ news, u.oneCell' = true) (hn : n + news.length ≤ 1000000) (hB : B ≤ w.heap.size)
    (h : ∀ v' w', w'.ownsRow B 3 1 v' (n + news.length) (xs ++ news) → w.grownBy w' V.ownBlock → wpList Try.prog ops Q rest (a.put o.dst v') w') : wpList Try.prog ops Q (o :: rest) a w :=
  wpList_plain hgd fun _ hK => wp_appI s x ho B V n xs hs hown X news hx hrd h1 hn hB fun v' w' h2 h3 => hK _ _ (h v' w' h2 h3)
/-- Bytes are appended to none, in a region that draws its order. -/
theorem step_appB0 {ops : Array Oper} {o : Oper} {a : Act} {w : World} {K : Act → World → Prop} {Q : Exit → Act → World → Prop} {E : Prop} (hw : Region.wanted o (yielded ops a.tmps) = true) (x : Operand)
    (ho : o.op = .call { callee := .builtin .append, args := #[.const (.slice none 0 0), x], argTypes := #[22, 22] }) (ad : Addr) (n c : Nat) (news : List Value) (hx : a.eval x = .slice (some ad) n c) (hl : news.length = n) (hc : ∀ j u, news[j]? = some u → w.cell? (ad.add j) = some u) (h1 : ∀ u ∈ news, u.oneCell' = true) (hn : n ≤ 1000000)
    (h : ∀ v' w', w'.ownsRow w.heap.size 5 1 v' n news → Below w.heap.size w w' → K (a.put o.dst v') w') : if Region.wanted o (yielded ops a.tmps) = true then Oper.wp Try.prog o a w K Q else E := by
  rw [if_pos hw]
  obtain ⟨i0, hi, hz0, hz1, hz2⟩ := info_parts infoB2
  obtain ⟨v', w', hr, h2, h3, _⟩ := run_append_own_at (P := Try.prog) w w.heap.size 22 o.type 5 i0 (.int .u8 0) 1 1 Try.underlying22 hi hz0 hz1 hz2 rfl (by decide) (.slice none 0 0) 0 [] (World.ownsRow_nil _ _ _ _) ad n c news (by omega) hc h1 (by unfold maxLen; omega) (by omega) (Nat.le_refl _)
  unfold Oper.wp execOp
  have he : a.eval (.const (.slice none 0 0)) = .slice none 0 0 := rfl
  simp only [ho, resolve, invoke, builtin, Sem.run_bind, Sem.run_pure, Result.andThen_ok, List.map_toArray, List.map_cons, List.map_nil, he, hx, hr]
  rw [Nat.zero_add, List.nil_append] at h2
  exact h v' w' h2 (below_grown h3)
/-- A new variable. -/
theorem step_box {ops : Array Oper} {o : Oper} {a : Act} {w : World} {K : Act → World → Prop} {Q : Exit → Act → World → Prop} {E : Prop} (hw : Region.wanted o (yielded ops a.tmps) = true) (t : TypeId) (x : Operand) (ho : o.op = .box t x) (cells : Array Value) (hx : (a.eval x).cells = cells)
    (h : K (a.put o.dst (.pointer (some ⟨w.heap.size, 0, none⟩))) (w.alloc (.cells cells t))) : if Region.wanted o (yielded ops a.tmps) = true then Oper.wp Try.prog o a w K Q else E := by
  rw [if_pos hw]
  subst hx
  unfold Oper.wp execOp
  simp only [ho, Sem.run_bind, Instr.box, newVar, newRow, run_newObj_alloc, Sem.run_pure, Result.andThen_ok]
  exact h
/-- A list of one made store is built. -/
theorem step_build4 {ops : Array Oper} {o : Oper} {a : Act} {w : World} {K : Act → World → Prop} {Q : Exit → Act → World → Prop} {E : Prop} (hw : Region.wanted o (yielded ops a.tmps) = true) (x : Operand) (ho : o.op = .buildSlice 61 1 #[(0, x)]) (p q r s : Value) (hx : a.eval x = .agg #[p, q, r, s])
    (h : K (a.put o.dst (.slice (some ⟨w.heap.size, 0, none⟩) 1 1)) (w.alloc (.cells #[p, q, r, s] 99))) : if Region.wanted o (yielded ops a.tmps) = true then Oper.wp Try.prog o a w K Q else E := by
  rw [if_pos hw]
  obtain ⟨i0, hi, hz0, hz1, hz2⟩ := info_parts infoMade2
  refine wp_buildSlice 61 99 1 _ ho #[p, q, r, s] i0 (.agg #[.int .u64 0, .int .u64 0, .bool false, .slice none 0 0]) Try.underlying61 hi hz0 (by rw [hz1]; decide) (by rw [hz1]; decide) ?_ h
  rw [hz1]
  have e : Array.range 4 = #[0, 1, 2, 3] := by decide
  simp [hx, Instr.fill, Value.cells, e]
/-- It is appended to one's own list. -/
theorem step_app4 {ops : Array Oper} {o : Oper} {a : Act} {w : World} {K : Act → World → Prop} {Q : Exit → Act → World → Prop} {E : Prop} (hw : Region.wanted o (yielded ops a.tmps) = true) (s x : Operand)
    (ho : o.op = .call { callee := .builtin .append, args := #[s, x], argTypes := #[61, 61] }) (B : Nat) (V : Value) (n : Nat) (xs : List Value) (hs : a.eval s = V) (hown : w.ownsRow B 99 4 V n xs) (b : Nat) (l4 : List Value) (hl4 : l4.length = 4) (hx : a.eval x = .slice (some ⟨b, 0, none⟩) 1 1) (hr : Row w b 99 l4.toArray) (h1 : ∀ u ∈ l4, u.oneCell' = true) (hn : n ≤ 1000000) (hB : B ≤ w.heap.size)
    (h : ∀ v' w', w'.ownsRow B 99 4 v' (n + 1) (xs ++ l4) → w.grownBy w' V.ownBlock → K (a.put o.dst v') w') : if Region.wanted o (yielded ops a.tmps) = true then Oper.wp Try.prog o a w K Q else E := by
  rw [if_pos hw]
  obtain ⟨i0, hi, hz0, hz1, hz2⟩ := info_parts infoMade2
  obtain ⟨v', w', hrun, h2, h3, _, h5⟩ := run_append_own_at (P := Try.prog) w B 61 o.type 99 i0 (.agg #[.int .u64 0, .int .u64 0, .bool false, .slice none 0 0]) 4 48 Try.underlying61 hi hz0 hz1 hz2 rfl (by decide) V n xs hown ⟨b, 0, none⟩ 1 1 l4 (by omega) (fun j u hj => by rw [Addr.add_lit, Nat.zero_add, hr.cell]; simpa using hj) h1 (by unfold maxLen; omega) (by omega) hB
  unfold Oper.wp execOp
  simp only [ho, resolve, invoke, builtin, Sem.run_bind, Sem.run_pure, Result.andThen_ok, List.map_toArray, List.map_cons, List.map_nil, hs, hx, hrun]
  exact h v' w' h2 h3
/-- The list has grown by one whose marks lie anywhere. -/
theorem R2At.grow2 {w w2 : World} {g : Nat} {r : Rf} {vF vL vL' : Value} {ms : List Value} (h : R2At w g r vF vL ms) (hg : w.grownBy w2 vL.ownBlock) (x : Md) (vx : Value) (hx : w2.ownsRow 0 3 1 vx x.m.length (x.m.map cv))
    (ho : w2.ownsRow 0 99 4 vL' (r.L.length + 1) (flat4 r.L ms ++ mdC x vx)) :
    R2At (w2.setCell ⟨g, 1, none⟩ vL') g { r with L := r.L ++ [x] } vF vL' (ms ++ [vx]) := by
  obtain ⟨f1, f2, f3, f4⟩ := h.far
  have hrow2 : Row w2 g 65 #[vF, vL, wv r.ld, wv r.st, wv r.fl, wv r.fe] := h.row.grown hg (fun e => f1 e.symm)
  have old : ∀ k, k < w.heap.size → k ≠ g → vL.ownBlock ≠ some k → (w2.setCell ⟨g, 1, none⟩ vL').heap[k]? = w.heap[k]? := fun k h1 h2 h3 =>
    (heap_setCell_other _ _ _ _ (by show k ≠ g; exact h2)).trans (hg.block k h1 (fun e => h3 e.symm))
  refine ⟨?_, ?_, ?_, ?_, ?_⟩
  · exact hrow2.set 1 vL'
  · exact own2_same h.fi fun k hk => old k (h.lt k (.inr (.inl hk))) (fun e => f2 (by rw [← e]; exact hk)) (f3 k hk)
  · have e : (r.L ++ [x]).length = r.L.length + 1 := by simp
    show World.ownsRow _ _ _ _ _ (r.L ++ [x]).length (flat4 (r.L ++ [x]) (ms ++ [vx]))
    rw [flat4_snoc _ _ _ _ h.ml, e]
    exact own2_same ho fun k hk => heap_setCell_other _ _ _ _ (by
      obtain ⟨cs, hc⟩ := own2_tg ho hk
      exact tag_ne hc hrow2 (by decide))
  · simp [h.ml]
  · intro i v y hi hy
    have hy' : (r.L ++ [x])[i]? = some y := hy
    by_cases hl : i < r.L.length
    · rw [List.getElem?_append_left hl] at hy'
      rw [List.getElem?_append_left (by rw [h.ml]; exact hl)] at hi
      exact own2_same (h.mks i v y hi hy') fun k hk => old k (h.lt k (.inr (.inr (.inr ⟨v, List.mem_of_getElem? hi, hk⟩)))) (f4 i v hi k hk).2 (f4 i v hi k hk).1
    · have e : i = r.L.length := by have := (List.getElem?_eq_some_iff.1 hy').1; simp at this; omega
      subst e
      rw [List.getElem?_append_right (Nat.le_refl _), Nat.sub_self] at hy'
      rw [List.getElem?_append_right (by rw [h.ml]; exact Nat.le_refl _), h.ml, Nat.sub_self] at hi
      cases hy'; cases hi
      exact own2_same hx fun k hk => heap_setCell_other _ _ _ _ (by
        obtain ⟨cs, hc⟩ := own2_tg hx hk
        exact tag_ne hc hrow2 (by decide))
theorem own_rebase {w : World} {B B' n s : Nat} {e : TypeId} {v : Value} {xs : List Value} (h : w.ownsRow B e s v n xs) (hb : ∀ k, v.ownBlock = some k → B' ≤ k) : w.ownsRow B' e s v n xs := by
  refine ⟨h.1, ?_⟩
  rcases h.2 with h0 | ⟨g, cap, cur, rfl, hg, hr⟩
  · exact .inl h0
  · exact .inr ⟨g, cap, cur, rfl, hb g rfl, hr⟩
/-- The copy so far, new since B. -/
def Cp2I (w : World) (r : Rf) (i g' : Nat) (wr : World) : Prop := ∃ vF' vL' ms', R2At wr g' { r with L := r.L.take i } vF' vL' ms' ∧ (∀ k, fp2 g' vF' vL' ms' k → w.heap.size ≤ k) ∧ Below w.heap.size w wr
theorem Cp2I.below {w wr w' : World} {r : Rf} {i g' : Nat} (h : Cp2I w r i g' wr) (hb : Below wr.heap.size wr w') : Cp2I w r i g' w' := by
  obtain ⟨vF, vL, ms, h1, h2, h3⟩ := h
  exact ⟨vF, vL, ms, h1.below hb, h2, belowT h3 (belowB hb h3.size)⟩
end Go.Proofs.Ytkeajfedlhgejaa
/- Copy of the document's memory: the same, all of it new; for at most a thousand stores. -/
namespace Go.Proofs.Ytkeajfedlhgejaa
open Go Go.RowKit
set_option linter.unusedVariables false
set_option maxRecDepth 100000 in
set_option maxHeartbeats 8000000 in
theorem r2Copy_any {w : World} {g : Nat} {r : Rf} {vF vL : Value} {ms : List Value} (h : R2At w g r vF vL ms) (hnl : 0 < r.nl ∧ r.nl ≤ 8) (hF : r.F.length = 8 * r.nl) (hLn : r.L.length ≤ 1000) (hmk : ∀ x ∈ r.L, x.m.length ≤ 1000) :
    Calls Try.prog 21 #[.pointer (some ⟨g, 0, none⟩)] w fun e w' => ∃ g' vF' vL' ms', e = .returned (.pointer (some ⟨g', 0, none⟩)) ∧ R2At w' g' r vF' vL' ms' ∧ (∀ k, fp2 g' vF' vL' ms' k → w.heap.size ≤ k) ∧ Below w.heap.size w w' := by
  obtain ⟨m, hmm⟩ : ∃ m, m = 64 * r.nl := ⟨_, rfl⟩
  have hm0 : 0 < m ∧ m ≤ 512 := by omega
  have hfi := h.fi
  rw [← hmm] at hfi
  obtain ⟨gf, cf, curF, hvF, _, _, hrF, hcurF⟩ := own4_shape hfi hm0.1
  obtain ⟨A, cap, hvL, hmx⟩ := own4_sl h.li
  obtain ⟨q, hq⟩ : ∃ q, q = r.L.length := ⟨_, rfl⟩
  rw [← hq] at hvL hmx hLn
  subst hvF hvL
  have hbl : ((bytesL r.F).map bv).length = m := by rw [List.length_map, bytesL_len, hF]; omega
  have HBN := Lib.hid (show ∀ u ∈ (bytesL r.F).map bv, u.oneCell' = true by intro u hu; obtain ⟨_, _, rfl⟩ := List.mem_map.1 hu; rfl)
  have HCF := Lib.hid (fun (W : World) (hb : Below w.heap.size w W) (j : Nat) (u : Value) (hu : ((bytesL r.F).map bv)[j]? = some u) => (show W.cell? ((⟨gf, 0, none⟩ : Addr).add j) = some u by
    rw [Addr.add_lit, Nat.zero_add, (hrF.below hb hrF.lt).cell]
    exact hcurF j u hu))
  have H := Lib.hid h
  have HM := Lib.hid hmm
  have HQ := Lib.hid hq
  have HBL := Lib.hid hbl
  have HMK := Lib.hid hmk
  have HCS := Lib.hid (fun (W : World) (hb : Below w.heap.size w W) => (show W.cell? ⟨g, 0, none⟩ = some (.slice (some ⟨gf, 0, none⟩) m cf) ∧ W.cell? ⟨g, 2, none⟩ = some (.int .u64 (r.ld : Int)) ∧ W.cell? ⟨g, 3, none⟩ = some (.int .u64 (r.st : Int)) ∧ W.cell? ⟨g, 4, none⟩ = some (.int .u64 (r.fl : Int)) ∧ W.cell? ⟨g, 5, none⟩ = some (.int .u64 (r.fe : Int)) by
    have hr := (h.below hb).row
    have q0 := hr.cell 0
    have q2 := hr.cell 2
    have q3 := hr.cell 3
    have q4 := hr.cell 4
    have q5 := hr.cell 5
    simp only [List.getElem?_toArray, List.getElem?_cons_zero, List.getElem?_cons_succ] at q0 q2 q3 q4 q5
    exact ⟨q0, q2, q3, q4, q5⟩))
  clear h hfi hrF hcurF hbl hmk hF hq hmx hmm
  go_enter Try.func21, Try.ntmps21
  go_upto_region 1 with (fail)
  refine wp_region_noPanic ?_
  have HS1 := Lib.hid (fun (W : World) (hb : Below w.heap.size w W) => (show (fun WW => WW.cell? ⟨g, 0, none⟩ = some (.slice (some ⟨gf, 0, none⟩) m cf) ∧ WW.cell? ⟨g, 2, none⟩ = some (.int .u64 (r.ld : Int)) ∧ WW.cell? ⟨g, 3, none⟩ = some (.int .u64 (r.st : Int)) ∧ WW.cell? ⟨g, 4, none⟩ = some (.int .u64 (r.fl : Int)) ∧ WW.cell? ⟨g, 5, none⟩ = some (.int .u64 (r.fe : Int))) W from HCS.out W hb))
  refine wp_region_held_drew (S := fun WW => WW.cell? ⟨g, 0, none⟩ = some (.slice (some ⟨gf, 0, none⟩) m cf) ∧ WW.cell? ⟨g, 2, none⟩ = some (.int .u64 (r.ld : Int)) ∧ WW.cell? ⟨g, 3, none⟩ = some (.int .u64 (r.st : Int)) ∧ WW.cell? ⟨g, 4, none⟩ = some (.int .u64 (r.fl : Int)) ∧ WW.cell? ⟨g, 5, none⟩ = some (.int .u64 (r.fe : Int))) (by kernel_rfl) (HS1.out _ (drew_below _)) (fun hHeld => ?_)
  refine wpAnyH_take (i := 0) (oi := ⟨some 6, _, _, _, _, _⟩) (v := .pointer (some ⟨g, 0, none⟩)) rfl (by kernel_rfl) (by kernel_rfl) (by kernel_rfl) (fun _ _ _ h => h) (Or.inl ⟨by kernel_rfl, by intro WW hSw; obtain ⟨s0, s2, s3, s4, s5⟩ := hSw; go_simp⟩) (by assumption) ?_
  (try simp only [Act.put, List.setIfInBounds_toArray, List.set_cons_zero, List.set_cons_succ])
  refine wpAnyH_take (i := 1) (oi := ⟨some 7, _, _, _, _, _⟩) (v := .pointer (some ⟨g, 0, none⟩)) rfl (by kernel_rfl) (by kernel_rfl) (by kernel_rfl) (fun _ _ _ h => h) (Or.inl ⟨by kernel_rfl, by intro WW hSw; obtain ⟨s0, s2, s3, s4, s5⟩ := hSw; go_simp⟩) (by assumption) ?_
  (try simp only [Act.put, List.setIfInBounds_toArray, List.set_cons_zero, List.set_cons_succ])
  refine wpAnyH_take (i := 2) (oi := ⟨some 8, _, _, _, _, _⟩) (v := .pointer (some ⟨g, 0, none⟩)) rfl (by kernel_rfl) (by kernel_rfl) (by kernel_rfl) (fun _ _ _ h => h) (Or.inl ⟨by kernel_rfl, by intro WW hSw; obtain ⟨s0, s2, s3, s4, s5⟩ := hSw; go_simp⟩) (by assumption) ?_
  (try simp only [Act.put, List.setIfInBounds_toArray, List.set_cons_zero, List.set_cons_succ])
  refine wpAnyH_take (i := 3) (oi := ⟨some 9, _, _, _, _, _⟩) (v := .slice (some ⟨gf, 0, none⟩) m cf) rfl (by kernel_rfl) (by kernel_rfl) (by kernel_rfl) (fun _ _ _ h => h) (Or.inl ⟨by kernel_rfl, by intro WW hSw; obtain ⟨s0, s2, s3, s4, s5⟩ := hSw; go_simp⟩) (by assumption) ?_
  (try simp only [Act.put, List.setIfInBounds_toArray, List.set_cons_zero, List.set_cons_succ])
  refine wpAnyH_take (i := 5) (oi := ⟨some 11, _, _, _, _, _⟩) (v := .pointer (some ⟨g, 0, none⟩)) rfl (by kernel_rfl) (by kernel_rfl) (by kernel_rfl) (fun _ _ _ h => h) (Or.inl ⟨by kernel_rfl, by intro WW hSw; obtain ⟨s0, s2, s3, s4, s5⟩ := hSw; go_simp⟩) (by assumption) ?_
  (try simp only [Act.put, List.setIfInBounds_toArray, List.set_cons_zero, List.set_cons_succ])
  refine wpAnyH_take (i := 6) (oi := ⟨some 12, _, _, _, _, _⟩) (v := .pointer (some ⟨g, 0, none⟩)) rfl (by kernel_rfl) (by kernel_rfl) (by kernel_rfl) (fun _ _ _ h => h) (Or.inl ⟨by kernel_rfl, by intro WW hSw; obtain ⟨s0, s2, s3, s4, s5⟩ := hSw; go_simp⟩) (by assumption) ?_
  (try simp only [Act.put, List.setIfInBounds_toArray, List.set_cons_zero, List.set_cons_succ])
  refine wpAnyH_take (i := 7) (oi := ⟨some 13, _, _, _, _, _⟩) (v := .pointer (some ⟨g, 2, none⟩)) rfl (by kernel_rfl) (by kernel_rfl) (by kernel_rfl) (fun _ _ _ h => h) (Or.inl ⟨by kernel_rfl, by intro WW hSw; obtain ⟨s0, s2, s3, s4, s5⟩ := hSw; go_simp⟩) (by assumption) ?_
  (try simp only [Act.put, List.setIfInBounds_toArray, List.set_cons_zero, List.set_cons_succ])
  refine wpAnyH_take (i := 8) (oi := ⟨some 14, _, _, _, _, _⟩) (v := .agg #[.int .u64 (r.ld : Int), .int .u64 (r.st : Int), .int .u64 (r.fl : Int), .int .u64 (r.fe : Int)]) rfl (by kernel_rfl) (by kernel_rfl) (by kernel_rfl) (fun _ _ _ h => h) (Or.inl ⟨by kernel_rfl, by intro WW hSw; obtain ⟨s0, s2, s3, s4, s5⟩ := hSw; go_simp⟩) (by assumption) ?_
  (try simp only [Act.put, List.setIfInBounds_toArray, List.set_cons_zero, List.set_cons_succ])
  refine wpAnyH_one (i := 4) (oi := ⟨_, _, _, _, _, _⟩) rfl (by kernel_rfl) (fun K hK => ?_)
  refine step_appB0 (by rfl) _ rfl ⟨gf, 0, none⟩ m cf ((bytesL r.F).map bv) rfl HBL.out (HCF.out _ (drew_below _)) HBN.out (by omega) ?_
  intro v1 w1 o1 b1
  have B1 := Lib.hid (Below.and (drew_below w) b1)
  obtain ⟨A1, c1, hv1, _⟩ := own_sl o1
  subst hv1
  have O1 := Lib.hid o1
  refine hK _ _ (HS1.out _ B1.out) (fun _ => ?_)
  clear hHeld
  have hHeld := HS1.out _ B1.out
  clear hK K o1 b1
  (try simp only [Act.put, List.setIfInBounds_toArray, List.set_cons_zero, List.set_cons_succ])
  refine wpAnyH_take (i := 9) (oi := ⟨some 15, _, _, _, _, _⟩) (v := .agg #[.slice A1 m c1, .slice none 0 0, .int .u64 (r.ld : Int), .int .u64 (r.st : Int), .int .u64 (r.fl : Int), .int .u64 (r.fe : Int)]) rfl (by kernel_rfl) (by kernel_rfl) (by kernel_rfl) (fun _ _ _ h => h) (Or.inl ⟨by kernel_rfl, by intro WW hSw; skip; go_simp⟩) (by assumption) ?_
  (try simp only [Act.put, List.setIfInBounds_toArray, List.set_cons_zero, List.set_cons_succ])
  refine wpAnyH_one (i := 10) (oi := ⟨_, _, _, _, _, _⟩) rfl (by kernel_rfl) (fun K hK => ?_)
  refine step_box (by rfl) 65 _ rfl #[.slice A1 m c1, .slice none 0 0, .int .u64 (r.ld : Int), .int .u64 (r.st : Int), .int .u64 (r.fl : Int), .int .u64 (r.fe : Int)] (by rfl) ?_
  have B2 := Lib.hid (Below.and B1.out (alloc_below w1 (.cells #[.slice A1 m c1, .slice none 0 0, .int .u64 (r.ld : Int), .int .u64 (r.st : Int), .int .u64 (r.fl : Int), .int .u64 (r.fe : Int)] 65)))
  refine hK _ _ (HS1.out _ B2.out) (fun _ => ?_)
  clear hHeld
  have hHeld := HS1.out _ B2.out
  clear hK K
  (try simp only [Act.put, List.setIfInBounds_toArray, List.set_cons_zero, List.set_cons_succ])
  refine wpAnyH_take (i := 11) (oi := ⟨some 3, _, _, _, _, _⟩) (v := .pointer (some ⟨w1.heap.size, 0, none⟩)) rfl (by kernel_rfl) (by kernel_rfl) (by kernel_rfl) (fun _ _ _ h => h) (Or.inl ⟨by kernel_rfl, by intro WW hSw; skip; go_simp⟩) (by assumption) ?_
  (try simp only [Act.put, List.setIfInBounds_toArray, List.set_cons_zero, List.set_cons_succ])
  refine wpAnyH_done (by kernel_rfl) ?_ _
  unfold NoPanic
  clear hHeld
  have HC0 : Hid (Cp2I w r 0 w1.heap.size (w1.alloc (.cells #[.slice A1 m c1, .slice none 0 0, .int .u64 (r.ld : Int), .int .u64 (r.st : Int), .int .u64 (r.fl : Int), .int .u64 (r.fe : Int)] 65))) := Lib.hid (by
    refine ⟨.slice A1 m c1, .slice none 0 0, [], ⟨Row.new _ _ _, ?_, World.ownsRow_nil _ _ _ _, rfl, fun i v x hi => by simp at hi⟩, ?_, B2.out⟩
    · show World.ownsRow _ 0 5 1 _ (64 * r.nl) _
      rw [← HM.out]
      exact own_weak (own2_below O1.out (alloc_below _ _))
    · rintro k (rfl | hk | hk | ⟨v, hv, _⟩)
      · exact B1.out.size
      · have := own_fromI O1.out k hk
        exact this
      · cases hk
      · cases hv)
  obtain ⟨g', hg'⟩ : ∃ g', g' = w1.heap.size := ⟨_, rfl⟩
  rw [← hg'] at HC0 ⊢
  obtain ⟨w2, hw2⟩ : ∃ w2, w2 = w1.alloc (.cells #[.slice A1 m c1, .slice none 0 0, .int .u64 (r.ld : Int), .int .u64 (r.st : Int), .int .u64 (r.fl : Int), .int .u64 (r.fe : Int)] 65) := ⟨_, rfl⟩
  rw [← hw2] at HC0 ⊢
  clear hg' hw2 B1 B2 O1 HS1
  go_wp2
  go_loopg [4] q (fun k v wr => ∃ i : Nat, v = .int .i64 (i : Int) ∧ i ≤ q ∧ q - i ≤ k ∧ Cp2I w r i g' wr)
  case atStart => exact ⟨0, rfl, by omega, by omega, HC0.out⟩
  case round =>
    obtain ⟨i, rfl, hin, hk, hC⟩ := hrel
    rename World => wr
    have HCI := Lib.hid hC
    clear hC HC0
    have hlow : Below w.heap.size w wr := by obtain ⟨_, _, _, _, _, q⟩ := HCI.out; exact q
    have HR := Lib.hid (H.out.below hlow)
    have HLW := Lib.hid hlow
    have c1 : wr.cell? ⟨g, 1, none⟩ = some (.slice A q cap) := by have := HR.out.row.cell 1; simpa using this
    clear hlow
    by_cases hlt : i < q
    · obtain ⟨x, hx⟩ : ∃ x, r.L[i]? = some x := ⟨_, List.getElem?_eq_getElem (by rw [← HQ.out]; exact hlt)⟩
      obtain ⟨gl, v, rfl, hv, x0, x1, x2, x3, fr, ho⟩ := HR.out.cellsX HQ.out.symm hx
      obtain ⟨Am, cm, hvm, hmm⟩ := own4_sl ho
      subst hvm
      have HO := Lib.hid ho
      have HX := Lib.hid hx
      have hxm := HMK.out x (List.mem_of_getElem? hx)
      clear fr hv hx ho
      obtain ⟨mk, hmk⟩ : ∃ mk, mk = x.m := ⟨_, rfl⟩
      rw [← hmk] at hxm hmm HO x3
      have HMC := Lib.hid (show ∀ u ∈ mk.map cv, u.oneCell' = true by intro u hu; obtain ⟨_, _, rfl⟩ := List.mem_map.1 hu; rfl)
      have HMX := Lib.hid hmk
      clear hmk
      go_wp2_with (at_builtin; refine list_appI rfl _ _ rfl wr.heap.size (.slice none 0 0) 0 [] (by rfl) (World.ownsRow_nil _ _ _ _) (.slice Am mk.length cm) (mk.map cv) (by rfl) (rdsI_own (own2_below HO.out (alloc_below _ _))) HMC.out (by rw [List.length_map]; omega) (by simp) ?_; intro v5 w5 o5 g5; rw [Nat.zero_add, List.nil_append, List.length_map] at o5; obtain ⟨A5, k5, hv5, _⟩ := own_sl o5; subst hv5; have hr5 : Row w5 wr.heap.size 99 #[.int .u64 (x.a : Int), .int .u64 (x.w : Int), .bool x.d, .slice Am mk.length cm] := (Row.new _ _ _).grown g5 (by intro e; cases e); have f3 := hr5.free 3; have c3 := hr5.cell 3; simp only [List.getElem?_toArray, List.getElem?_cons_zero, List.getElem?_cons_succ] at c3; have HR5 := Lib.hid hr5; have HO5 := Lib.hid o5; have HG5 := Lib.hid g5; clear hr5 o5 g5)
      obtain ⟨w6, hw6⟩ : ∃ w6, w6 = w5.setCell ⟨wr.heap.size, 3, none⟩ (.slice A5 mk.length k5) := ⟨_, rfl⟩
      have hb6 : Below wr.heap.size wr w6 := by
        have hb5 : Below wr.heap.size wr w5 := Below.and (alloc_below _ _) (below_grown HG5.out)
        rw [hw6]
        exact belowT hb5 ⟨rfl, rfl, rfl, by rw [size_set]; exact Nat.le_refl _, fun k hk => heap_setCell_other _ _ _ _ (by show k ≠ wr.heap.size; omega)⟩
      have hx6 : Row w6 wr.heap.size 99 #[.int .u64 (x.a : Int), .int .u64 (x.w : Int), .bool x.d, .slice A5 mk.length k5] := by
        rw [hw6]
        exact HR5.out.set 3 _
      have ho6 : w6.ownsRow wr.heap.size 3 1 (.slice A5 mk.length k5) mk.length (mk.map cv) := by
        rw [hw6]
        exact own2_same HO5.out fun k hk => heap_setCell_other _ _ _ _ (by
          obtain ⟨cs, hc⟩ := own2_tg HO5.out hk
          exact tag_ne hc HR5.out (by decide))
      obtain ⟨vF', vL', ms', hR0, hnew, hlow0⟩ := HCI.out
      have hR' := hR0.below hb6
      have hlt' := hR0.lt
      have hlow' := belowT hlow0 (belowB hb6 hlow0.size)
      rw [← hw6]
      obtain ⟨AL, cL, hvL', hmxL⟩ := own4_sl hR'.li
      have hlen : ({ r with L := r.L.take i } : Rf).L.length = i := by show (r.L.take i).length = i; rw [List.length_take, ← HQ.out]; omega
      rw [hlen] at hvL'
      subst hvL'
      have hgx : g' ≠ wr.heap.size := fun e => by have := hlt' g' (.inl rfl); omega
      have hLx : ∀ k, (Value.slice AL i cL).ownBlock = some k → k ≠ wr.heap.size := fun k hk e => by have := hlt' k (.inr (.inr (.inl hk))); omega
      obtain ⟨f1, _, _, _⟩ := hR'.far
      have f1' : (Value.slice AL i cL).ownBlock ≠ some g' := f1
      have HST := Lib.hid (fun (W : World) (h1 : W.heap[g']? = w6.heap[g']?) (h2 : W.heap[wr.heap.size]? = w6.heap[wr.heap.size]?) => (show W.cell? ⟨g', 1, none⟩ = some (.slice AL i cL) ∧ W.cell? ⟨wr.heap.size, 0, none⟩ = some (.int .u64 (x.a : Int)) ∧ W.cell? ⟨wr.heap.size, 1, none⟩ = some (.int .u64 (x.w : Int)) ∧ W.cell? ⟨wr.heap.size, 2, none⟩ = some (.bool x.d) ∧ W.cell? ⟨wr.heap.size, 3, none⟩ = some (.slice A5 mk.length k5) by
        have hra := hR'.row.same h1
        have hrb := hx6.same h2
        have q0 := hra.cell 1
        have q1 := hrb.cell 0
        have q2 := hrb.cell 1
        have q3 := hrb.cell 2
        have q4 := hrb.cell 3
        simp only [List.getElem?_toArray, List.getElem?_cons_zero, List.getElem?_cons_succ] at q0 q1 q2 q3 q4
        exact ⟨q0, q1, q2, q3, q4⟩))
      have HRP := Lib.hid hR'
      have HNEW := Lib.hid hnew
      have HLOW := Lib.hid hlow'
      have HO6 := Lib.hid ho6
      have HX6 := Lib.hid hx6
      have HB6 := Lib.hid hb6
      have HLEN := Lib.hid hlen
      have HGX := Lib.hid hgx
      have HLX := Lib.hid hLx
      have HF1 := Lib.hid f1'
      have HLT := Lib.hid (show ∀ k, (Value.slice AL i cL).ownBlock = some k → k < wr.heap.size from fun k hk => hlt' k (.inr (.inr (.inl hk))))
      have hsz6 : wr.heap.size < w6.heap.size := hx6.lt
      have hg6 : g' < w6.heap.size := hR'.row.lt
      clear hw6 hb6 hx6 ho6 hR0 hnew hlow0 hR' hlt' hlow' hlen hgx hLx f1 f1' c3 f3 HR5 HO5 HG5
      go_upto_region 7 with (fail)
      refine wp_region_noPanic ?_
      refine wp_region_heldx_drew (S := fun WW => WW.cell? ⟨g', 1, none⟩ = some (.slice AL i cL) ∧ WW.cell? ⟨wr.heap.size, 0, none⟩ = some (.int .u64 (x.a : Int)) ∧ WW.cell? ⟨wr.heap.size, 1, none⟩ = some (.int .u64 (x.w : Int)) ∧ WW.cell? ⟨wr.heap.size, 2, none⟩ = some (.bool x.d) ∧ WW.cell? ⟨wr.heap.size, 3, none⟩ = some (.slice A5 mk.length k5)) 10 (by kernel_rfl) (HST.out _ rfl rfl) (fun hHeld => ?_)
      refine wpAnyX_take (i := 0) (oi := ⟨some 37, _, _, _, _, _⟩) (v := .pointer (some ⟨g', 0, none⟩)) rfl (by kernel_rfl) (by kernel_rfl) (by kernel_rfl) (by kernel_rfl) (fun _ _ _ h => h) (Or.inl ⟨by kernel_rfl, by intro WW hSw; obtain ⟨s0, s1, s2, s3, s4⟩ := hSw; go_simp⟩) (by assumption) ?_
      (try simp only [Act.put, List.setIfInBounds_toArray, List.set_cons_zero, List.set_cons_succ])
      refine wpAnyX_take (i := 1) (oi := ⟨some 38, _, _, _, _, _⟩) (v := .pointer (some ⟨g', 0, none⟩)) rfl (by kernel_rfl) (by kernel_rfl) (by kernel_rfl) (by kernel_rfl) (fun _ _ _ h => h) (Or.inl ⟨by kernel_rfl, by intro WW hSw; obtain ⟨s0, s1, s2, s3, s4⟩ := hSw; go_simp⟩) (by assumption) ?_
      (try simp only [Act.put, List.setIfInBounds_toArray, List.set_cons_zero, List.set_cons_succ])
      refine wpAnyX_take (i := 2) (oi := ⟨some 39, _, _, _, _, _⟩) (v := .pointer (some ⟨g', 0, none⟩)) rfl (by kernel_rfl) (by kernel_rfl) (by kernel_rfl) (by kernel_rfl) (fun _ _ _ h => h) (Or.inl ⟨by kernel_rfl, by intro WW hSw; obtain ⟨s0, s1, s2, s3, s4⟩ := hSw; go_simp⟩) (by assumption) ?_
      (try simp only [Act.put, List.setIfInBounds_toArray, List.set_cons_zero, List.set_cons_succ])
      refine wpAnyX_take (i := 3) (oi := ⟨some 40, _, _, _, _, _⟩) (v := .pointer (some ⟨g', 1, none⟩)) rfl (by kernel_rfl) (by kernel_rfl) (by kernel_rfl) (by kernel_rfl) (fun _ _ _ h => h) (Or.inl ⟨by kernel_rfl, by intro WW hSw; obtain ⟨s0, s1, s2, s3, s4⟩ := hSw; go_simp⟩) (by assumption) ?_
      (try simp only [Act.put, List.setIfInBounds_toArray, List.set_cons_zero, List.set_cons_succ])
      refine wpAnyX_take (i := 4) (oi := ⟨some 41, _, _, _, _, _⟩) (v := .slice AL i cL) rfl (by kernel_rfl) (by kernel_rfl) (by kernel_rfl) (by kernel_rfl) (fun _ _ _ h => h) (Or.inl ⟨by kernel_rfl, by intro WW hSw; obtain ⟨s0, s1, s2, s3, s4⟩ := hSw; go_simp⟩) (by assumption) ?_
      (try simp only [Act.put, List.setIfInBounds_toArray, List.set_cons_zero, List.set_cons_succ])
      refine wpAnyX_take (i := 5) (oi := ⟨some 42, _, _, _, _, _⟩) (v := .agg #[.int .u64 (x.a : Int), .int .u64 (x.w : Int), .bool x.d, .slice A5 mk.length k5]) rfl (by kernel_rfl) (by kernel_rfl) (by kernel_rfl) (by kernel_rfl) (fun _ _ _ h => h) (Or.inl ⟨by kernel_rfl, by intro WW hSw; obtain ⟨s0, s1, s2, s3, s4⟩ := hSw; go_simp⟩) (by assumption) ?_
      (try simp only [Act.put, List.setIfInBounds_toArray, List.set_cons_zero, List.set_cons_succ])
      refine wpAnyX_ready (rs := [6]) (by kernel_rfl) (by simp) ?_
      refine AllReadyX.cons (o := ⟨some 43, _, _, _, _, _⟩) rfl (fun K hK => ?_) AllReadyX.nil
      refine step_build4 (by rfl) _ rfl (.int .u64 (x.a : Int)) (.int .u64 (x.w : Int)) (.bool x.d) (.slice A5 mk.length k5) rfl ?_
      obtain ⟨w7, hw7⟩ : ∃ w7, w7 = w6.drew.alloc (.cells #[.int .u64 (x.a : Int), .int .u64 (x.w : Int), .bool x.d, .slice A5 mk.length k5] 99) := ⟨_, rfl⟩
      have hb7 : Below w6.heap.size w6 w7 := by rw [hw7]; exact Below.and (drew_below _) (alloc_below _ _)
      have hr7 : Row w7 w6.drew.heap.size 99 #[.int .u64 (x.a : Int), .int .u64 (x.w : Int), .bool x.d, .slice A5 mk.length k5] := by rw [hw7]; exact Row.new _ _ _
      rw [← hw7]
      have hS7 := HST.out w7 (hb7.block _ hg6) (hb7.block _ hsz6)
      refine hK.out _ _ hS7 (fun _ => ?_)
      clear hHeld
      have hHeld := hS7
      have HB7 := Lib.hid hb7
      have HR7 := Lib.hid hr7
      clear hK K hw7 hb7 hr7 hS7
      (try simp only [Act.put, List.setIfInBounds_toArray, List.set_cons_zero, List.set_cons_succ])
      refine wpAnyX_ready (rs := [7]) (by kernel_rfl) (by simp) ?_
      refine AllReadyX.cons (o := ⟨some 44, _, _, _, _, _⟩) rfl (fun K hK => ?_) AllReadyX.nil
      refine step_app4 (by rfl) _ _ rfl w.heap.size (.slice AL i cL) i (flat4 (r.L.take i) ms') rfl (own_rebase (own2_below (by have := HRP.out.li; rw [HLEN.out] at this; exact this) HB7.out) (fun k hk => HNEW.out k (.inr (.inr (.inl hk))))) w6.drew.heap.size [.int .u64 (x.a : Int), .int .u64 (x.w : Int), .bool x.d, .slice A5 mk.length k5] rfl rfl HR7.out (by intro u hu; simp at hu; rcases hu with rfl | rfl | rfl | rfl <;> rfl) (by omega) (Nat.le_trans HLOW.out.size HB7.out.size) ?_
      intro v8 w8 o8 g8
      obtain ⟨A8, c8, hv8, _⟩ := own4_sl o8
      subst hv8
      have e8 : ∀ k, k < w6.heap.size → (Value.slice AL i cL).ownBlock ≠ some k → w8.heap[k]? = w6.heap[k]? := fun k hk hn => (g8.block k (Nat.lt_of_lt_of_le hk HB7.out.size) (fun e => hn e.symm)).trans (HB7.out.block k hk)
      have hS8 := HST.out w8 (e8 _ hg6 HF1.out) (e8 _ hsz6 (fun e => HLX.out _ e rfl))
      have ho8 : w8.ownsRow 0 3 1 (.slice A5 mk.length k5) x.m.length (x.m.map cv) := by
        rw [← HMX.out]
        refine own_weak (own2_same HO6.out fun k hk => e8 k (by obtain ⟨cs, hc⟩ := own2_tg HO6.out hk; exact (Array.getElem?_eq_some_iff.1 hc).1) (fun e => ?_))
        have h1 := own_fromI HO6.out k hk
        have h2 := HLX.out k e
        have h3 : k < wr.heap.size := HLT.out k e
        omega
      have hG := (HRP.out.below HB7.out).grow2 g8 x (.slice A5 mk.length k5) ho8 (by have := own_weak o8; rw [HLEN.out]; exact this)
      have hE : Hid (Cp2I w r (i + 1) g' (w8.setCell ⟨g', 1, none⟩ (.slice A8 (i + 1) c8))) := Lib.hid (by
        have e1 : r.L.take (i + 1) = r.L.take i ++ [x] := by rw [List.take_add_one, HX.out]; rfl
        refine ⟨vF', .slice A8 (i + 1) c8, ms' ++ [.slice A5 mk.length k5], by rw [e1]; exact hG, ?_, ?_⟩
        · rintro k (rfl | hk | hk | ⟨v, hv, hk⟩)
          · exact HNEW.out _ (.inl rfl)
          · exact HNEW.out _ (.inr (.inl hk))
          · exact own_fromI o8 k hk
          · rcases List.mem_append.1 hv with hv | hv
            · exact HNEW.out _ (.inr (.inr (.inr ⟨v, hv, hk⟩)))
            · simp at hv
              subst hv
              exact Nat.le_trans HLW.out.size (own_fromI HO6.out k hk)
        · refine belowT HLOW.out ⟨g8.os.trans HB7.out.os, g8.tape.trans HB7.out.tape, g8.output.trans HB7.out.output, by rw [size_set]; exact Nat.le_trans HB7.out.size g8.size, fun k hk => ?_⟩
          have hk6 : k < w6.heap.size := Nat.lt_of_lt_of_le hk HLOW.out.size
          refine (heap_setCell_other _ _ _ _ (by show k ≠ g'; have := HNEW.out g' (.inl rfl); omega)).trans (e8 k hk6 (fun e => ?_))
          have := HNEW.out k (.inr (.inr (.inl e)))
          omega)
      have cd : w8.cell? ⟨g', 1, none⟩ = some (.slice AL i cL) := hS8.1
      have fd : w8.frozen? ⟨g', 1, none⟩ = false := ((HRP.out.row).same (e8 _ hg6 HF1.out)).free 1
      have HS8 := Lib.hid hS8
      refine hK.out _ _ hS8 (fun _ => ?_)
      clear hHeld hK K hS8 hG ho8 o8 g8 e8
      (try simp only [Act.put, List.setIfInBounds_toArray, List.set_cons_zero, List.set_cons_succ])
      refine wpAnyX_ready (rs := [8]) (by kernel_rfl) (by simp) ?_
      refine AllReadyX.cons (o := ⟨some 45, _, _, _, _, _⟩) rfl (fun K hK => ?_) AllReadyX.nil
      go_simp
      refine hK.out _ _ HS8.out (fun hHeld => ?_)
      clear hK K
      (try simp only [Act.put, List.setIfInBounds_toArray, List.set_cons_zero, List.set_cons_succ])
      refine wpAnyX_ready (rs := [9]) (by kernel_rfl) (by simp) ?_
      refine AllReadyX.cons (o := ⟨some 46, _, _, _, _, _⟩) rfl (fun K hK => ?_) AllReadyX.nil
      go_simp
      refine hK.out _ _ HS8.out (fun hHeld => ?_)
      clear hK K
      (try simp only [Act.put, List.setIfInBounds_toArray, List.set_cons_zero, List.set_cons_succ])
      refine wpAnyX_ready (rs := [10]) (by kernel_rfl) (by simp) ?_
      refine AllReadyX.last rfl (fun K hK => ?_)
      go_simp
      refine hK.out _ _ ?_
      clear hK K
      (try simp only [Act.put, List.setIfInBounds_toArray, List.set_cons_zero, List.set_cons_succ])
      refine wpAnyX_done (by kernel_rfl) ?_ _
      unfold NoPanic
      go_wp2
      go_roundg (q - (i + 1))
      case measure => omega
      case rel => exact ⟨i + 1, by go_num, by omega, by omega, hE.out⟩
    · have hje : i = q := by omega
      have hdj : decide ((i : Int) < (q : Int)) = false := by simp; omega
      have HE : Hid (∃ vF' vL' ms', R2At wr g' r vF' vL' ms' ∧ (∀ k, fp2 g' vF' vL' ms' k → w.heap.size ≤ k) ∧ Below w.heap.size w wr) := Lib.hid (by
        obtain ⟨vF', vL', ms', h1, h2, h3⟩ := HCI.out
        rw [hje, HQ.out, List.take_length] at h1
        exact ⟨vF', vL', ms', h1, h2, h3⟩)
      clear hje
      go_wp2
      go_ret
      obtain ⟨vF', vL', ms', h1, h2, h3⟩ := HE.out
      exact ⟨g', vF', vL', ms', rfl, h1, h2, h3⟩
end Go.Proofs.Ytkeajfedlhgejaa
/- What the document's Same asks, line by line: plain; texts of bytes tell the words. -/
namespace Go.Proofs.Ytkeajfedlhgejaa
open Go Go.RowKit
set_option linter.unusedVariables false
theorem wbytes_byte (n : Nat) : ∀ b ∈ wbytes n, b < 256 := by
  intro b hb
  obtain ⟨k, _, rfl⟩ := List.mem_map.1 hb
  exact Nat.mod_lt _ (by decide)
theorem bytesL_byte (l : List Nat) : ∀ b ∈ bytesL l, b < 256 := by
  intro b hb
  obtain ⟨n, _, h⟩ := List.mem_flatMap.1 hb
  exact wbytes_byte n b h
theorem bytesL_inj : ∀ (l m : List Nat), (∀ x ∈ l, x < 18446744073709551616) → (∀ x ∈ m, x < 18446744073709551616) → bytesL l = bytesL m → l = m
  | [], [], _, _, _ => rfl
  | [], b :: t, _, _, h => by
    have := congrArg List.length h
    rw [bytesL_len, bytesL_len] at this
    simp at this
  | a :: t, [], _, _, h => by
    have := congrArg List.length h
    rw [bytesL_len, bytesL_len] at this
    simp at this
  | a :: t, b :: u, ha, hb, h => by
    have e1 : bytesL (a :: t) = wbytes a ++ bytesL t := by simp [bytesL]
    have e2 : bytesL (b :: u) = wbytes b ++ bytesL u := by simp [bytesL]
    rw [e1, e2] at h
    obtain ⟨h1, h2⟩ := List.append_inj h (by rw [wbytes_len, wbytes_len])
    have := congrArg ofB h1
    rw [ofB_wb2 (ha a (by simp)), ofB_wb2 (hb b (by simp))] at this
    rw [this, bytesL_inj t u (fun x hx => ha x (by simp [hx])) (fun x hx => hb x (by simp [hx])) h2]
theorem str_ne {l m : List Nat} (hl : ∀ x ∈ l, x < 18446744073709551616) (hm : ∀ x ∈ m, x < 18446744073709551616) : ((strOf (bytesL l)).toList != (strOf (bytesL m)).toList) = false ↔ l = m := by
  constructor
  · intro h
    have h1 : (strOf (bytesL l)).toList = (strOf (bytesL m)).toList := by simpa using h
    rw [ByteArray.toList_eq, ByteArray.toList_eq] at h1
    have h2 : strOf (bytesL l) = strOf (bytesL m) := Go.WideShapes.bytes_inj h1
    exact bytesL_inj l m hl hm (strOf_inj (bytesL_byte l) (bytesL_byte m) h2)
  · rintro rfl
    simp
/-- One pending store of each says the same. -/
def ES (x y : Md) : Prop := x.a = y.a ∧ x.w = y.w ∧ ∀ c, c ≤ 64 → (c ∈ x.m ↔ c ∈ y.m)
def LSm (t : Nat) (r r' : Rf) : Prop := (pen t r.L).length = (pen t r'.L).length ∧ ∀ (i : Nat) (x y : Md), (pen t r.L)[i]? = some x → (pen t r'.L)[i]? = some y → ES x y
theorem sameR_iff {r r' : Rf} : SameR r r' ↔ lastW r.F (prs r.L) = lastW r'.F (prs r'.L) ∧ lastW r.F (prs (las r.L)) = lastW r'.F (prs (las r'.L)) ∧ ∀ t, t < r.nl → LSm t r r' := by
  unfold SameR
  constructor
  · rintro ⟨h1, h2, h3⟩
    refine ⟨h1, h2, fun t ht => ?_⟩
    obtain ⟨g1, g2⟩ := h3 t ht
    have hl : (pen t r.L).length = (pen t r'.L).length := by rw [← prs_len, g1, prs_len]
    refine ⟨hl, fun i x y hx hy => ?_⟩
    obtain ⟨hi, ex⟩ := List.getElem?_eq_some_iff.1 hx
    obtain ⟨hi', ey⟩ := List.getElem?_eq_some_iff.1 hy
    have hp : (prs (pen t r.L))[i]? = (prs (pen t r'.L))[i]? := by rw [g1]
    unfold prs at hp
    rw [List.getElem?_map, List.getElem?_map, hx, hy] at hp
    simp at hp
    refine ⟨hp.1, hp.2, fun c hc => ?_⟩
    have := g2 i hi hi' c hc
    rw [ex, ey] at this
    exact this
  · rintro ⟨h1, h2, h3⟩
    refine ⟨h1, h2, fun t ht => ?_⟩
    obtain ⟨hl, g⟩ := h3 t ht
    refine ⟨?_, fun i hi hi' c hc => (g i _ _ (List.getElem?_eq_getElem hi) (List.getElem?_eq_getElem hi')).2.2 c hc⟩
    apply List.ext_getElem (by rw [prs_len, prs_len, hl])
    intro i hi hi'
    rw [prs_len] at hi hi'
    obtain ⟨q1, q2, _⟩ := g i _ _ (List.getElem?_eq_getElem hi) (List.getElem?_eq_getElem hi')
    simp [prs, q1, q2]
/-- The places of a line's pending stores: each is a store's, and that store is the line's. -/
theorem ofU_at {l : Nat} {L : List Md} {i : Nat} {x : Md} (hx : (pen l L)[i]? = some x) : ∃ p, (ofU l L L.length)[i]? = some p ∧ L[p]? = some x := by
  have h := ofU_pen l L L.length (Nat.le_refl _)
  rw [List.take_length] at h
  have h1 : ((ofU l L L.length).map fun t => L[t]?)[i]? = some (some x) := by rw [h, List.getElem?_map, hx]; rfl
  rw [List.getElem?_map] at h1
  cases e : (ofU l L L.length)[i]? with
  | none => rw [e] at h1; cases h1
  | some p => rw [e] at h1; exact ⟨p, rfl, by simpa using h1⟩
theorem ofU_cnt (l : Nat) (L : List Md) : (ofU l L L.length).length = (pen l L).length := by
  have h := congrArg List.length (ofU_pen l L L.length (Nat.le_refl _))
  rw [List.take_length, List.length_map, List.length_map] at h
  exact h
end Go.Proofs.Ytkeajfedlhgejaa
