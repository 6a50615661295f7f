/- rise, unlike: of any node and any list of entries, few; without conditions else. -/
import Derived.Test.YtaegaeljakdffaaDoorN8May
namespace Go.Proofs.YtaegaeljakdffaaDoor
open Go.RowKit
set_option linter.unusedVariables false
/-- Do keys rise, from a least one on? -/
def riseB : Int → Bool → List (Int × Int) → Bool
  | _, _, [] => true
  | a, c, e :: t => if e.1 < a ∨ (e.1 = a ∧ c = false) then false else riseB e.1 false t
/-- The least key and whether it may be met itself, behind so many entries. -/
def riseS (a : Int) (c : Bool) (l : List (Int × Int)) (k : Nat) : Int × Bool := if k = 0 then (a, c) else ((l.getD (k - 1) (0, 0)).1, false)
theorem rise_drop (l : List (Int × Int)) : ∀ (k : Nat) (a : Int) (c : Bool), k < l.length →
    riseB a c (l.drop k) = if (l.getD k (0, 0)).1 < a ∨ ((l.getD k (0, 0)).1 = a ∧ c = false) then false else riseB (l.getD k (0, 0)).1 false (l.drop (k + 1)) := by
  intro k a c hk
  rw [List.drop_eq_getElem_cons hk, List.getD_eq_getElem?_getD, List.getElem?_eq_getElem hk]
  rfl
set_option maxRecDepth 100000 in
set_option maxHeartbeats 1600000 in
theorem nRise_any (n : Nd) {w : World} {v : Value} {l : List (Int × Int)} (h : EntAt w v l) (hl : l.length ≤ 1000) :
    Calls Tryd.prog 40 #[n.V, v] w fun e w' => e = .returned (.bool (riseB n.lo (decide (n.l = 0)) l)) ∧ Below w.heap.size w w' := by
  have hE := h.low (alloc_low w (.cells n.cl.toArray 27))
  obtain ⟨A, cap, rfl, _⟩ := h
  obtain ⟨A2, cap2, hv2, hA⟩ := hE
  cases hv2
  have r0 := Row.new w 27 n.cl.toArray
  have c0 : (w.alloc (.cells n.cl.toArray 27)).cell? ⟨w.heap.size, 0, none⟩ = some (.int .i64 n.l) := ndAt_at r0 0
  have c1 : (w.alloc (.cells n.cl.toArray 27)).cell? ⟨w.heap.size, 1, none⟩ = some (.int .u64 n.lo) := ndAt_at r0 1
  obtain ⟨m, hm⟩ : ∃ m, m = l.length := ⟨_, rfl⟩
  have HA := Lib.hid (fun (h0 : 0 < m) => (show ∃ g o, A = some ⟨g, o, none⟩ ∧ ∀ k, k < m → (w.alloc (.cells n.cl.toArray 27)).cell? ⟨g, o + k * 2, none⟩ = some (uw (l.getD k (0, 0)).1) ∧ (w.alloc (.cells n.cl.toArray 27)).cell? ⟨g, o + k * 2 + 1, none⟩ = some (uw (l.getD k (0, 0)).2) by
    obtain ⟨g, o, rfl, hc⟩ := hA (by omega)
    exact ⟨g, o, rfl, fun k hk => hc k _ (getD_ent (by omega))⟩))
  have HD := Lib.hid (fun k a c (hk : k < m) => rise_drop l k a c (by omega))
  have HE := Lib.hid (show l.drop m = [] by rw [hm]; exact List.drop_length)
  have hb0 := alloc_low w (.cells n.cl.toArray 27)
  obtain ⟨R, hR⟩ : ∃ R, R = riseB n.lo (decide (n.l = 0)) l := ⟨_, rfl⟩
  rw [← hR, ← hm]
  rw [← hm] at hl
  have HR := Lib.hid (show R = riseB n.lo (decide (n.l = 0)) (l.drop 0) by rw [hR]; rfl)
  clear hA hm r0 hR
  go_enter Tryd.func40, Tryd.ntmps40
  go_wp2_with fail
  go_quiet (fail)
  go_wp2_with fail
  obtain ⟨Wa, hWa⟩ : ∃ Wa, Wa = w.alloc (.cells n.cl.toArray 27) := ⟨_, rfl⟩
  rw [← hWa] at HA hb0
  rw [← hWa]
  have HB0 := Lib.hid hb0
  clear hWa hb0 c0 c1
  go_loopw [5, 6, 16] (fun u c i wr => ∃ (k : Nat) (a : Int) (b : Bool), k ≤ m ∧ u = .int .u64 a ∧ c = .bool b ∧ i = .int .i64 (k : Int) ∧ R = riseB a b (l.drop k) ∧ Below Wa.heap.size Wa wr) (fun _ _ i _ => m - (intOf i).toNat)
  case atStart => exact ⟨0, _, _, by omega, rfl, by simp; rfl, rfl, HR.out, ⟨rfl, rfl, rfl, Nat.le_refl _, fun _ _ => rfl⟩⟩
  case round =>
    obtain ⟨k, a, b, hk, rfl, rfl, rfl, hr, hb⟩ := hrel
    by_cases hlt : k < m
    · obtain ⟨g, o, hAe, hc⟩ := HA.out (by omega)
      obtain ⟨q1, q2⟩ := hc k hlt
      rw [HD.out k a b hlt] at hr
      have HRk := Lib.hid hr
      obtain ⟨e, he⟩ : ∃ e, e = l.getD k (0, 0) := ⟨_, rfl⟩
      rw [← he] at q1 q2 HRk
      obtain ⟨ek, ep⟩ := e
      dsimp only at q1 q2 HRk
      have p1 := (hb.cell (p := ⟨g, o + k * 2, none⟩) (Wa.block_lt_of_cell? _ q1)).trans q1
      have p2 := (hb.cell (p := ⟨g, o + k * 2 + 1, none⟩) (Wa.block_lt_of_cell? _ q2)).trans q2
      have HBk := Lib.hid hb
      have hkb : k < 1000 := by omega
      subst hAe
      unfold uw at p1 p2
      clear hr hb hc q1 q2 he
      obtain h1 | h1 : ek < a ∨ a ≤ ek := by omega
      · rw [if_pos (Or.inl h1)] at HRk
        go_wp2
        go_ret
        exact ⟨by rw [HRk.out]; rfl, low_and HB0.out (low_and HBk.out (alloc_low _ _))⟩
      · obtain h2 | h2 : ek = a ∨ ek ≠ a := by omega
        · subst h2
          cases b with
          | false =>
            rw [if_pos (Or.inr ⟨rfl, rfl⟩)] at HRk
            go_wp2
            go_ret
            exact ⟨by rw [HRk.out]; rfl, low_and HB0.out (low_and HBk.out (alloc_low _ _))⟩
          | true =>
            rw [if_neg (by simp)] at HRk
            go_wp2
            exact ⟨⟨k + 1, ek, false, by omega, rfl, rfl, by go_num, HRk.out, low_and HBk.out (alloc_low _ _)⟩, by simp [intOf]; omega⟩
        · rw [if_neg (by omega)] at HRk
          have hne : (ek == a) = false := by simpa using h2
          go_wp2
          exact ⟨⟨k + 1, ek, false, by omega, rfl, rfl, by go_num, HRk.out, low_and HBk.out (alloc_low _ _)⟩, by simp [intOf]; omega⟩
    · obtain rfl : k = m := by omega
      rw [HE.out] at hr
      have HRk := Lib.hid hr
      have HBk := Lib.hid hb
      clear hr hb
      go_wp2
      go_ret
      exact ⟨by rw [HRk.out]; rfl, low_and HB0.out HBk.out⟩
/-- Are a First and the pointers of entries all unlike? -/
def unlB (f : Int) (l : List (Int × Int)) : Bool := decide (f :: l.map (·.2)).Nodup
theorem unl_no {f : Int} {l : List (Int × Int)} {k : Nat} (hk : k < l.length) (h : (l.getD k (0, 0)).2 ∈ f :: (l.take k).map (·.2)) : unlB f l = false := by
  unfold unlB
  rw [decide_eq_false_iff_not]
  intro hn
  have hs : l = l.take k ++ l.getD k (0, 0) :: l.drop (k + 1) := by
    rw [List.getD_eq_getElem?_getD, List.getElem?_eq_getElem hk]
    exact (List.take_append_drop k l).symm.trans (by rw [List.drop_eq_getElem_cons hk]; rfl)
  rw [hs, List.map_append, List.map_cons, ← List.cons_append, List.nodup_append] at hn
  exact hn.2.2 _ h _ (by simp) rfl
theorem unl_step {f : Int} {l : List (Int × Int)} {k : Nat} (hk : k < l.length) (h0 : (f :: (l.take k).map (·.2)).Nodup) (h : ¬ (l.getD k (0, 0)).2 ∈ f :: (l.take k).map (·.2)) : (f :: (l.take (k + 1)).map (·.2)).Nodup := by
  have : l.take (k + 1) = l.take k ++ [l.getD k (0, 0)] := by
    rw [List.take_succ_eq_append_getElem hk, List.getD_eq_getElem?_getD, List.getElem?_eq_getElem hk]
    rfl
  rw [this, List.map_append, ← List.cons_append, List.nodup_append]
  refine ⟨h0, by simp, fun a ha b hb e => ?_⟩
  simp at hb
  subst hb e
  exact h ha
end Go.Proofs.YtaegaeljakdffaaDoor
