/- Texts of this claim, packed: 7KEq. -/
import Derived.Test.YtgclbeagifoifaaPc23
import Derived.Test.YtgclbeagifoifaaPc30
import Derived.Test.YtgclbeagifoifaaPc40
import Derived.Shelf.SlMaps.Equal
import Derived.Laws.StructEq
/- maps.Equal of who has which lock; Same of two tables: whether they are alike. -/
namespace Go.Proofs.Ytgclbeagifoifaa
open Go.RowKit Go.Shelf Go.Maps
set_option linter.unusedVariables false
def equalKk_ren : Go.Shelf.Ren := ⟨fun | 6 => 32 | n => n, fun | 23 => 52 | 24 => 52 | 26 => 34 | 27 => 3 | 4 => 4 | 3 => 3 | 0 => 0 | 36 => 57 | n => n, fun | n => n⟩
theorem equalKk : Go.Proofs.SlLaysEq.n6 Try.prog equalKk_ren := {
  mixed := by kernel_rfl
  f6 := ⟨Try.f32.name, by decide, Try.func32.trans (congrArg some (by kernel_rfl))⟩
  t0 := Try.underlying0
  a0 := Try.isAgg0
  z0 := Try.sizeOf0
  v0 := Try.zeroValue0
  t3 := Try.underlying3
  a3 := Try.isAgg3
  z3 := Try.sizeOf3
  v3 := Try.zeroValue3
  t4 := Try.underlying4
  a4 := Try.isAgg4
  z4 := Try.sizeOf4
  v4 := Try.zeroValue4
  t23 := Try.underlying52
  a23 := Try.isAgg52
  z23 := Try.sizeOf52
  v23 := Try.zeroValue52
  t24 := Try.underlying52
  a24 := Try.isAgg52
  z24 := Try.sizeOf52
  v24 := Try.zeroValue52
  a26 := Try.isAgg34
  z26 := Try.sizeOf34
  a27 := Try.isAgg3
  z27 := Try.sizeOf3
  t36 := Try.underlying57
  a36 := Try.isAgg57
  z36 := Try.sizeOf57 }
def eqdK (x y : DataW Unit) : Bool := match x, y with | .lit (.int .i64 a), .lit (.int .i64 b) => a == b | _, _ => false
theorem neqK (W : World) (x y : Value) (xd yd : DataW Unit) (xp yp : List MemPlace) (hx : kR x = some (xd, xp)) (hy : kR y = some (yd, yp)) :
    (binOp .neq 3 x y).run Try.prog W = .ok (.bool (!eqdK xd yd)) W ∧ ∀ (a b : Operand), (eqGuard .neq 3 a b x y).run Try.prog W = .ok () W := by
  obtain ⟨a, rfl, h1⟩ := kR_inv hx
  obtain ⟨b, rfl, h2⟩ := kR_inv hy
  obtain rfl : xd = .lit (.int .i64 a) := by simpa using (congrArg Prod.fst h1)
  obtain rfl : yd = .lit (.int .i64 b) := by simpa using (congrArg Prod.fst h2)
  refine ⟨?_, fun _ _ => by rw [eqGuard_at_int]; rfl⟩
  simp [go_sem, eqdK, binOp]
  rfl
theorem has_of_mem {es : List (Lit × DataW Unit)} (hk : ∀ p ∈ es, WideAt.IsKeyLit p.1) {p : Lit × DataW Unit} (hp : p ∈ es) : Maps.has (.map es : DataW Unit) p.1 = true :=
  List.any_eq_true.2 ⟨p, hp, WideAt.sameKey_self (hk p hp)⟩
theorem mem_of_has {es : List (Lit × DataW Unit)} {k : Lit} (h : Maps.has (.map es : DataW Unit) k = true) : ∃ p ∈ es, p.1 = k := by
  obtain ⟨p, hp, hs⟩ := List.any_eq_true.1 (show es.any (fun p => p.1.sameKey k) = true from h)
  exact ⟨p, hp, WideAt.sameKey_eq hs⟩
theorem keys_nodup {es : List (Lit × DataW Unit)} (hap : es.Pairwise (fun p q => p.1 ≠ q.1)) : (es.map (·.1)).Nodup := by
  rw [List.nodup_iff_pairwise_ne, List.pairwise_map]
  exact hap
theorem equalK_iff {es es' : List (Lit × DataW Unit)} {hm hm' : Nat → Option Nat}
    (hap : es.Pairwise (fun p q => p.1 ≠ q.1)) (hk : ∀ p ∈ es, WideAt.IsKeyLit p.1) (hap' : es'.Pairwise (fun p q => p.1 ≠ q.1)) (hk' : ∀ p ∈ es', WideAt.IsKeyLit p.1)
    (a1 : ∀ k, Maps.has (.map es : DataW Unit) k = true → ∃ id, id < 18446744073709551616 ∧ k = akey id) (a2 : ∀ id, id < 18446744073709551616 → Maps.has (.map es : DataW Unit) (akey id) = (hm id).isSome)
    (a3 : ∀ id c, id < 18446744073709551616 → hm id = some c → ∀ z, (.map es : DataW Unit).atKey (akey id) z = .lit (.int .i64 (c : Int)))
    (b1 : ∀ k, Maps.has (.map es' : DataW Unit) k = true → ∃ id, id < 18446744073709551616 ∧ k = akey id) (b2 : ∀ id, id < 18446744073709551616 → Maps.has (.map es' : DataW Unit) (akey id) = (hm' id).isSome)
    (b3 : ∀ id c, id < 18446744073709551616 → hm' id = some c → ∀ z, (.map es' : DataW Unit).atKey (akey id) z = .lit (.int .i64 (c : Int)))
    (f1 : ∀ id c, hm id = some c → id < 18446744073709551616) (f2 : ∀ id c, hm' id = some c → id < 18446744073709551616) :
    Lib.equalFuncD eqdK (.map es) (.map es') = true ↔ hm = hm' := by
  have hn := keys_nodup hap
  have hn' := keys_nodup hap'
  unfold Lib.equalFuncD
  rw [Bool.and_eq_true, decide_eq_true_iff, List.all_eq_true]
  constructor
  · rintro ⟨hsz, hall⟩
    have hsz' : es.length = es'.length := hsz
    have go1 : ∀ id c, hm id = some c → hm' id = some c := by
      intro id c h
      have hi := f1 _ _ h
      have h1 := a2 id hi
      rw [h] at h1
      obtain ⟨p, hp, e⟩ := mem_of_has h1
      have hg := hall p hp
      unfold Lib.goodD at hg
      rw [Bool.and_eq_true, e, b2 id hi] at hg
      cases h' : hm' id with
      | none => rw [h'] at hg; simp at hg
      | some c' =>
        have e2 : p.2 = .lit (.int .i64 (c : Int)) := by
          rw [← a3 id c hi h .nil, ← e]
          exact (WideAt.atKey_mem .nil (hk p hp) hap (by exact hp)).symm
        rw [b3 id c' hi h', e2] at hg
        have h3 : ((c : Int) == (c' : Int)) = true := hg.2
        have h4 := beq_iff_eq.1 h3
        rw [show c = c' from by omega]
    funext id
    cases h : hm id with
    | some c => exact (go1 id c h).symm
    | none =>
      cases h' : hm' id with
      | none => rfl
      | some c' =>
        exfalso
        have hi := f2 _ _ h'
        have hk1 : akey id ∉ es.map (·.1) := fun hmem => by
          obtain ⟨p, hp, e⟩ := List.mem_map.1 hmem
          have := has_of_mem hk hp
          rw [e, a2 id hi, h] at this
          cases this
        have hsub : (akey id :: es.map (·.1)) ⊆ es'.map (·.1) := by
          intro k hkm
          rcases List.mem_cons.1 hkm with rfl | hkm
          · have h5 := b2 id hi
            rw [h'] at h5
            obtain ⟨p, hp, e⟩ := mem_of_has h5
            exact List.mem_map.2 ⟨p, hp, e⟩
          · obtain ⟨p, hp, rfl⟩ := List.mem_map.1 hkm
            have hg := hall p hp
            unfold Lib.goodD at hg
            rw [Bool.and_eq_true] at hg
            obtain ⟨q, hq, e⟩ := mem_of_has hg.1
            exact List.mem_map.2 ⟨q, hq, e⟩
        have := List.Nodup.length_le_of_subset (List.nodup_cons.2 ⟨hk1, hn⟩) hsub
        simp at this
        omega
  · rintro rfl
    have s1 : es.map (·.1) ⊆ es'.map (·.1) := by
      intro k hkm
      obtain ⟨p, hp, rfl⟩ := List.mem_map.1 hkm
      have h1 := has_of_mem hk hp
      obtain ⟨id, hi, e⟩ := a1 _ h1
      rw [e, a2 id hi, ← b2 id hi] at h1
      obtain ⟨q, hq, e2⟩ := mem_of_has h1
      exact List.mem_map.2 ⟨q, hq, by rw [e2, e]⟩
    have s2 : es'.map (·.1) ⊆ es.map (·.1) := by
      intro k hkm
      obtain ⟨p, hp, rfl⟩ := List.mem_map.1 hkm
      have h1 := has_of_mem hk' hp
      obtain ⟨id, hi, e⟩ := b1 _ h1
      rw [e, b2 id hi, ← a2 id hi] at h1
      obtain ⟨q, hq, e2⟩ := mem_of_has h1
      exact List.mem_map.2 ⟨q, hq, by rw [e2, e]⟩
    have l1 := List.Nodup.length_le_of_subset hn s1
    have l2 := List.Nodup.length_le_of_subset hn' s2
    simp at l1 l2
    refine ⟨show es.length = es'.length by omega, fun p hp => ?_⟩
    have h1 := has_of_mem hk hp
    obtain ⟨id, hi, e⟩ := a1 _ h1
    have h1' := h1
    rw [e, a2 id hi] at h1'
    obtain ⟨c, hc⟩ := Option.isSome_iff_exists.1 h1'
    unfold Lib.goodD
    rw [Bool.and_eq_true, e, b2 id hi, hc, b3 id c hi hc]
    have e2 : p.2 = .lit (.int .i64 (c : Int)) := by
      rw [← a3 id c hi hc .nil, ← e]
      exact (WideAt.atKey_mem .nil (hk p hp) hap (by exact hp)).symm
    rw [e2]
    exact ⟨rfl, by show ((c : Int) == (c : Int)) = true; simp⟩
theorem mEq_any {w : World} {b b' sz sz' : Nat} {hm hm' : Nat → Option Nat} (h : HasAt w b hm sz) (h' : HasAt w b' hm' sz') (f1 : ∀ id c, hm id = some c → id < 18446744073709551616) (f2 : ∀ id c, hm' id = some c → id < 18446744073709551616) {q : Bool} (hq : q = true ↔ hm = hm') :
    Calls Try.prog 32 #[.map (some b), .map (some b')] w fun e w' => e = .returned (.bool q) ∧ Below w.heap.size w w' := by
  obtain ⟨D, hown, a1, a2, a3⟩ := h
  obtain ⟨D', hown', b1, b2, b3⟩ := h'
  obtain ⟨es, rfl, hap, hk⟩ := hown.entries akeyed
  obtain ⟨es', rfl, hap', hk'⟩ := hown'.entries akeyed
  have hi := equalK_iff hap hk hap' hk' a1 a2 a3 b1 b2 b3 f1 f2
  have e : Lib.equalFuncD eqdK (.map es) (.map es') = q := by
    rw [Bool.eq_iff_iff, hi, hq]
  have hc := AnyEq.maps_Equal equalKk akeyed kR kR eqdK b b' sz sz' (.map es) (.map es') w hown hown' (.int .i64 0) zeroInt (.lit (.int .i64 0)) [] rfl neqK
  rw [e] at hc
  refine hc.mono ?_
  rintro e w' ⟨rfl, hg⟩
  exact ⟨rfl, (Below.refl _ w).grown hg (Nat.le_refl _) (fun j hj => by cases hj)⟩
end Go.Proofs.Ytgclbeagifoifaa
