/- Room's bound; what is reserved is another than what was free: plain facts. -/
import Derived.Test.YthibbcokpmckfaaGreatDoorLCount
namespace Go.Proofs.YthibbcokpmckfaaGreatDoor
open Go.RowKit Go.Sort
set_option linter.unusedVariables false
theorem room_bound (hc hb : Nat → Nat) (n c : Nat) (h1 : 1 ≤ c) (k : Nat) (hk : k ≤ n) : (fsK hc hb k c).length + blN c * voidN (hsK hc hb n n) k ≤ blN c * k := by
  induction k with
  | zero => exact Nat.le_refl _
  | succ k ih =>
    have ih := ih (by omega)
    have hget : (hsK hc hb n n)[k]?.map Hd.cls = some (hc k) := by rw [hsK_get (by omega), if_pos (by omega)]; rfl
    have e : (fsK hc hb (k + 1) c) = updF (fsK hc hb k) (hc k) (grown (k + 1) (hc k) (hb k) (fsK hc hb k (hc k)) (blN (hc k))) c := rfl
    rw [voidN, hget, e, Nat.mul_add, Nat.mul_add, Nat.mul_one]
    by_cases h : hc k = c
    · have h0 : ¬ some (hc k) = some 0 := by intro e; have := Option.some.inj e; omega
      rw [if_neg h0, Nat.mul_zero, h, updF_at]
      have := grown_len (k + 1) c (hb k) (fsK hc hb k c) (blN c)
      omega
    · rw [updF_ne _ _ (fun e => h e.symm)]
      by_cases h0 : hc k = 0
      · rw [if_pos (by rw [h0]), Nat.mul_one]; omega
      · rw [if_neg (by intro e; exact h0 (Option.some.inj e)), Nat.mul_zero]; omega
def Rsv (hs : List Hd) (a : Nat) : Prop := ∃ (i j : Nat) (x : Hd), hs[i]? = some x ∧ x.bl[j]? = some 1 ∧ adr x.no x.cls j = a
theorem Rsv.found {hs : List Hd} {a : Nat} (h : Rsv hs a) : ∃ i j x, hs[i]? = some x ∧ x.bl[j]? = some 1 ∧ Found hs a i j := by
  obtain ⟨i, j, x, hx, hb, ha⟩ := h
  exact ⟨i, j, x, hx, hb, x, hx, (List.getElem?_eq_some_iff.1 hb).1, ha⟩
theorem rsv_claim {hs hs1 : List Hd} {c : Nat} (ok : HsOk hs) (hcl : Claimed hs hs1 c) {a : Nat} (h : Rsv hs a) : Rsv hs1 a := by
  rcases hcl with ⟨_, rfl⟩ | ⟨_, ⟨i0, x0, hfz, hx0, rfl⟩ | ⟨_, rfl⟩⟩
  · exact h
  · obtain ⟨i, j, x, hx, hb, ha⟩ := h
    have hne : i0 ≠ i := by
      rintro rfl
      rw [hx0] at hx
      cases hx
      obtain ⟨x', hx', h0⟩ := hfz.1
      rw [hx0] at hx'
      cases hx'
      have := (ok i0 x0 hx0).2
      rw [h0] at this
      have h3 := (List.getElem?_eq_some_iff.1 hb).1
      rw [this, show blN 0 = 0 from rfl] at h3
      omega
    exact ⟨i, j, x, by rw [List.getElem?_set, if_neg hne]; exact hx, hb, ha⟩
  · exact h
theorem isAt_rsv {hs : List Hd} (ok : HsOk hs) (hm : hs.length ≤ 64) {a v : Nat} (h : isAt hs a v) (hr : Rsv hs a) : v = 1 := by
  obtain ⟨k, q, z, hz, hb, hf⟩ := hr.found
  rcases h with ⟨i, j, x, hx, hj, ha, hv⟩ | ⟨hn, _⟩
  · obtain ⟨rfl, rfl⟩ := found_one ok hm hf ⟨x, hx, hj, ha⟩
    rw [hx] at hz
    cases hz
    rw [hv] at hb
    exact Option.some.inj hb
  · exact absurd hf (hn k q)
theorem rsv_took {hs1 : List Hd} {c i j : Nat} {x : Hd} (ok : HsOk hs1) (hm : hs1.length ≤ 64) (hx : hs1[i]? = some x) (hc : x.cls = c) (hj : x.bl[j]? = some 0) :
    (∀ a, Rsv hs1 a → Rsv (hs1.set i { x with bl := x.bl.set j 1 }) a ∧ a ≠ adr x.no c j) ∧ Rsv (hs1.set i { x with bl := x.bl.set j 1 }) (adr x.no c j) := by
  have hil := (List.getElem?_eq_some_iff.1 hx).1
  have hjl := (List.getElem?_eq_some_iff.1 hj).1
  refine ⟨fun a ha => ?_, i, j, { x with bl := x.bl.set j 1 }, by rw [List.getElem?_set, if_pos rfl, if_pos hil], by show (x.bl.set j 1)[j]? = some 1; rw [List.getElem?_set, if_pos rfl, if_pos hjl], by rw [← hc]⟩
  obtain ⟨k, q, z, hz, hb, hf⟩ := ha.found
  have hn : ¬ (k = i ∧ q = j) := by
    rintro ⟨rfl, rfl⟩
    rw [hx] at hz
    cases hz
    rw [hj] at hb
    cases hb
  have ha2 : adr z.no z.cls q = a := by obtain ⟨z', hz', _, h⟩ := hf; rw [hz] at hz'; cases hz'; exact h
  refine ⟨?_, fun e => hn ?_⟩
  · obtain ⟨z', hz', h1, h2, h3⟩ := get_set (v := 1) hx hn hz hb
    exact ⟨k, q, z', hz', h3, by rw [h1, h2]; exact ha2⟩
  · exact found_one ok hm hf ⟨x, hx, hjl, by rw [hc, e]⟩
end Go.Proofs.YthibbcokpmckfaaGreatDoor
