/- Room, and what Reserve takes of it: plain facts. -/
import Derived.Test.YthibbcokpmckfaaGreatDoorLRoom
namespace Go.Proofs.YthibbcokpmckfaaGreatDoor
open Go.RowKit Go.Sort
set_option linter.unusedVariables false
theorem voidN_same {hs hs' : List Hd} (h : ∀ k : Nat, hs'[k]?.map Hd.cls = hs[k]?.map Hd.cls) (k : Nat) : voidN hs' k = voidN hs k := by
  induction k with
  | zero => rfl
  | succ k ih => rw [voidN, voidN, ih, h k]
theorem voidN_not {hs : List Hd} (h : NoZ hs) (k : Nat) : voidN hs k = 0 := by
  induction k with
  | zero => rfl
  | succ k ih =>
    rw [voidN, ih]
    have : ¬ (hs[k]?.map Hd.cls) = some 0 := by
      intro e
      obtain ⟨z, hz, h0⟩ := Option.map_eq_some_iff.1 e
      exact h k z hz h0
    rw [if_neg this]
/-- One slab with no class gets one. -/
theorem voidN_claim {hs : List Hd} {i c : Nat} {x y : Hd} (hx : hs[i]? = some x) (h0 : x.cls = 0) (hy : y.cls = c) (hc : c ≠ 0) (k : Nat) : voidN hs k = voidN (hs.set i y) k + if i < k then 1 else 0 := by
  have hil := (List.getElem?_eq_some_iff.1 hx).1
  induction k with
  | zero => simp [voidN]
  | succ k ih =>
    rw [voidN, voidN, ih, List.getElem?_set]
    by_cases e : i = k
    · subst e
      rw [if_pos rfl, if_pos hil, hx]
      have h1 : ¬ (some y).map Hd.cls = some 0 := by simp [hy, hc]
      have h2 : (some x).map Hd.cls = some 0 := by simp [h0]
      rw [if_neg h1, if_pos h2, if_neg (show ¬ i < i by omega), if_pos (show i < i + 1 by omega)]
    · rw [if_neg e]
      by_cases h3 : i < k
      · rw [if_pos h3, if_pos (show i < k + 1 by omega)]; omega
      · rw [if_neg h3, if_neg (show ¬ i < k + 1 by omega)]; omega
theorem same_len {hs : List Hd} {f g : Nat → List Nat} (hf : FsOk hs f) (hg : FsOk hs g) (c : Nat) : (f c).length = (g c).length :=
  ((List.perm_ext_iff_of_nodup (hf c).1 (hg c).1).2 fun a => by rw [(hf c).2, (hg c).2]).length_eq
theorem none_free {hs : List Hd} {f : Nat → List Nat} (hf : FsOk hs f) {c : Nat} (h : ∀ a, ¬ FreeB hs c a) : f c = [] :=
  List.eq_nil_iff_forall_not_mem.2 fun a ha => h a (((hf c).2 a).1 ha)
theorem adr_one {no c j k : Nat} (hc : 1 ≤ c) (h : adr no c j = adr no c k) : j = k := by
  unfold adr at h
  have h2 : 64 * c * j = 64 * c * k := by omega
  exact Nat.eq_of_mul_eq_mul_left (by omega) h2
theorem grown_full {no c : Nat} (hc : 1 ≤ c) (k : Nat) : (grown no c 0 [] k).length = k := by
  induction k with
  | zero => rfl
  | succ k ih =>
    unfold grown
    rw [if_neg (by rw [Nat.zero_testBit]; simp)]
    have hn : adr no c k ∉ grown no c 0 [] k := by
      rw [grown_mem]
      rintro (h | ⟨j, hj, _, h⟩)
      · cases h
      · have := adr_one hc h; omega
    unfold ins
    rw [if_neg hn, List.length_cons, ih]
/-- A free block that is taken: one less. -/
theorem room_less {hs : List Hd} {f f' : Nat → List Nat} {c i j N : Nat} {x : Hd} (ok : HsOk hs) (hm : hs.length ≤ 64) (hf : FsOk hs f) (hx : hs[i]? = some x) (hc : x.cls = c) (hj : x.bl[j]? = some 0)
    (hf' : FsOk (hs.set i { x with bl := x.bl.set j 1 }) f') : roomS (hs.set i { x with bl := x.bl.set j 1 }) f' c N + 1 = roomS hs f c N := by
  have hil := (List.getElem?_eq_some_iff.1 hx).1
  have ht := hf.take ok hm hx hj (v := 1) (by decide)
  have e := same_len hf' ht c
  rw [hc, updF_at] at e
  have hmem : adr x.no c j ∈ f c := ((hf c).2 _).2 ⟨i, j, x, hx, hc, hj, rfl⟩
  rw [List.length_erase_of_mem hmem] at e
  have hpos := List.length_pos_of_mem hmem
  have hv : voidN (hs.set i { x with bl := x.bl.set j 1 }) N = voidN hs N := voidN_same (fun k => by
    rw [List.getElem?_set]
    by_cases e : i = k
    · subst e; rw [if_pos rfl, if_pos hil, hx]; rfl
    · rw [if_neg e]) N
  unfold roomS
  rw [hv, e]
  omega
/-- What Reserve does to the room: one less; or there was none. -/
theorem room_took {hs hs1 hs' : List Hd} {f f' : Nat → List Nat} {c : Nat} {e : Ending} (ok : HsOk hs) (hm : hs.length ≤ 64) (hf : FsOk hs f) (hc1 : 1 ≤ c) (hc3 : c ≤ 3) (hcl : Claimed hs hs1 c) (ht : Took hs1 hs' c e) (hf' : FsOk hs' f') :
    hs'.length = hs.length ∧ (((∃ i j x, hs1[i]? = some x ∧ x.cls = c ∧ x.bl[j]? = some 0 ∧ hs' = hs1.set i { x with bl := x.bl.set j 1 } ∧ e = .returned (.tuple #[wv (adr x.no c j), .int .i64 0])) ∧ roomS hs' f' c hs.length + 1 = roomS hs f c hs.length) ∨
      (hs' = hs ∧ e = .returned (.tuple #[.int .u64 0, .int .i64 4]) ∧ roomS hs f c hs.length = 0)) := by
  rcases hcl with ⟨⟨a, hfa⟩, rfl⟩ | ⟨hz, ⟨i0, x0, hfz, hx0, rfl⟩ | ⟨hnz, rfl⟩⟩
  · rcases ht with ⟨i, j, x, hx, hxc, hj, hle, rfl, rfl⟩ | ⟨hno, _, _⟩
    · exact ⟨by rw [List.length_set], .inl ⟨⟨i, j, x, hx, hxc, hj, rfl, rfl⟩, room_less ok hm hf hx hxc hj hf'⟩⟩
    · exact absurd hfa (hno a)
  · have h0 : x0.cls = 0 := by
      obtain ⟨x', hx', h0⟩ := hfz.1
      rw [hx0] at hx'
      cases hx'
      exact h0
    have hl0 : x0.bl.length = 0 := by rw [(ok i0 x0 hx0).2, h0]; rfl
    have hil := (List.getElem?_eq_some_iff.1 hx0).1
    have hf1 := hf.claim (c := c) hx0 h0 hl0
    have ok1 : HsOk (hs.set i0 ⟨x0.no, c, 0, blK (blN c) 0 (blN c)⟩) := ok.claim hx0
    have hroom : roomS (hs.set i0 ⟨x0.no, c, 0, blK (blN c) 0 (blN c)⟩) (updF f c (grown x0.no c 0 (f c) (blN c))) c hs.length = roomS hs f c hs.length := by
      have hv := voidN_claim (c := c) (y := ⟨x0.no, c, 0, blK (blN c) 0 (blN c)⟩) hx0 h0 rfl (by omega) hs.length
      rw [if_pos hil] at hv
      unfold roomS
      rw [updF_at, none_free hf hz, grown_full hc1, hv, Nat.mul_add, Nat.mul_one, List.length_nil]
      omega
    rcases ht with ⟨i, j, x, hx, hxc, hj, hle, rfl, rfl⟩ | ⟨hno, _, _⟩
    · refine ⟨by simp only [List.length_set], .inl ⟨⟨i, j, x, hx, hxc, hj, rfl, rfl⟩, ?_⟩⟩
      rw [← hroom]
      exact room_less ok1 (by rw [List.length_set]; exact hm) hf1 hx hxc hj hf'
    · refine absurd ?_ (hno (adr x0.no c 0))
      have hb : 0 < blN c := by
        have : ∀ d : Nat, d = 1 ∨ d = 2 ∨ d = 3 → 0 < blN d := by rintro d (rfl | rfl | rfl) <;> decide
        exact this c (by omega)
      refine ⟨i0, 0, ⟨x0.no, c, 0, blK (blN c) 0 (blN c)⟩, by rw [List.getElem?_set, if_pos rfl, if_pos hil], rfl, ?_, rfl⟩
      show (blK (blN c) 0 (blN c))[0]? = some 0
      rw [blK_get hb, Nat.zero_testBit]; simp
  · rcases ht with ⟨i, j, x, hx, hxc, hj, hle, rfl, rfl⟩ | ⟨hno, rfl, rfl⟩
    · exact absurd ⟨i, j, x, hx, hxc, hj, rfl⟩ (hz (adr x.no c j))
    · refine ⟨rfl, .inr ⟨rfl, rfl, ?_⟩⟩
      unfold roomS
      rw [none_free hf hz, voidN_not hnz]; rfl
end Go.Proofs.YthibbcokpmckfaaGreatDoor
