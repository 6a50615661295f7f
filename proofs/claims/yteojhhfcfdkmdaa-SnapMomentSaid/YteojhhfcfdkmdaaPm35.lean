/- Texts of this claim, packed: SnU, SnMa, SnMb, RnP, SnX, SnK, SnSd. -/
import Derived.Test.YteojhhfcfdkmdaaPm34
import Derived.Test.YteojhhfcfdkmdaaPm29
import Derived.Test.YteojhhfcfdkmdaaPm02
set_option linter.unusedSimpArgs false
set_option linter.unusedVariables false
/- What a snapshot that is done has read, in the words of the node that lies there; what is seen of a node that was laid; plain facts. -/
namespace Go.Proofs.Yteojhhfcfdkmdaa
open Go.RowKit
set_option linter.unusedVariables false
theorem len_tr (n : Nd) {a : Nat} : (n.tr a n.len).len = n.len := by
  refine (n.tr a n.len).len_eq n.len_le (fun i hi => ?_) (fun h8 => ?_)
  · have := n.len_le
    rw [n.tr_ptr _ _ (by omega), if_pos hi]
    exact n.len_before hi
  · rw [n.tr_ptr _ _ h8, if_neg (by omega)]
theorem tr_tr (n : Nd) : (n.tr (n.len + 1) n.len).tr (n.tr (n.len + 1) n.len).len (n.tr (n.len + 1) n.len).len = n.tr n.len n.len := by
  rw [len_tr]
  refine Nd.ext_of rfl (fun i hi => ?_) (fun i hi => ?_)
  · rw [Nd.tr_key _ _ _ hi, Nd.tr_key _ _ _ hi, Nd.tr_key _ _ _ hi]
    by_cases h : i < n.len
    · rw [if_pos h, if_pos (by omega), if_pos h]
    · rw [if_neg h, if_neg h]
  · rw [Nd.tr_ptr _ _ _ hi, Nd.tr_ptr _ _ _ hi, Nd.tr_ptr _ _ _ hi]
    split <;> rfl
theorem len_iff (n : Nd) {i : Nat} (hi : i ≤ 8) : i ≤ n.len ↔ ∀ j, j < i → n.ptr j ≠ 0 := by
  constructor
  · exact fun h j hj => n.len_before (by omega)
  · intro h
    by_cases hl : i ≤ n.len
    · exact hl
    · exact absurd (n.len_at (by omega)) (h _ (by omega))
theorem ofN_hd (l : Int) (x : List Int) : (ofN l x 8).hd = (l, wAt x 1, wAt x 2, wAt x 3, wAt x 4) := rfl
theorem ofN_key (l : Int) (x : List Int) {i : Nat} (hi : i < 8) : (ofN l x 8).key i = wAt x (8 + 2 * i) := by
  rcases lt8 hi with rfl | rfl | rfl | rfl | rfl | rfl | rfl | rfl <;> rfl
theorem ofN_ptr (l : Int) (x : List Int) {i : Nat} (hi : i < 8) : (ofN l x 8).ptr i = wAt x (9 + 2 * i) := by
  rcases lt8 hi with rfl | rfl | rfl | rfl | rfl | rfl | rfl | rfl <;> rfl
theorem wAt_map (f : Nat → Int) {i : Nat} (hi : i < 24) : wAt ((List.range 24).map f) i = f i := by
  unfold wAt
  rw [List.getD_eq_getElem?_getD, List.getElem?_map, List.getElem?_range hi]
  rfl
theorem zeroNd_tr (a b : Nat) : zeroNd.tr a b = zeroNd := by
  refine Nd.ext_of rfl (fun i hi => ?_) (fun i hi => ?_)
  · rw [Nd.tr_key _ _ _ hi]
    split
    · rfl
    · rcases lt8 hi with rfl | rfl | rfl | rfl | rfl | rfl | rfl | rfl <;> rfl
  · rw [Nd.tr_ptr _ _ _ hi]
    split
    · rfl
    · rcases lt8 hi with rfl | rfl | rfl | rfl | rfl | rfl | rfl | rfl <;> rfl
theorem full_low {W : Nat → Int} {j : Nat} (h3 : j ≠ 3) (h5 : j < 5) : full W j = W j := by
  unfold full
  rw [if_pos ⟨⟨h3, .inl h5⟩, fun i hi h9 => by omega⟩]
/-- A reading's words make the node without what stands behind its entries. -/
theorem ofR_full {x : List Int} {W : Nat → Int} (hW : ∀ i, i < 24 → W i = wAt x i) : ofR ((List.range 24).map (fullC W (W 3))) = ((ofR x).1.tr ((ofR x).1.len + 1) (ofR x).1.len, (ofR x).2) := by
  have h0 : wAt ((List.range 24).map (fullC W (W 3))) 0 = wAt x 0 := by
    rw [wAt_map _ (by omega), ← hW 0 (by omega)]
    unfold fullC
    rw [if_neg (by omega), full_low (by omega) (by omega)]
  unfold ofR
  rw [h0]
  by_cases hl : 5495893775785918464 ≤ wAt x 0 ∧ wAt x 0 ≤ 5495893775785918479
  · rw [if_pos hl, if_pos hl]
    dsimp only
    refine Prod.ext ?_ rfl
    dsimp only
    obtain ⟨l, hl'⟩ : ∃ l, l = wAt x 0 - 5495893775785918464 := ⟨_, rfl⟩
    rw [← hl']
    have hh := ofN_hd l x
    have hk := fun i (hi : i < 8) => ofN_key l x hi
    have hp := fun i (hi : i < 8) => ofN_ptr l x hi
    have hh' := ofN_hd l ((List.range 24).map (fullC W (W 3)))
    have hk' := fun i (hi : i < 8) => ofN_key l ((List.range 24).map (fullC W (W 3))) hi
    have hp' := fun i (hi : i < 8) => ofN_ptr l ((List.range 24).map (fullC W (W 3))) hi
    generalize ofN l x 8 = N at hh hk hp ⊢
    generalize ofN l ((List.range 24).map (fullC W (W 3))) 8 = M at hh' hk' hp' ⊢
    have hf : ∀ i, i ≤ 8 → ∀ b, b = 8 + 2 * i ∨ b = 9 + 2 * i → (fullTo W b ↔ i ≤ N.len) := by
      intro i hi b hb
      rw [len_iff _ hi]
      constructor
      · intro h j hj
        rw [hp _ (by omega), ← hW _ (by omega)]
        exact h (9 + 2 * j) (by omega) (by omega) (by omega)
      · intro h j hj h9 ho
        have := h ((j - 9) / 2) (by omega)
        rw [hp _ (by omega), ← hW _ (by omega), show 9 + 2 * ((j - 9) / 2) = j by omega] at this
        exact this
    refine Nd.ext_of ?_ (fun i hi => ?_) (fun i hi => ?_)
    · rw [show (N.tr (N.len + 1) N.len).hd = N.hd from rfl, hh, hh', wAt_map _ (by omega), wAt_map _ (by omega), wAt_map _ (by omega), wAt_map _ (by omega), ← hW 1 (by omega), ← hW 2 (by omega), ← hW 3 (by omega), ← hW 4 (by omega)]
      unfold fullC
      rw [if_neg (by omega), if_neg (by omega), if_pos rfl, if_neg (by omega), full_low (by omega) (by omega), full_low (by omega) (by omega), full_low (by omega) (by omega)]
    · rw [hk' _ hi, Nd.tr_key _ _ _ hi, hk _ hi, wAt_map _ (by omega), ← hW _ (by omega)]
      unfold fullC full
      rw [if_neg (by omega)]
      have := hf i (by omega) (8 + 2 * i) (.inl rfl)
      by_cases h : i ≤ N.len
      · rw [if_pos ⟨by omega, this.2 h⟩, if_pos (by omega)]
      · rw [if_neg (fun hh => h (this.1 hh.2)), if_neg (by omega)]
    · rw [hp' _ hi, Nd.tr_ptr _ _ _ hi, hp _ hi, wAt_map _ (by omega), ← hW _ (by omega)]
      unfold fullC full
      rw [if_neg (by omega)]
      have := hf i (by omega) (9 + 2 * i) (.inr rfl)
      by_cases h : i ≤ N.len
      · rw [if_pos ⟨by omega, this.2 h⟩]
        by_cases h' : i < N.len
        · rw [if_pos h']
        · rw [if_neg h', hW _ (by omega), ← hp i hi, show i = N.len by omega]
          exact N.len_at (by omega)
      · rw [if_neg (fun hh => h (this.1 hh.2)), if_neg (by omega)]
  · rw [if_neg hl, if_neg hl]
    dsimp only
    rw [zeroNd_tr]
/-- What is seen of what was laid. -/
theorem laidM_Lds {n : Nd} (hw : ∀ i, i < 24 → 0 ≤ wAt (wi n) i ∧ wAt (wi n) i < 18446744073709551616) {low : Int} (hl : 0 ≤ low ∧ low < 18446744073709551616) : Lds 64 55 (laidM n low) :=
  (flF_Lds (laidS_Lds hw hl (Nat.le_refl 48)) (Nat.le_refl 6)).fence (by omega) 0
theorem flF_view (s : St) : ∀ k, (flF s k).view = s.view
  | 0 => rfl
  | k + 1 => (show (flF s k).view = s.view from flF_view s k)
theorem natL_lay (base : Nat) (n : Nd) : natL (layL base n) = layN base n := by
  unfold natL layL layN
  rw [List.map_map]
  exact List.map_congr_left fun i _ => Prod.ext (show ((base : Int) + 8 * (i : Int)).toNat = base + 8 * i by omega) rfl
theorem fence_view (s : St) (c : Nat) : (s.fence c).view = s.view := rfl
theorem laidM_view (n : Nd) (low : Int) : (laidM n low).view = seenV (seenV (List.replicate 512 0) (layN 1088 n)) (layN 1280 (sideNd low)) := by
  unfold laidM
  rw [fence_view, flF_view]
  unfold laidS
  rw [List.take_of_length_le (by rw [laidL_len]; exact Nat.le_refl _), stF_view]
  unfold laidL natL
  rw [List.map_append, seenV_app]
  have h1 := natL_lay 1088 n
  have h2 := natL_lay 1280 (sideNd low)
  unfold natL at h1 h2
  rw [show ((1088 : Int)) = ((1088 : Nat) : Int) from rfl, show ((1280 : Int)) = ((1280 : Nat) : Int) from rfl, h1, h2]
  rfl
theorem laid_word {n : Nd} (hw : ∀ i, i < 24 → 0 ≤ wAt (wi n) i ∧ wAt (wi n) i < 18446744073709551616) (low : Int) {i : Nat} (hi : i < 24) : (((laidM n low).view.getD (136 + i) 0 : Nat) : Int) = wAt (wi n) i := by
  rw [laidM_view, layN_row (b := 136) rfl, layN_row (b := 160) rfl, seenV_row_far _ _ _ _ _ (by omega), seenV_row _ _ _ _ (by rw [List.length_replicate]; omega) i hi]
  have := hw i hi
  omega
theorem laid_low (n : Nd) {low : Int} (hl : 0 ≤ low ∧ low < 18446744073709551616) : (((laidM n low).view.getD 161 0 : Nat) : Int) = low := by
  rw [laidM_view, layN_row (b := 160) (base := 1280) rfl, show 161 = 160 + 1 from rfl, seenV_row _ _ _ _ (by rw [seenV_len, List.length_replicate]; omega) 1 (by omega)]
  have : wAt (wi (sideNd low)) 1 = low := rfl
  rw [this]
  omega
theorem laid_V {n : Nd} (hw : ∀ i, i < 24 → 0 ≤ wAt (wi n) i ∧ wAt (wi n) i < 18446744073709551616) {low : Int} (hl : 0 ≤ low ∧ low < 18446744073709551616) :
    (∀ i, i < 24 → ldV (laidM n low) (snWordAt 1088 i) = wAt (wi n) i) ∧ ldV (laidM n low) (snWordAt 1280 1) = low ∧ (∀ i, i < 24 → ldK (laidM n low) (snWordAt 1088 i) = 0) ∧ ldK (laidM n low) (snWordAt 1280 1) = 0 := by
  have hn : (laidM n low).nl = 64 := (laidM_Lds hw hl).nls
  have hA : ∀ i, i < 24 → snWordAt 1088 i = 1088 + 8 * i := fun i hi => by unfold snWordAt; rw [if_pos (by omega)]
  have hB : snWordAt 1280 1 = 1288 := rfl
  refine ⟨fun i hi => ?_, ?_, fun i hi => ?_, ?_⟩
  · unfold ldV
    rw [hA i hi, hn, if_pos ⟨by omega, by omega⟩, show (1088 + 8 * i) / 8 = 136 + i by omega]
    exact laid_word hw low hi
  · unfold ldV
    rw [hB, hn, if_pos ⟨by omega, by omega⟩, show 1288 / 8 = 161 from rfl]
    exact laid_low n hl
  · unfold ldK
    rw [hA i hi, hn, if_pos ⟨by omega, by omega⟩]
  · unfold ldK
    rw [hB, hn, if_pos ⟨by omega, by omega⟩]
end Go.Proofs.Yteojhhfcfdkmdaa
/- A snapshot between whose steps somebody stores: what it has read, and when; if both readings are the same, they are the node as it stood between the two; plain facts; conditions: within one Count no word comes back. -/
namespace Go.Proofs.Yteojhhfcfdkmdaa
open Go.RowKit
set_option linter.unusedVariables false
/-- A history of a node's words up to a time: within one Count (cN: how many times it was counted up) a word that is the same at two times was so between. -/
structure Hist (X : Nat → Nat → Int) (cN : Nat → Nat) (t : Nat) : Prop where
  mono : ∀ a b, a ≤ b → b ≤ t → cN a ≤ cN b
  eqc : ∀ a b, a ≤ t → b ≤ t → X a 3 = X b 3 → cN a = cN b
  once : ∀ a b, a ≤ b → b ≤ t → cN a = cN b → ∀ j, j < 24 → X a j = X b j → ∀ c, a ≤ c → c ≤ b → X c j = X a j
theorem hist_zero (X : Nat → Nat → Int) (cN : Nat → Nat) : Hist X cN 0 :=
  ⟨fun a b h h2 => by rw [show a = b by omega]; exact Nat.le_refl _, fun a b h h2 _ => by rw [show a = b by omega], fun a b h h2 _ j _ _ c h3 h4 => by rw [show c = a by omega]⟩
section
variable {X X' : Nat → Nat → Int} {cN cN' : Nat → Nat} {t : Nat}
/-- One more moment. -/
theorem Hist.next (h : Hist X cN t) (hX : ∀ a, a ≤ t → X' a = X a) (hc : ∀ a, a ≤ t → cN' a = cN a) (hup : cN' t ≤ cN' (t + 1)) (heq : ∀ a, a ≤ t → X a 3 = X' (t + 1) 3 → cN' a = cN' (t + 1))
    (hnew : (∀ a, a ≤ t → cN' a ≠ cN' (t + 1)) ∨ (∀ j, j < 24 → X' (t + 1) j ≠ X t j → ∀ a, a ≤ t → cN' a = cN' (t + 1) → X a j ≠ X' (t + 1) j)) : Hist X' cN' (t + 1) := by
  have hm : ∀ a, a ≤ t → cN' a ≤ cN' (t + 1) := fun a ha => by
    have := h.mono a t ha (Nat.le_refl _)
    rw [← hc a ha, ← hc t (Nat.le_refl _)] at this
    omega
  refine ⟨fun a b hab hb => ?_, fun a b ha hb he => ?_, fun a b hab hb hcn j hj he c h1 h2 => ?_⟩
  · by_cases hb2 : b ≤ t
    · rw [hc a (by omega), hc b hb2]
      exact h.mono a b hab hb2
    · obtain rfl : b = t + 1 := by omega
      by_cases ha2 : a ≤ t
      · exact hm a ha2
      · rw [show a = t + 1 by omega]
        exact Nat.le_refl _
  · by_cases ha2 : a ≤ t
    · by_cases hb2 : b ≤ t
      · rw [hc a ha2, hc b hb2]
        rw [hX a ha2, hX b hb2] at he
        exact h.eqc a b ha2 hb2 he
      · obtain rfl : b = t + 1 := by omega
        rw [hX a ha2] at he
        exact heq a ha2 he
    · obtain rfl : a = t + 1 := by omega
      by_cases hb2 : b ≤ t
      · rw [hX b hb2] at he
        exact (heq b hb2 he.symm).symm
      · rw [show b = t + 1 by omega]
  · by_cases hb2 : b ≤ t
    · rw [hc a (by omega), hc b hb2] at hcn
      rw [hX a (by omega), hX b hb2] at he
      rw [hX c (by omega), hX a (by omega)]
      exact h.once a b hab hb2 hcn j hj he c h1 h2
    · obtain rfl : b = t + 1 := by omega
      by_cases ha2 : a ≤ t
      · rcases hnew with hn | hn
        · exact absurd hcn (hn a ha2)
        · rw [hX a ha2] at he ⊢
          have hs : X' (t + 1) j = X t j := by
            by_cases e : X' (t + 1) j = X t j
            · exact e
            · exact absurd he (hn j hj e a ha2 hcn)
          by_cases hc2 : c ≤ t
          · rw [hX c hc2]
            have hct : cN a = cN t := by
              have h3 := h.mono a t ha2 (Nat.le_refl _)
              rw [← hc a ha2, ← hc t (Nat.le_refl _)] at h3 ⊢
              omega
            exact h.once a t ha2 (Nat.le_refl _) hct j hj (he.trans hs) c h1 hc2
          · rw [show c = t + 1 by omega]
            exact he.symm
      · rw [show c = a by omega]
end
/-- Whether a word is read at all. -/
def wrd (j : Nat) : Prop := j ≠ 3 ∧ (j < 5 ∨ 7 < j)
instance (j : Nat) : Decidable (wrd j) := by unfold wrd; infer_instance
/-- The words that a reading has so far, each as it stood at some time between two. -/
def RdSo (X : Nat → Nat → Int) (r : Nat → Int) (wh lo hi k : Nat) : Prop :=
  ∀ j, j < 24 → j ≠ 3 → if j < k ∧ wrd j then ∃ τ, lo ≤ τ ∧ τ ≤ hi ∧ r (24 * wh + j) = X τ j else r (24 * wh + j) = 0
def NoZ (r : Nat → Int) (wh k : Nat) : Prop := ∀ i, i < k → 9 ≤ i → i % 2 = 1 → r (24 * wh + i) ≠ 0
instance (r : Nat → Int) (wh k : Nat) : Decidable (NoZ r wh k) := by unfold NoZ; infer_instance
/-- All of a reading. -/
def RdAll (X : Nat → Nat → Int) (r : Nat → Int) (wh lo hi : Nat) : Prop :=
  ∀ j, j < 24 → j ≠ 3 → if wrd j ∧ NoZ r wh j then ∃ τ, lo ≤ τ ∧ τ ≤ hi ∧ r (24 * wh + j) = X τ j else r (24 * wh + j) = 0
/-- What a snapshot under way has. -/
def SnIn (X : Nat → Nat → Int) (t : Nat) (lw : Int) (S : SS) : Prop := S.d = false ∧ match S.ph with
  | .bg => True
  | .rd => ∃ τ0, τ0 ≤ t ∧ S.r 3 = X τ0 3 ∧ ordW S.wd ∧ ((S.wh = 0 ∧ RdSo X S.r 0 τ0 t S.wd ∧ NoZ S.r 0 S.wd ∧ ∀ j, j < 24 → S.r (24 + j) = 0) ∨ (S.wh = 1 ∧ ∃ σ, τ0 ≤ σ ∧ σ ≤ t ∧ RdAll X S.r 0 τ0 σ ∧ RdSo X S.r 1 σ t S.wd ∧ NoZ S.r 1 S.wd))
  | .lw => ∃ τ0 σ, τ0 ≤ σ ∧ σ ≤ t ∧ S.r 3 = X τ0 3 ∧ RdAll X S.r 0 τ0 σ ∧ RdAll X S.r 1 σ t ∧ S.r 26 ≠ 0
  | .en => ∃ τ0 σ, τ0 ≤ σ ∧ σ ≤ t ∧ S.r 3 = X τ0 3 ∧ RdAll X S.r 0 τ0 σ ∧ RdAll X S.r 1 σ t ∧ (S.r 26 ≠ 0 → S.lo = lw)
section
variable {X X' : Nat → Nat → Int} {t t' lo hi hi' k : Nat} {wh : Nat} {r : Nat → Int} {S : SS} {lw : Int}
theorem RdSo.up (h : RdSo X r wh lo hi k) (hX : ∀ a, a ≤ hi → X' a = X a) (hh : hi ≤ hi') : RdSo X' r wh lo hi' k := fun j hj h3 => by
  have := h j hj h3
  split at this
  · rename_i hc
    rw [if_pos hc]
    obtain ⟨τ, a, b, c⟩ := this
    exact ⟨τ, a, by omega, by rw [hX τ b]; exact c⟩
  · rename_i hc
    rw [if_neg hc]
    exact this
theorem RdAll.up (h : RdAll X r wh lo hi) (hX : ∀ a, a ≤ hi → X' a = X a) (hh : hi ≤ hi') : RdAll X' r wh lo hi' := fun j hj h3 => by
  have := h j hj h3
  split at this
  · rename_i hc
    rw [if_pos hc]
    obtain ⟨τ, a, b, c⟩ := this
    exact ⟨τ, a, by omega, by rw [hX τ b]; exact c⟩
  · rename_i hc
    rw [if_neg hc]
    exact this
/-- Time goes on. -/
theorem SnIn.up (h : SnIn X t lw S) (hX : ∀ a, a ≤ t → X' a = X a) (hh : t ≤ t') : SnIn X' t' lw S := by
  obtain ⟨hd, h⟩ := h
  refine ⟨hd, ?_⟩
  cases hp : S.ph with
  | bg => trivial
  | rd =>
    rw [hp] at h
    obtain ⟨τ0, h1, h2, h3, h4⟩ := h
    refine ⟨τ0, by omega, by rw [hX τ0 h1]; exact h2, h3, ?_⟩
    rcases h4 with ⟨a, b, c, d⟩ | ⟨a, σ, s1, s2, b, c, d⟩
    · exact .inl ⟨a, b.up hX hh, c, d⟩
    · exact .inr ⟨a, σ, s1, by omega, b.up (fun q hq => hX q (by omega)) (Nat.le_refl _), c.up hX hh, d⟩
  | lw =>
    rw [hp] at h
    obtain ⟨τ0, σ, s1, s2, h2, b, c, d⟩ := h
    exact ⟨τ0, σ, s1, by omega, by rw [hX τ0 (by omega)]; exact h2, b.up (fun q hq => hX q (by omega)) (Nat.le_refl _), c.up hX hh, d⟩
  | en =>
    rw [hp] at h
    obtain ⟨τ0, σ, s1, s2, h2, b, c, d⟩ := h
    exact ⟨τ0, σ, s1, by omega, by rw [hX τ0 (by omega)]; exact h2, b.up (fun q hq => hX q (by omega)) (Nat.le_refl _), c.up hX hh, d⟩
/-- A word is read. -/
theorem RdSo.put {v : Int} (h : RdSo X r wh lo t k) (hk : ordW k) (hlo : lo ≤ t) (hv : v = X t k) {k' : Nat} (hk' : k' = if k = 2 then 4 else if k = 4 then 8 else k + 1) : RdSo X (rput r (24 * wh + k) v) wh lo t k' := fun j hj h3 => by
  have := h j hj h3
  have hw : wrd k := by unfold wrd; rcases hk with h | h | h | h | h <;> omega
  have hkk : k < k' := by
    rw [hk']
    split
    · omega
    · split <;> omega
  by_cases e : j = k
  · subst e
    have e2 : rput r (24 * wh + j) v (24 * wh + j) = v := if_pos rfl
    rw [if_pos ⟨hkk, hw⟩, e2]
    exact ⟨t, hlo, Nat.le_refl _, hv⟩
  · have e2 : rput r (24 * wh + k) v (24 * wh + j) = r (24 * wh + j) := if_neg (by omega)
    have hiff : (j < k ∧ wrd j) ↔ (j < k' ∧ wrd j) := by
      unfold wrd
      rw [hk']
      rcases hk with h | h | h | h | h
      · subst h; simp only [show (0:Nat) ≠ 2 by omega, show (0:Nat) ≠ 4 by omega, if_false]; omega
      · subst h; simp only [show (1:Nat) ≠ 2 by omega, show (1:Nat) ≠ 4 by omega, if_false]; omega
      · subst h; simp only [if_true]; omega
      · subst h; simp only [show (4:Nat) ≠ 2 by omega, if_false, if_true]; omega
      · simp only [show k ≠ 2 by omega, show k ≠ 4 by omega, if_false]; omega
    rw [e2]
    split at this
    · rename_i hc
      rw [if_pos (hiff.1 hc)]
      exact this
    · rename_i hc
      rw [if_neg fun h => hc (hiff.2 h)]
      exact this
theorem NoZ.put {v : Int} (h : NoZ r wh k) (hk : ordW k) (hv : ¬ (k = 23 ∨ (8 < k ∧ k % 2 = 1 ∧ v = 0))) {k' : Nat} (hk' : k' = if k = 2 then 4 else if k = 4 then 8 else k + 1) : NoZ (rput r (24 * wh + k) v) wh k' := fun i hi h9 ho => by
  unfold rput
  by_cases e : i = k
  · subst e
    rw [if_pos rfl]
    intro h0
    exact hv (.inr ⟨by omega, ho, h0⟩)
  · rw [if_neg (by omega)]
    refine h i ?_ h9 ho
    rw [hk'] at hi
    split at hi
    · omega
    · split at hi <;> omega
theorem RdSo.all {v : Int} (h : RdSo X r wh lo t k) (hz : NoZ r wh k) (hk : ordW k) (hlo : lo ≤ t) (hv : v = X t k) (hs : k = 23 ∨ (8 < k ∧ k % 2 = 1 ∧ v = 0)) : RdAll X (rput r (24 * wh + k) v) wh lo t := fun j hj h3 => by
  have hr := h.put hk hlo hv (k' := if k = 2 then 4 else if k = 4 then 8 else k + 1) rfl j hj h3
  have h8 : 8 < k := by rcases hs with h | h <;> omega
  rw [if_neg (show ¬ k = 2 by omega), if_neg (show ¬ k = 4 by omega)] at hr
  have hzz : ∀ i, i < k → 9 ≤ i → i % 2 = 1 → rput r (24 * wh + k) v (24 * wh + i) ≠ 0 := fun i hi h9 ho => by
    unfold rput
    rw [if_neg (by omega)]
    exact hz i hi h9 ho
  by_cases hjk : j < k + 1
  · have hn : NoZ (rput r (24 * wh + k) v) wh j := fun i hi h9 ho => hzz i (by omega) h9 ho
    by_cases hw : wrd j
    · rw [if_pos ⟨hjk, hw⟩] at hr
      rw [if_pos ⟨hw, hn⟩]
      exact hr
    · rw [if_neg fun h => hw h.2] at hr
      rw [if_neg fun h => hw h.1]
      exact hr
  · rw [if_neg fun h => hjk h.1] at hr
    rw [if_neg]
    · exact hr
    · rintro ⟨_, hn⟩
      rcases hs with h | ⟨h, ho, h0⟩
      · omega
      · refine hn k (by omega) (by omega) ho ?_
        unfold rput
        rw [if_pos rfl]
        exact h0
end
end Go.Proofs.Yteojhhfcfdkmdaa
/- A snapshot between whose steps somebody stores: its steps, and what it comes to: the node at one moment; plain facts; conditions: within one Count no word comes back. -/
namespace Go.Proofs.Yteojhhfcfdkmdaa
open Go.RowKit
set_option linter.unusedVariables false
section
variable {X : Nat → Nat → Int} {cN : Nat → Nat} {t lo hi k : Nat} {wh : Nat} {r r' : Nat → Int} {S : SS} {lw v : Int}
theorem RdAll.far (h : RdAll X r 0 lo hi) (hr : ∀ j, j < 24 → r' j = r j) : RdAll X r' 0 lo hi := fun j hj h3 => by
  have := h j hj h3
  have e : r' (24 * 0 + j) = r (24 * 0 + j) := by rw [Nat.mul_zero, Nat.zero_add]; exact hr j hj
  have hn : NoZ r 0 j ↔ NoZ r' 0 j := by
    constructor
    · intro hz i hi h9 ho
      rw [Nat.mul_zero, Nat.zero_add, hr i (by omega)]
      have := hz i hi h9 ho
      rwa [Nat.mul_zero, Nat.zero_add] at this
    · intro hz i hi h9 ho
      have := hz i hi h9 ho
      rw [Nat.mul_zero, Nat.zero_add, hr i (by omega)] at this
      rwa [Nat.mul_zero, Nat.zero_add]
  rw [e]
  split at this
  · rename_i hc
    rw [if_pos ⟨hc.1, hn.1 hc.2⟩]
    exact this
  · rename_i hc
    rw [if_neg fun h => hc ⟨h.1, hn.2 h.2⟩]
    exact this
/-- A step, but for the last one. -/
theorem SnIn.step (h : SnIn X t lw S) (hv : S.ph = .bg → v = X t 3) (hr : S.ph = .rd → v = X t S.wd) (hl : S.ph = .lw → v = lw) (he : S.ph ≠ .en) : SnIn X t lw (S.next v 0) := by
  obtain ⟨ph, d, k, a, r, wh, wd, lo, n⟩ := S
  obtain ⟨hd, h⟩ := h
  cases ph with
  | bg =>
    have hv : v = X t 3 := hv rfl
    refine ⟨rfl, t, Nat.le_refl _, hv, .inl rfl, .inl ⟨rfl, fun j hj h3 => ?_, fun i hi => absurd hi (Nat.not_lt_zero _), fun j hj => ?_⟩⟩
    · rw [if_neg fun h => absurd h.1 (Nat.not_lt_zero _)]
      show (if 24 * 0 + j = 3 then v else 0) = 0
      rw [if_neg (by omega)]
    · show (if 24 + j = 3 then v else 0) = 0
      rw [if_neg (by omega)]
  | rd =>
    have hr2 : v = X t wd := hr rfl
    clear hr
    obtain ⟨τ0, h1, h2, ho, h4⟩ := h
    dsimp only at h2 ho h4
    have hw3 : wd ≠ 3 := by rcases ho with h | h | h | h | h <;> omega
    have hw24 : wd < 24 := by rcases ho with h | h | h | h | h <;> omega
    have e3 : ∀ wh, wh = 0 ∨ wh = 1 → rput r (24 * wh + wd) v 3 = r 3 := fun wh hwh => by
      unfold rput
      rw [if_neg (by omega)]
    by_cases hb : (bh wd v).2 = true
    · obtain ⟨e1, hns⟩ := bh_on hb ho
      have hph : rdP ⟨.rd, d, k, a, r, wh, wd, lo, n⟩ v = .rd := if_pos hb
      have hwh : rdWh wh wd v = wh := if_pos hb
      have hk' : ordW (bh wd v).1 := by
        rw [e1]
        unfold ordW
        rcases ho with h | h | h | h | h
        · subst h; simp
        · subst h; simp
        · subst h; simp
        · subst h; simp
        · rw [if_neg (by omega), if_neg (by omega)]
          have : wd ≠ 23 := fun e => hns (.inl e)
          omega
      refine ⟨rfl, ?_⟩
      show (match rdP ⟨.rd, d, k, a, r, wh, wd, lo, n⟩ v with | .bg => True | .rd => _ | .lw => _ | .en => _)
      rw [hph]
      refine ⟨τ0, h1, ?_, hk', ?_⟩
      · show rput r (24 * wh + wd) v 3 = X τ0 3
        rcases h4 with ⟨hw, _⟩ | ⟨hw, _⟩
        · rw [e3 wh (.inl hw)]; exact h2
        · rw [e3 wh (.inr hw)]; exact h2
      · show (rdWh wh wd v = 0 ∧ _) ∨ (rdWh wh wd v = 1 ∧ _)
        rw [hwh]
        rcases h4 with ⟨rfl, hs, hz, h0⟩ | ⟨rfl, σ, s1, s2, ha, hs, hz⟩
        · refine .inl ⟨rfl, hs.put ho h1 hr2 e1, hz.put ho hns e1, fun j hj => ?_⟩
          show (if 24 + j = 24 * 0 + wd then v else r (24 + j)) = 0
          rw [if_neg (by omega)]
          exact h0 j hj
        · refine .inr ⟨rfl, σ, s1, s2, ha.far fun j hj => ?_, hs.put ho s2 hr2 e1, hz.put ho hns e1⟩
          show (if j = 24 * 1 + wd then v else r j) = r j
          rw [if_neg (by omega)]
    · obtain ⟨e1, hs⟩ := bh_off hb
      refine ⟨rfl, ?_⟩
      show (match rdP ⟨.rd, d, k, a, r, wh, wd, lo, n⟩ v with | .bg => True | .rd => _ | .lw => _ | .en => _)
      rcases h4 with ⟨rfl, hso, hz, h0⟩ | ⟨rfl, σ, s1, s2, ha, hso, hz⟩
      · have hph : rdP ⟨.rd, d, k, a, r, 0, wd, lo, n⟩ v = .rd := (if_neg hb).trans (if_pos rfl)
        rw [hph]
        refine ⟨τ0, h1, (e3 0 (.inl rfl)).trans h2, by show ordW (bh wd v).1; rw [e1]; exact .inl rfl, .inr ⟨if_neg hb, t, h1, Nat.le_refl _, hso.all hz ho h1 hr2 hs, fun j hj h3 => ?_, fun i hi => ?_⟩⟩
        · rw [if_neg fun h => ?_]
          · show (if 24 * 1 + j = 24 * 0 + wd then v else r (24 * 1 + j)) = 0
            rw [if_neg (by omega)]
            exact h0 j hj
          · have hlt : j < (bh wd v).1 := h.1
            rw [e1] at hlt
            omega
        · have hlt : i < (bh wd v).1 := hi
          rw [e1] at hlt
          omega
      · have hA : RdAll X (rput r (24 * 1 + wd) v) 0 τ0 σ := ha.far fun j hj => by
          show (if j = 24 * 1 + wd then v else r j) = r j
          rw [if_neg (by omega)]
        have hB := hso.all hz ho s2 hr2 hs
        by_cases h26 : rput r (24 * 1 + wd) v 26 = 0
        · have hph : rdP ⟨.rd, d, k, a, r, 1, wd, lo, n⟩ v = .en := ((if_neg hb).trans (if_neg (show ¬ (1 : Nat) = 0 by decide))).trans (if_pos h26)
          rw [hph]
          exact ⟨τ0, σ, s1, s2, (e3 1 (.inr rfl)).trans h2, hA, hB, fun h => absurd h26 h⟩
        · have hph : rdP ⟨.rd, d, k, a, r, 1, wd, lo, n⟩ v = .lw := ((if_neg hb).trans (if_neg (show ¬ (1 : Nat) = 0 by decide))).trans (if_neg h26)
          rw [hph]
          exact ⟨τ0, σ, s1, s2, (e3 1 (.inr rfl)).trans h2, hA, hB, h26⟩
  | lw =>
    obtain ⟨τ0, σ, s1, s2, h2, ha, hb, h26⟩ := h
    exact ⟨rfl, τ0, σ, s1, s2, h2, ha, hb, fun _ => hl rfl⟩
  | en => exact absurd rfl he
/-- What it comes to. -/
theorem SnIn.fin (H : Hist X cN t) (h : SnIn X t lw S) (hp : S.ph = .en) (hs : sameR (rput S.r 27 (X t 3)) = true) :
    ∃ σ, σ ≤ t ∧ (∀ j, j < 24 → rput S.r 27 (X t 3) (24 + j) = fullC (X σ) (X σ 3) j) ∧ (S.r 26 ≠ 0 → S.lo = lw) := by
  obtain ⟨ph, d, k, a, r, wh, wd, lo, n⟩ := S
  obtain ⟨hd, h⟩ := h
  dsimp only at hp hs ⊢
  subst hp
  obtain ⟨τ0, σ, s1, s2, h2, ha, hb, hlo⟩ := h
  dsimp only at h2 ha hb hlo
  have hsame : ∀ j, j < 24 → rput r 27 (X t 3) j = rput r 27 (X t 3) (24 + j) := fun j hj => by
    unfold sameR at hs
    rw [List.all_eq_true] at hs
    have := hs j (List.mem_range.2 hj)
    simpa using this
  have h3 : X τ0 3 = X t 3 := by
    have h4 := hsame 3 (by omega)
    have e1 : rput r 27 (X t 3) 3 = r 3 := if_neg (by omega)
    have e2 : rput r 27 (X t 3) (24 + 3) = X t 3 := if_pos rfl
    rw [e1, e2] at h4
    exact h2.symm.trans h4
  have hct := H.eqc τ0 t (by omega) (Nat.le_refl _) h3
  have hcon : ∀ c, τ0 ≤ c → c ≤ t → cN c = cN τ0 := fun c h4 h5 => by
    have h6 := H.mono τ0 c h4 h5
    have h7 := H.mono c t h5 (Nat.le_refl _)
    omega
  have hrr : ∀ j, j < 24 → j ≠ 3 → r j = r (24 + j) := fun j hj hj3 => by
    have h4 := hsame j hj
    have e1 : rput r 27 (X t 3) j = r j := if_neg (by omega)
    have e2 : rput r 27 (X t 3) (24 + j) = r (24 + j) := if_neg (by omega)
    rw [e1, e2] at h4
    exact h4
  have hz : ∀ j, j ≤ 24 → (NoZ r 0 j ↔ NoZ r 1 j) := fun j hj => by
    constructor
    · intro hn i hi h9 ho
      have := hn i hi h9 ho
      rw [Nat.mul_zero, Nat.zero_add, hrr i (by omega) (by omega)] at this
      rwa [Nat.mul_one]
    · intro hn i hi h9 ho
      have := hn i hi h9 ho
      rw [Nat.mul_one] at this
      rwa [Nat.mul_zero, Nat.zero_add, hrr i (by omega) (by omega)]
  have hval : ∀ j, j < 24 → j ≠ 3 → wrd j → NoZ r 1 j → r (24 + j) = X σ j := fun j hj hj3 hw hn => by
    have h4 := ha j hj hj3
    rw [if_pos ⟨hw, (hz j (by omega)).2 hn⟩, Nat.mul_zero, Nat.zero_add] at h4
    have h5 := hb j hj hj3
    rw [if_pos ⟨hw, hn⟩, Nat.mul_one] at h5
    obtain ⟨T0, a1, a2, a3⟩ := h4
    obtain ⟨T1, b1, b2, b3⟩ := h5
    have he : X T0 j = X T1 j := by rw [← a3, ← b3]; exact hrr j hj hj3
    have hc : cN T0 = cN T1 := by rw [hcon T0 a1 (by omega), hcon T1 (by omega) b2]
    have := H.once T0 T1 (by omega) b2 hc j hj he σ a2 b1
    rw [this, ← a3]
    exact (hrr j hj hj3).symm
  have hfull : ∀ j, j ≤ 24 → (NoZ r 1 j ↔ fullTo (X σ) j) := fun j hj => by
    constructor
    · intro hn i hi h9 ho
      rw [← hval i (by omega) (by omega) (by unfold wrd; omega) fun q hq => hn q (by omega)]
      have := hn i hi h9 ho
      rwa [Nat.mul_one] at this
    · intro hf
      have hind : ∀ m, m ≤ j → NoZ r 1 m := by
        intro m
        induction m with
        | zero => intro _ i hi; exact absurd hi (Nat.not_lt_zero _)
        | succ m ih =>
          intro hm i hi h9 ho
          by_cases e : i < m
          · exact ih (by omega) i e h9 ho
          · obtain rfl : i = m := by omega
            rw [Nat.mul_one, hval i (by omega) (by omega) (by unfold wrd; omega) (ih (by omega))]
            exact hf i (by omega) h9 ho
      exact hind j (Nat.le_refl _)
  refine ⟨σ, s2, fun j hj => ?_, hlo⟩
  unfold fullC
  by_cases hj3 : j = 3
  · subst hj3
    have e2 : rput r 27 (X t 3) (24 + 3) = X t 3 := if_pos rfl
    rw [if_pos rfl, e2, ← h3]
    exact (H.once τ0 t (by omega) (Nat.le_refl _) hct 3 (by omega) h3 σ s1 s2).symm
  · have e2 : rput r 27 (X t 3) (24 + j) = r (24 + j) := if_neg (by omega)
    rw [if_neg hj3, e2]
    unfold full
    by_cases hc : wrd j ∧ NoZ r 1 j
    · rw [if_pos ⟨hc.1, (hfull j (by omega)).1 hc.2⟩]
      exact hval j hj hj3 hc.1 hc.2
    · rw [if_neg fun h => hc ⟨h.1, (hfull j (by omega)).2 h.2⟩]
      have h5 := hb j hj hj3
      rw [if_neg hc, Nat.mul_one] at h5
      exact h5
end
end Go.Proofs.Yteojhhfcfdkmdaa
/- Plain facts of a run's steps: the memory stays such as one can be, the run may go on; what is new stays new. -/
namespace Go.Proofs.Yteojhhfcfdkmdaa
open Go.RowKit Go.Shelf
set_option linter.unusedVariables false

theorem RnRS.Good.line_lt {r : RnRS} {s : St} (g : r.Good s.nl) (hp : s.pend.length = s.nl) {a v : Nat} {t : List (Nat × Nat)} (hl : r.left = (a, v) :: t) : a / 64 < s.pend.length := by
  have := (g.pu (a, v) (by rw [hl]; exact List.mem_cons_self)).2.1
  rw [hp]
  omega
theorem mem_Ok {r : RnRS} {s : St} {i : Nat} (ok : s.Ok) (hs : Small s i) (hi : i ≤ 1000) (hp : s.pend.length = s.nl) (g : r.Good s.nl) : (r.mem s).Ok := by
  unfold RnRS.mem
  split
  · split
    · exact ok
    · rename_i a v t hl
      have h1 := g.pu (a, v) (by rw [hl]; exact List.mem_cons_self)
      have h2 := g.line_lt hp hl
      refine store_Ok ok h1.1 h2 h1.2.2 (by have := hs.st; omega) ?_
      rw [getD_at h2]
      have := hs.pe _ (List.getElem_mem h2)
      omega
  · exact flush_Ok ok (by have := hs.fl; omega)
  · exact fence_Ok ok (by have := hs.fe; omega)
  · exact ok
theorem mem_nl (r : RnRS) (s : St) : (r.mem s).nl = s.nl := by
  unfold RnRS.mem
  split
  · split <;> rfl
  · rfl
  · rfl
  · rfl
theorem Small.mono {s : St} {i j : Nat} (h : Small s i) (hij : i ≤ j) : Small s j := ⟨Nat.le_trans h.st hij, Nat.le_trans h.fl hij, Nat.le_trans h.fe hij, fun l hl => Nat.le_trans (h.pe l hl) hij⟩
theorem mem_Small {r : RnRS} {s : St} {i : Nat} (hs : Small s i) : Small (r.mem s) (i + 1) := by
  unfold RnRS.mem
  split
  · split
    · exact hs.mono (by omega)
    · rename_i a v t hl
      refine ⟨Nat.succ_le_succ hs.st, Nat.le_succ_of_le hs.fl, Nat.le_succ_of_le hs.fe, fun l h => ?_⟩
      have h' : l ∈ s.pend.set (a / 64) (s.pend.getD (a / 64) [] ++ [(a, v)]) := h
      rcases List.mem_or_eq_of_mem_set h' with h2 | rfl
      · exact Nat.le_succ_of_le (hs.pe l h2)
      · rw [List.length_append, List.getD_eq_getElem?_getD]
        cases e : s.pend[a / 64]? with
        | none => simp
        | some m => exact Nat.succ_le_succ (hs.pe m (List.mem_of_getElem? e))
  · exact ⟨Nat.le_succ_of_le hs.st, Nat.succ_le_succ hs.fl, Nat.le_succ_of_le hs.fe, fun l h => Nat.le_succ_of_le (hs.pe l h)⟩
  · refine ⟨Nat.le_succ_of_le hs.st, Nat.le_succ_of_le hs.fl, Nat.succ_le_succ hs.fe, fun l h => ?_⟩
    have h' : l ∈ s.pend.mapIdx fun j l => if (fun _ : Nat => true) j = true then l.drop (s.mm j r.c.toNat) else l := h
    rw [List.mem_mapIdx] at h'
    obtain ⟨j, hj, rfl⟩ := h'
    have := hs.pe _ (List.getElem_mem hj)
    simp only [if_true, List.length_drop]
    omega
  · exact hs.mono (by omega)
theorem next_Good {r : RnRS} {nl : Nat} (g : r.Good nl) (hd : r.next.done = false) : r.next.Good nl := by
  obtain ⟨c, left, line, ph, done, code⟩ := r
  obtain ⟨gc0, gc1, gdn, gcd, glf, gpu, gl8, gl64⟩ := g
  cases ph with
  | st =>
    cases left with
    | nil => exact absurd rfl (glf rfl)
    | cons av t =>
      obtain ⟨a, v⟩ := av
      have ha := gpu (a, v) List.mem_cons_self
      refine ⟨gc0, gc1, gdn, gcd, ?_, fun p hp => gpu p (List.mem_cons_of_mem _ hp), ?_, ?_⟩
      · intro h
        have h' : (if ends a t then Ph.fl else Ph.st) = .st := h
        intro h0
        have h0' : t = [] := h0
        subst h0'
        cases h'
      · show a / 64 * 64 % 8 = 0
        omega
      · show a / 64 * 64 < 64 * nl
        have := ha.2.1
        dsimp only at this
        omega
  | fl => exact ⟨gc0, gc1, gdn, gcd, (fun h => by cases h), gpu, gl8, gl64⟩
  | fe =>
    refine ⟨gc0, gc1, hd, gcd, fun _ => ?_, gpu, gl8, gl64⟩
    have h' : left.isEmpty = false := hd
    intro h0
    have h0' : left = [] := h0
    subst h0'
    cases h'
  | en => cases hd
theorem new_Good {c : Int} {l : List (Nat × Nat)} {nl : Nat} (c0 : 0 ≤ c) (c1 : c ≤ 64) (hn : 0 < nl) (pu : ∀ p ∈ l, p.1 % 8 = 0 ∧ p.1 < 64 * nl ∧ p.2 < 18446744073709551616) : (RnRS.new c l).Good nl := by
  refine ⟨c0, c1, rfl, rfl, fun h h0 => ?_, pu, rfl, by show 0 < _; omega⟩
  have h0' : l = [] := h0
  unfold RnRS.new at h
  rw [if_pos h0'] at h
  cases h
theorem zero_Small (nl : Nat) : Small (St.zero nl) 0 := ⟨Nat.le_refl _, Nat.le_refl _, Nat.le_refl _, fun l hl => by
  have h' : l ∈ List.replicate nl ([] : List (Nat × Nat)) := hl
  rw [List.eq_of_mem_replicate h']
  exact Nat.le_refl _⟩

/-- All that there is of a memory and a run is new since w. -/
structure Fresh (w w' : World) (y : Lay) (rg : Nat) : Prop where
  low : Below w.heap.size w w'
  fp : ∀ k, y.fp k → w.heap.size ≤ k
  rg : w.heap.size ≤ rg
theorem Fresh.step {w w1 w2 : World} {y y' : Lay} {rg : Nat} (h : Fresh w w1 y rg) (T : RT w1 w2 y y' rg) : Fresh w w2 y' rg :=
  ⟨h.low.trans (T.but.below h.low.size fun k hk => by
    rcases hk with hk | rfl
    · exact h.fp k hk
    · exact h.rg), fun k hk => by
    rcases T.fp k hk with h1 | h1
    · exact h.fp k h1
    · exact Nat.le_trans h.low.size h1, h.rg⟩
theorem Fresh.below {w w1 w2 : World} {y : Lay} {rg : Nat} (h : Fresh w w1 y rg) (hb : Below w1.heap.size w1 w2) : Fresh w w2 y rg := ⟨h.low.trans (hb.mono h.low.size), h.fp, h.rg⟩
theorem RunOn.below {w w' : World} {y : Lay} {rg : Nat} {r : RnRS} {V : Value} (h : RunOn w y rg r V) (hb : Below w.heap.size w w') : RunOn w' y rg r V :=
  ⟨⟨h.run.row.below hb h.run.row.lt, h.run.ah.below hb⟩, h.sep, h.vsep⟩
/-- A run anew beside a memory that lay ahead of it. -/
theorem RunOn.new {w w' : World} {y : Lay} {s : St} {rg : Nat} {c : Int} {l : List (Nat × Nat)} {V : Value} (hm : MemAt w y s) (hr : RunAt w' rg (some ⟨y.g, 0, none⟩) (RnRS.new c l) V) (hg : w.heap.size ≤ rg) (hv : ∀ k, V.ownBlock = some k → l ≠ [] → w.heap.size ≤ k ∧ k ≠ rg) : RunOn w' y rg (RnRS.new c l) V :=
  ⟨hr, fun hf => by have := hm.lt _ hf; omega, fun b hb h0 => ⟨fun hf => by have := hm.lt _ hf; have := (hv b hb h0).1; omega, (hv b hb h0).2⟩⟩
end Go.Proofs.Yteojhhfcfdkmdaa
/- A snapshot in a memory in which nobody stores: its steps, its node, its high bound; conditions: its state is such as it can have. -/
namespace Go.Proofs.Yteojhhfcfdkmdaa
open Go.RowKit
set_option linter.unusedVariables false
structure SnAt (W0 wr : World) (y : Lay) (g : Nat) (s s' : St) (n : Nat) (S : SS) : Prop where
  ex : ∃ y', MemAt wr y' s' ∧ RT W0 wr y y' g
  sn : SnapAt wr g (some ⟨y.g, 0, none⟩) S
  nls : s'.nl = s.nl
  vw : s'.view = s.view
  lds : Lds s.nl n s'
  sep : ¬ y.fp g
  lt : g < W0.heap.size
theorem sn_sep {W0 wr : World} {y y' : Lay} {g : Nat} (h : RT W0 wr y y' g) (sep : ¬ y.fp g) (lt : g < W0.heap.size) : ¬ y'.fp g := fun hf => by
  rcases h.fp g hf with h1 | h1
  · exact sep h1
  · omega
section
variable {W0 wr : World} {y : Lay} {g n : Nat} {s s' : St} {S : SS}
theorem SnAt.below (h : SnAt W0 wr y g s s' n S) {W : World} (hb : Below wr.heap.size wr W) : SnAt W0 W y g s s' n S := by
  obtain ⟨⟨y', hm, ht⟩, ⟨cs, hr, hs⟩, h3, h4, h5, h6, h7⟩ := h
  exact ⟨⟨y', hm.below hb, ht.trans (RT.of_below y' g hb)⟩, ⟨cs, hr.below hb hr.lt, hs⟩, h3, h4, h5, h6, h7⟩
theorem SnAt.val (h : SnAt W0 wr y g s s' n S) (A : Nat) : ldV s' A = ldV s A ∧ ldK s' A = ldK s A := by
  unfold ldV ldK
  rw [h.nls, h.vw]
  exact ⟨rfl, rfl⟩
theorem SnAt.step (h : SnAt W0 wr y g s s' n S) (hn : n ≤ 1000000) (G : S.Good) :
    Calls Try.prog 12 #[.pointer (some ⟨g, 0, none⟩)] wr fun e w' => e = .returned (.tuple #[.bool (S.go (ldV s) (ldK s)).d, .int .i64 (S.go (ldV s) (ldK s)).k]) ∧ SnAt W0 w' y g s (ldS s' S.ask) (n + 1) (S.go (ldV s) (ldK s)) := by
  have hv := h.val S.ask
  obtain ⟨⟨y', hm, ht⟩, hsn, h3, h4, h5, h6, h7⟩ := h
  rw [← ht.g] at hsn
  refine (sstep_any hm h5.ok hsn (sn_sep ht h6 h7) G).mono ?_
  rintro e w' ⟨rfl, y2, hm2, hsn2, ht2⟩
  rw [hv.1, hv.2] at hsn2 ⊢
  rw [ht.g] at hsn2
  refine ⟨rfl, ⟨y2, hm2, ht.trans ht2⟩, hsn2, ?_, ?_, h5.load hn _, h6, h7⟩
  · unfold ldS
    split <;> exact h3
  · unfold ldS
    split <;> exact h4
theorem SnAt.stepK (h : SnAt W0 wr y g s s' n S) (hn : n ≤ 1000000) (G : S.Good) {w : World} (hb : Below wr.heap.size wr w) :
    Calls Try.prog 12 #[.pointer (some ⟨g, 0, none⟩)] w fun e w' => e = .returned (.tuple #[.bool (S.go (ldV s) (ldK s)).d, .int .i64 (S.go (ldV s) (ldK s)).k]) ∧ SnAt W0 w' y g s (ldS s' S.ask) (n + 1) (S.go (ldV s) (ldK s)) ∧ ∀ k, wr.heap.size ≤ k → k < w.heap.size → w'.heap[k]? = w.heap[k]? := by
  have hv := h.val S.ask
  obtain ⟨⟨y', hm, ht⟩, ⟨cs, hr, hs⟩, h3, h4, h5, h6, h7⟩ := h
  have hlt := hm.lt
  have hglt := hr.lt
  have hsn : SnapAt w g (some ⟨y.g, 0, none⟩) S := ⟨cs, hr.below hb hr.lt, hs⟩
  rw [← ht.g] at hsn
  refine (sstep_any (hm.below hb) h5.ok hsn (sn_sep ht h6 h7) G).mono ?_
  rintro e w' ⟨rfl, y2, hm2, hsn2, ht2⟩
  rw [hv.1, hv.2] at hsn2 ⊢
  rw [ht.g] at hsn2
  refine ⟨rfl, ⟨⟨y2, hm2, (ht.trans (RT.of_below y' g hb)).trans ht2⟩, hsn2, ?_, ?_, h5.load hn _, h6, h7⟩, fun k hk hk' => ht2.but.block k hk' (fun e => ?_)⟩
  · unfold ldS
    split <;> exact h3
  · unfold ldS
    split <;> exact h4
  · rcases e with e | e
    · have := hlt k e
      omega
    · omega
theorem ldS_num (s : St) (A : Nat) : (ldS s A).st = s.st ∧ (ldS s A).fl = s.fl ∧ (ldS s A).fe = s.fe ∧ s.ld ≤ (ldS s A).ld ∧ (ldS s A).ld ≤ s.ld + 1 := by
  unfold ldS
  split
  · exact ⟨rfl, rfl, rfl, Nat.le_succ _, Nat.le_refl _⟩
  · exact ⟨rfl, rfl, rfl, Nat.le_refl _, Nat.le_succ _⟩
theorem SnAt.refusal (h : SnAt W0 wr y g s s' n S) (h0 : 0 < s.nl) : ∀ W, Below wr.heap.size wr W → Calls Try.prog 33 #[.pointer (some ⟨g, 0, none⟩)] W fun e w' => e = .returned (.int .i64 (if S.d = true then S.k else 7)) ∧ W = w' := by
  intro W hb
  obtain ⟨⟨y', hm, ht⟩, ⟨cs, hr, hs⟩, h3, h4, h5, h6, h7⟩ := h.below hb
  have hz := size_yes hm
  rw [ht.g] at hz
  have := snRefusal_any hr hs.c0 hs.c1 hs.c2 hs.c3 hz
  have e : refK false S.d S.k ((64 * s'.nl : Nat) : Int) = if S.d = true then S.k else 7 := by
    unfold refK
    rw [if_neg (by simp)]
    split
    · rfl
    · rw [if_neg (by rw [h3]; omega)]
  rw [e] at this
  exact this
theorem SnAt.node (h : SnAt W0 wr y g s s' n S) (h0 : 0 < s.nl) : ∀ W, Below wr.heap.size wr W → Calls Try.prog 13 #[.pointer (some ⟨g, 0, none⟩)] W fun e w' => e = .returned (.tuple #[S.n.V, .int .i64 (if S.d = true then S.k else 7)]) ∧ Below W.heap.size W w' := by
  intro W hb
  have h' := h.below hb
  have hrf := h'.refusal h0
  obtain ⟨_, ⟨cs, hr, hs⟩, _, _, _, _, _⟩ := h'
  exact snNode_any hr hs hrf
theorem SnAt.high (h : SnAt W0 wr y g s s' n S) (h0 : 0 < s.nl) : ∀ W, Below wr.heap.size wr W → Calls Try.prog 14 #[.pointer (some ⟨g, 0, none⟩)] W fun e w' => e = .returned (.tuple #[.int .u64 (hiV (if S.d = true then S.k else 7) S.lo S.n), .bool (hiB (if S.d = true then S.k else 7) S.n)]) ∧ Below W.heap.size W w' := by
  intro W hb
  have h' := h.below hb
  obtain ⟨_, ⟨cs, hr, hs⟩, _, _, _, _, _⟩ := h'
  exact snHigh_of ((h.below hb).node h0 W (Below.refl _ _)) (fun _ => ⟨g, rfl, (hr.cell 55).trans hs.cl⟩)
theorem SnAt.nodeD (h : SnAt W0 wr y g s s' n S) (h0 : 0 < s.nl) {k : Int} {N : Nd} (hd : S.d = true) (hk : S.k = k) (hN : S.n = N) : ∀ W, Below wr.heap.size wr W → Calls Try.prog 13 #[.pointer (some ⟨g, 0, none⟩)] W fun e w' => e = .returned (.tuple #[N.V, .int .i64 k]) ∧ Below W.heap.size W w' := by
  intro W hb
  have := h.node h0 W hb
  rw [if_pos hd, hk, hN] at this
  exact this
theorem SnAt.high0 (h : SnAt W0 wr y g s s' n S) (h0 : 0 < s.nl) {k : Int} {N : Nd} (hd : S.d = true) (hk : S.k = k) (hN : S.n = N) (hx : k ≠ 0 ∨ N.nx = 0) : ∀ W, Below wr.heap.size wr W → Calls Try.prog 14 #[.pointer (some ⟨g, 0, none⟩)] W fun e w' => e = .returned (.tuple #[.int .u64 0, .bool false]) ∧ Below W.heap.size W w' := by
  intro W hb
  have := h.high h0 W hb
  have hn : ¬ (k = 0 ∧ N.nx ≠ 0) := fun ⟨a, b⟩ => hx.elim (fun h => h a) (fun h => b h)
  rw [if_pos hd, hk, hN] at this
  unfold hiV hiB at this
  rw [if_neg hn, if_neg hn] at this
  exact this
theorem SnAt.high1 (h : SnAt W0 wr y g s s' n S) (h0 : 0 < s.nl) {N : Nd} {lo : Int} (hd : S.d = true) (hk : S.k = 0) (hN : S.n = N) (hx : N.nx ≠ 0) (hlo : S.lo = lo) : ∀ W, Below wr.heap.size wr W → Calls Try.prog 14 #[.pointer (some ⟨g, 0, none⟩)] W fun e w' => e = .returned (.tuple #[.int .u64 lo, .bool true]) ∧ Below W.heap.size W w' := by
  intro W hb
  have := h.high h0 W hb
  rw [if_pos hd, hk, hN, hlo] at this
  unfold hiV hiB at this
  rw [if_pos ⟨rfl, hx⟩, if_pos ⟨rfl, hx⟩] at this
  exact this
/-- What lies elsewhere stays. -/
theorem SnAt.keep (h : SnAt W0 wr y g s s' n S) {k : Nat} (hk : k < W0.heap.size) (h1 : ¬ y.fp k) (h2 : k ≠ g) : wr.heap[k]? = W0.heap[k]? := by
  obtain ⟨⟨y', hm, ht⟩, _, _, _, _, _, _⟩ := h
  exact ht.but.block k hk (fun e => e.elim h1 h2)
theorem SnAt.low (h : SnAt W0 wr y g s s' n S) {B : Nat} (hB : B ≤ W0.heap.size) (h1 : ∀ k, y.fp k → B ≤ k) (h2 : B ≤ g) : Below B W0 wr := by
  obtain ⟨⟨y', hm, ht⟩, _, _, _, _, _, _⟩ := h
  exact ht.but.below hB (fun k hk => hk.elim (h1 k) (fun e => by omega))
/-- Where the memory lies now. -/
theorem SnAt.now (h : SnAt W0 wr y g s s' n S) : ∃ y', MemAt wr y' s' ∧ y'.g = y.g ∧ ∀ k, y'.fp k → y.fp k ∨ W0.heap.size ≤ k := by
  obtain ⟨⟨y', hm, ht⟩, _, _, _, _, _, _⟩ := h
  exact ⟨y', hm, ht.g, ht.fp⟩
theorem ldV_in (ok : s.Ok) (A : Nat) : 0 ≤ ldV s A ∧ ldV s A < 18446744073709551616 := by
  unfold ldV
  split
  · rw [List.getD_eq_getElem?_getD]
    cases e : s.view[A / 8]? with
    | none => exact ⟨by simp, by simp⟩
    | some x =>
      have := ok.vie x (List.mem_of_getElem? e)
      simp only [Option.getD_some]
      omega
  · omega
theorem ldK_is (s : St) (A : Nat) : ldK s A = 0 ∨ ldK s A = 3 := by
  unfold ldK
  split <;> simp
end
/-- As long as it isn't done. -/
theorem it_good {V K : Nat → Int} (hV : ∀ A, 0 ≤ V A ∧ V A < 18446744073709551616) {S : SS} (G : S.Good) : ∀ t, (∀ u, u ≤ t → (SS.it V K u S).d = false) → (SS.it V K t S).Good
  | 0, _ => G
  | t + 1, h => by
    have := it_good hV G t (fun u hu => h u (by omega))
    exact SS.next_good this (hV _) (h (t + 1) (Nat.le_refl _))
theorem next_k {S : SS} {v kk : Int} (h : (S.next v kk).d = false) : (S.next v kk).k = 0 := by
  obtain ⟨ph, d, k, a, r, wh, wd, lo, n⟩ := S
  cases ph with
  | bg => simpa [SS.next] using h
  | rd => simpa [SS.next] using h
  | lw => simpa [SS.next] using h
  | en =>
    simp only [SS.next, Bool.or_eq_false_iff] at h ⊢
    simpa using h.2
/-- A new snapshot in a memory. -/
theorem SnAt.new {w : World} {y : Lay} {s : St} {n a : Nat} (hm : MemAt w y s) (hl : Lds s.nl n s) : 
    SnAt (w.alloc (.cells (zeroS (some ⟨y.g, 0, none⟩) (nextV 28 w.heap.size) a).toArray 80)) (w.alloc (.cells (zeroS (some ⟨y.g, 0, none⟩) (nextV 28 w.heap.size) a).toArray 80)) y w.heap.size s s n (SS.new a) :=
  ⟨⟨y, hm.below (alloc_below _ _), RT.of_below y _ (Below.refl _ _)⟩, ⟨_, Row.new _ _ _, zeroS_is _ _ _⟩, rfl, rfl, hl, fun hf => by have := hm.lt _ hf; omega, by simp⟩
end Go.Proofs.Yteojhhfcfdkmdaa
/- The chapter's row, of the law; no conditions. -/
namespace Go.Proofs.Yteojhhfcfdkmdaa
open Go.RowKit
set_option linter.unusedVariables false
attribute [local go_sem] Oper.semAt_some
theorem show_loadN {P : Program} {ops : Array Oper} {rest : List Oper} {Q : Exit → Act → World → Prop} {d : Option Nat} {t2 : TypeId} {x : Operand} {ps : String} {af : Array Edge} {g : Option (Nat × Bool)} {a : Act} {w : World} (h : wpList P ops Q (⟨d, .load 27 x, t2, ps, af, g⟩ :: rest) a w) : wpList P ops Q (⟨d, .load 27 x, t2, ps, af, g⟩ :: rest) a w := h
theorem show_storeN {P : Program} {ops : Array Oper} {rest : List Oper} {Q : Exit → Act → World → Prop} {d : Option Nat} {t2 : TypeId} {x y : Operand} {ps : String} {af : Array Edge} {a : Act} {w : World} (h : wpList P ops Q (⟨d, .store 27 x y, t2, ps, af, none⟩ :: rest) a w) : wpList P ops Q (⟨d, .store 27 x y, t2, ps, af, none⟩ :: rest) a w := h
def kb0 : Nd := ⟨0, 0, 0, 0, 1088, 0, 0, 0, 0, 0, 0, 0, 0, 0, 0, 0, 0, 0, 0, 0, 0⟩
/-- The row's node. -/
def kn0 : Nd := ⟨0, 0, 0, 0, 1088, 5, 9, 0, 0, 0, 0, 0, 0, 2112, 2176, 0, 0, 0, 0, 0, 0⟩
theorem kn0_set {W : World} {b : Nat} (h : NdAt W b kb0) : NdAt ((((W.setCell ⟨b, 5, none⟩ (.int .u64 5)).setCell ⟨b, 13, none⟩ (.int .u64 2112)).setCell ⟨b, 6, none⟩ (.int .u64 9)).setCell ⟨b, 14, none⟩ (.int .u64 2176)) b kn0 :=
  (((h.set 5 (.int .u64 5)).set 13 (.int .u64 2112)).set 6 (.int .u64 9)).set 14 (.int .u64 2176)
theorem kn0_words : (∀ i, i < 24 → 0 ≤ wAt (wi kn0) i ∧ wAt (wi kn0) i < 18446744073709551616) := by decide
theorem kn0_len : kn0.len = 2 := by decide
theorem kn0_tr : kn0.tr 3 2 = kn0 := rfl
/-- What a snapshot of a node that was laid comes to. -/
theorem laid_snap {n : Nd} (hw : ∀ i, i < 24 → 0 ≤ wAt (wi n) i ∧ wAt (wi n) i < 18446744073709551616) {low : Int} (hl : 0 ≤ low ∧ low < 18446744073709551616) (hv : isLv n = true) (hx : n.nx = 0 ∨ n.nx = 1280) :
    ∃ T S', 1 ≤ T ∧ T ≤ 60 ∧ Goes (ldV (laidM n low)) (ldK (laidM n low)) (SS.new 1088) T S' ∧ S'.d = true ∧ S'.k = 0 ∧ S'.n = n.tr (n.len + 1) n.len ∧ (n.nx ≠ 0 → S'.lo = low) := by
  obtain ⟨h1, h2, h3, h4⟩ := laid_V hw hl
  have hw2 : wAt (wi n) 2 = n.nx := by unfold wi; rw [if_pos hv]; rfl
  obtain ⟨T, S', t1, t2, hG, hd, hr⟩ := sn_alone (V := ldV (laidM n low)) (K := ldK (laidM n low)) (ldK_is _) 1088
  refine ⟨T, S', t1, t2, hG, hd, ?_⟩
  rcases hr with ⟨_, _, hb⟩ | ⟨e1, e2, e3, _⟩
  · exfalso
    rcases hb with ⟨k, hk, e⟩ | ⟨e, e'⟩
    · rw [h3 k hk] at e
      cases e
    · rw [h1 2 (by omega), hw2] at e e'
      rcases hx with hx | hx
      · exact e hx
      · rw [hx, show (1280 : Int).toNat = 1280 from rfl, h4] at e'
        cases e'
  · have hR := ofR_full (x := wi n) (W := fun i => ldV (laidM n low) (snWordAt 1088 i)) h1
    rw [(wi_of n).2, if_pos hv] at hR
    rw [hR] at e1 e2
    refine ⟨e1, e2, fun h => ?_⟩
    rw [e3 (by rw [h1 2 (by omega), hw2]; exact h), h1 2 (by omega), hw2]
    rcases hx with hx | hx
    · exact absurd hx h
    · rw [hx]
      exact h2
set_option maxRecDepth 100000 in
set_option maxHeartbeats 400000 in
theorem known11_any (w : World) : Calls Try.prog 7 #[] w fun e w' => e = .returned (.bool true) ∧ Below w.heap.size w w' := by
  have hl0 : (0 : Int) ≤ 0 ∧ (0 : Int) < 18446744073709551616 := by omega
  obtain ⟨T, S', t1, t2, hG, hd, hk, hn, _⟩ := laid_snap kn0_words hl0 (by decide) (.inl rfl)
  rw [kn0_len, kn0_tr] at hn
  have HLD := Lib.hid fun W => laid11_any kn0 0 kn0_words hl0 W
  have HLds := Lib.hid (laidM_Lds kn0_words hl0)
  obtain ⟨N, hN⟩ : ∃ N, N = kn0 := ⟨_, rfl⟩
  have hNx : N.nx = 0 := by rw [hN]; rfl
  have HSET := Lib.hid (show ∀ (W : World) (b : Nat), NdAt W b kb0 → NdAt ((((W.setCell ⟨b, 5, none⟩ (.int .u64 5)).setCell ⟨b, 13, none⟩ (.int .u64 2112)).setCell ⟨b, 6, none⟩ (.int .u64 9)).setCell ⟨b, 14, none⟩ (.int .u64 2176)) b N from by rw [hN]; exact fun _ _ h => kn0_set h)
  rw [← hN] at hG hn HLD HLds
  obtain ⟨s, hs⟩ : ∃ s, s = laidM N 0 := ⟨_, rfl⟩
  rw [← hs] at hG HLD HLds
  have HG := Lib.hid hG
  have HD := Lib.hid hd
  have HK := Lib.hid hk
  have HNn := Lib.hid hn
  have HX := Lib.hid hNx
  have HQ := fun W => eq_node N W
  clear hG hd hk hn hN hs hNx
  go_enter Try.func7, Try.ntmps7
  go_wp2_with (first
    | ((with_reducible refine show_storeN ?_); refine wpList_store_row rfl _ _ _ rfl w.heap.size kb0.cl rfl rfl (Row.new w 27 zeroNd.cl.toArray) rfl ndI (cl_one _) ?_; obtain ⟨W2, hW2, hn2, hb2⟩ := store_gen11 w kb0; rw [← hW2]; have HB2 := Lib.hid hb2; have c5 : W2.cell? ⟨w.heap.size, 5, none⟩ = some (.int .u64 0) := ndAt_at hn2 5; have c6 : W2.cell? ⟨w.heap.size, 6, none⟩ = some (.int .u64 0) := ndAt_at hn2 6; have c13 : W2.cell? ⟨w.heap.size, 13, none⟩ = some (.int .u64 0) := ndAt_at hn2 13; have c14 : W2.cell? ⟨w.heap.size, 14, none⟩ = some (.int .u64 0) := ndAt_at hn2 14; have f5 := hn2.free 5; have f6 := hn2.free 6; have f13 := hn2.free 13; have f14 := hn2.free 14; have HN3 := Lib.hid (HSET.out _ _ hn2); clear hW2 hn2 hb2)
    | ((with_reducible refine show_loadN ?_); refine wpList_load_mid rfl _ _ rfl w.heap.size 0 rfl N.cl _ (ndR HN3.out) Try.underlying27 rfl ndI ?_; obtain ⟨W3, hW3⟩ : ∃ W3, W3 = (((W2.setCell ⟨w.heap.size, 5, none⟩ (.int .u64 5)).setCell ⟨w.heap.size, 13, none⟩ (.int .u64 2112)).setCell ⟨w.heap.size, 6, none⟩ (.int .u64 9)).setCell ⟨w.heap.size, 14, none⟩ (.int .u64 2176) := ⟨_, rfl⟩; rw [← hW3] at HN3 ⊢; have HB3 := Lib.hid (show Below w.heap.size w W3 by rw [hW3]; exact (((HB2.out.setCell (p := ⟨w.heap.size, 5, none⟩) (Nat.le_refl _) _).setCell (p := ⟨w.heap.size, 13, none⟩) (Nat.le_refl _) _).setCell (p := ⟨w.heap.size, 6, none⟩) (Nat.le_refl _) _).setCell (p := ⟨w.heap.size, 14, none⟩) (Nat.le_refl _) _); clear hW3 c5 c6 c13 c14 f5 f6 f13 f14)
    | (go_at_call 5; refine (HLD.out _).mono ?_; rintro e w4 ⟨y, rfl, hm, hf, hb4⟩; have HM := Lib.hid hm; have HF := Lib.hid hf; have HB4 := Lib.hid hb4; clear hm hf hb4)
    | (go_at_call 9; refine (snNew_any _ 1088 _).mono ?_; rintro e w5 ⟨rfl, hw5⟩; have HS5 := Lib.hid (show SnAt w5 w5 y w4.heap.size s s 55 (SS.new 1088) from by rw [← hw5]; exact SnAt.new HM.out (by rw [HLds.out.nls]; exact HLds.out)); have HB5 := Lib.hid (show Below w4.heap.size w4 w5 from by rw [← hw5]; exact alloc_below _ _); obtain ⟨g5, hg5⟩ : ∃ g5, g5 = w4.heap.size := ⟨_, rfl⟩; rw [← hg5] at HS5 ⊢; have HG5 := Lib.hid hg5; clear hw5 hg5)
    | (go_at_call 13; refine (show Calls Try.prog 13 #[.pointer (some ⟨g5, 0, none⟩)] w5 fun e w' => e = .returned (.tuple #[zeroNd.V, .int .i64 7]) ∧ Below w5.heap.size w5 w' from HS5.out.node (by rw [HLds.out.nls]; decide) w5 (Below.refl _ _)).mono ?_; rintro e w6 ⟨rfl, hb6⟩; have HB6 := Lib.hid hb6; clear hb6)
    | ((with_reducible refine show_storeN ?_); refine wpList_store_row rfl _ _ _ rfl w6.heap.size zeroNd.cl rfl rfl (Row.new w6 27 zeroNd.cl.toArray) rfl ndI (cl_one _) ?_; obtain ⟨W7, hW7, hn7, hb7⟩ := store_gen11 w6 zeroNd; rw [← hW7]; have HB7 := Lib.hid (Below.and HB6.out hb7); clear hW7 hn7 hb7))
  go_loopw [6] (fun i wr => ∃ (t : Nat) (s' : St), t < T ∧ i = .int .i64 (t : Int) ∧ SnAt w5 wr y g5 s s' (55 + t) (SS.it (ldV s) (ldK s) t (SS.new 1088))) (fun i _ => 64 - (intOf i).toNat)
  case atStart => exact ⟨0, s, by omega, rfl, HS5.out.below HB7.out⟩
  case round =>
    rename World => wr
    obtain ⟨t, s', ht, rfl, hsn⟩ := hrel
    have hgood := it_good (V := ldV s) (K := ldK s) (ldV_in HLds.out.ok) (new_SGood (a := 1088) (by decide)) t (fun u hu => HG.out.on u (by omega))
    have hst := hsn.step (by omega) hgood
    have hlt : t < 64 := by omega
    by_cases hT : t + 1 < T
    · have hd := HG.out.on (t + 1) hT
      have hk : ((SS.it (ldV s) (ldK s) t (SS.new 1088)).go (ldV s) (ldK s)).k = 0 := next_k hd
      have hd' : ((SS.it (ldV s) (ldK s) t (SS.new 1088)).go (ldV s) (ldK s)).d = false := hd
      rw [hd', hk] at hst
      have HST := Lib.hid hst
      clear hst hsn hgood hd hd' hk
      go_wp2_with (go_at_call 12; refine HST.out.mono ?_; rintro e w8 ⟨rfl, h8⟩; have H8 := Lib.hid h8; clear h8)
      exact ⟨⟨t + 1, _, hT, by go_num, H8.out⟩, by simp [intOf]; omega⟩
    · have hS : (SS.it (ldV s) (ldK s) t (SS.new 1088)).go (ldV s) (ldK s) = S' := by
        have := HG.out.it
        rw [show T = t + 1 by omega] at this
        exact this
      rw [hS] at hst
      rw [HD.out, HK.out] at hst
      have HST := Lib.hid hst
      clear hst hsn hgood hS
      have HFP := Lib.hid (show ∀ k, y.fp k → w.heap.size < k from fun k hk => by have := HF.out k hk; have := HN3.out.lt; omega)
      have HBW := Lib.hid (show w.heap.size < w4.heap.size from Nat.lt_of_lt_of_le HN3.out.lt HB4.out.size)
      go_wp2_with (first
        | (go_at_call 12; refine HST.out.mono ?_; rintro e w8 ⟨rfl, h8⟩; have HN8 := Lib.hid (show NdAt w8 w.heap.size N from (h8.keep (k := w.heap.size) (Nat.lt_of_lt_of_le HBW.out HB5.out.size) (fun hf => by have := HFP.out _ hf; omega) (by have := HBW.out; have := HG5.out; omega)).trans (((HN3.out.below HB4.out HN3.out.lt).below HB5.out HBW.out))); have HB8 := Lib.hid (show Below w.heap.size w w8 from (Below.and (Below.and HB3.out HB4.out) HB5.out).trans (h8.low (Nat.le_of_lt (Nat.lt_of_lt_of_le HBW.out HB5.out.size)) (fun k hk => Nat.le_of_lt (HFP.out k hk)) (by have := HBW.out; have := HG5.out; omega))); have HNO := Lib.hid (h8.nodeD (by rw [HLds.out.nls]; decide) HD.out HK.out HNn.out); have HHI := Lib.hid (h8.high0 (by rw [HLds.out.nls]; decide) HD.out HK.out HNn.out (.inr HX.out)); clear h8)
        | (go_at_call 13; refine (HNO.out w8 (Below.refl _ _)).mono ?_; rintro e w9 ⟨rfl, hb9⟩; have HB9 := Lib.hid hb9; clear hb9)
        | ((with_reducible refine show_storeN ?_); refine wpList_store_row rfl _ _ _ rfl w9.heap.size N.cl rfl rfl (Row.new w9 27 zeroNd.cl.toArray) rfl ndI (cl_one _) ?_; obtain ⟨W10, hW10, hn10, hb10⟩ := store_gen11 w9 N; rw [← hW10]; have HB10 := Lib.hid (Below.and HB9.out hb10); have HN10 := Lib.hid hn10; clear hW10 hn10 hb10)
        | (go_at_call 14; refine (HHI.out W10 HB10.out).mono ?_; rintro e w11 ⟨rfl, hb11⟩; have HB11 := Lib.hid hb11; have HN11 := Lib.hid (HN10.out.below hb11 HN10.out.lt); have HN1 := Lib.hid (HN8.out.below (Below.and HB10.out hb11) HN8.out.lt); clear hb11)
        | ((with_reducible refine show_loadN ?_); refine wpList_load_midg (by rfl) _ _ rfl w9.heap.size 0 rfl N.cl _ (ndR HN11.out) Try.underlying27 rfl ndI ?_)
        | ((with_reducible refine show_loadN ?_); refine wpList_load_midg (by rfl) _ _ rfl w.heap.size 0 rfl N.cl _ (ndR HN1.out) Try.underlying27 rfl ndI ?_))
      go_ret
      exact ⟨rfl, Below.and (Below.and HB8.out HB10.out) HB11.out⟩
end Go.Proofs.Yteojhhfcfdkmdaa
/- A node with a right neighbour, or none: its numbers, its words; conditions: the numbers are such as Go's types hold. -/
namespace Go.Proofs.Yteojhhfcfdkmdaa
open Go.RowKit
set_option linter.unusedVariables false
theorem side_fits {n : Nd} (h : n.Fits) : n.side.Fits := by
  unfold Nd.side
  split
  · exact h
  · exact ⟨h.l0, h.l1, h.lo, ⟨by show (0 : Int) ≤ 1280; omega, by show (1280 : Int) < _; omega⟩, h.ct, h.fi, h.key, h.ptr⟩
theorem fits_words {n : Nd} (h : n.Fits) : ∀ i, i < 24 → 0 ≤ wAt (wi n) i ∧ wAt (wi n) i < 18446744073709551616 := by
  intro i hi
  by_cases hl : isLv n = true
  · have hx : ofR (wi n) = (n, 0) := by rw [(wi_of n).2, if_pos hl]
    have hw : wi n = [5495893775785918464 + n.l, n.lo, n.nx, n.ct, n.fi, 0, 0, 0, n.key 0, n.ptr 0, n.key 1, n.ptr 1, n.key 2, n.ptr 2, n.key 3, n.ptr 3, n.key 4, n.ptr 4, n.key 5, n.ptr 5, n.key 6, n.ptr 6, n.key 7, n.ptr 7] := by
      unfold wi
      rw [if_pos hl]
      rfl
    have hl2 : 0 ≤ n.l ∧ n.l ≤ 15 := by
      unfold isLv at hl
      simpa using hl
    have hk := h.key
    have hp := h.ptr
    rw [hw]
    have e0 : (0 : Int) ≤ 0 ∧ (0 : Int) < 18446744073709551616 := by omega
    match i, hi with
    | 0, _ => exact (show (0 : Int) ≤ 5495893775785918464 + n.l ∧ 5495893775785918464 + n.l < 18446744073709551616 by omega)
    | 1, _ => exact h.lo
    | 2, _ => exact h.nx
    | 3, _ => exact h.ct
    | 4, _ => exact h.fi
    | 5, _ => exact e0
    | 6, _ => exact e0
    | 7, _ => exact e0
    | 8, _ => exact hk 0 (by omega)
    | 9, _ => exact hp 0 (by omega)
    | 10, _ => exact hk 1 (by omega)
    | 11, _ => exact hp 1 (by omega)
    | 12, _ => exact hk 2 (by omega)
    | 13, _ => exact hp 2 (by omega)
    | 14, _ => exact hk 3 (by omega)
    | 15, _ => exact hp 3 (by omega)
    | 16, _ => exact hk 4 (by omega)
    | 17, _ => exact hp 4 (by omega)
    | 18, _ => exact hk 5 (by omega)
    | 19, _ => exact hp 5 (by omega)
    | 20, _ => exact hk 6 (by omega)
    | 21, _ => exact hp 6 (by omega)
    | 22, _ => exact hk 7 (by omega)
    | 23, _ => exact hp 7 (by omega)
    | i + 24, h => exact absurd h (by omega)
  · have : wi n = List.replicate 24 0 := by
      unfold wi
      rw [if_neg hl]
      rfl
    rw [this]
    unfold wAt
    rw [getD_zeros]
    omega
theorem side_nx (n : Nd) : n.side.nx = 0 ∨ n.side.nx = 1280 := by
  unfold Nd.side
  split
  · rename_i h
    exact .inl h
  · exact .inr rfl
theorem right_lv {n : Nd} (h : rightB n = true) : isLv n.side = true := by
  unfold rightB at h
  rw [Bool.and_eq_true, may_r] at h
  simp only [Bool.and_eq_true] at h
  unfold isLv
  simp only [Bool.and_eq_true]
  exact h.1.1.1.1
end Go.Proofs.Yteojhhfcfdkmdaa
