/- WordPacks answers true for every text: it is packed as the document says, read from that, and from nothing longer. -/
import Derived.Test.YtjpdmdplcecglaaWordUnpacks
namespace Go.Proofs.Ytjpdmdplcecglaa
open Go.RowKit
set_option linter.unusedVariables false
set_option maxHeartbeats 400000 in
theorem packs_long (s : ByteArray) (w : World) (h : 2000 < s.size) :
    Calls Try.prog 7 #[.string s] w fun e w' => e = .returned (.bool true) ∧ Below w.heap.size w w' := by
  go_enter Try.func7, Try.ntmps7
  go_wp2_with fail
  refine (known_any _).mono ?_
  rintro e w3 ⟨rfl, hb3⟩
  go_wp2
  go_ret
  exact ⟨rfl, hb3⟩
theorem own_some {w : World} {B n : Nat} {e : TypeId} {v : Value} {xs : List Value} (h : w.ownsRow B e 1 v n xs) (hn : 0 < n) : ∃ g cap, v = .slice (some ⟨g, 0, none⟩) n cap ∧ n ≤ cap ∧ cap ≤ maxLen ∧ Sl w (some ⟨g, 0, none⟩) xs := by
  rcases h.2 with ⟨_, h0⟩ | ⟨g, cap, cur, rfl, _, _, hnc, hm, _, _⟩
  · omega
  · exact ⟨g, cap, rfl, hnc, hm, fun i u hu => ⟨_, rfl, h.cells rfl i u hu⟩⟩
theorem sl_cells {w : World} {a : Addr} {xs : List Value} (h : Sl w (some a) xs) : ∀ j u, xs[j]? = some u → w.cell? (a.add j) = some u := by
  intro j u hu
  obtain ⟨a', e, hc⟩ := h j u hu
  cases e
  exact hc
set_option maxHeartbeats 1600000 in
theorem packs_short (s : ByteArray) (l : List Nat) (len : Nat) (w : World) (h : s.size ≤ 2000) (hlen : l.length = len) (h1 : 1 ≤ len) (h300 : len ≤ 300)
    (HP : Hid (∀ w, Calls Try.prog 25 #[.string s] w fun e w' => ∃ v, e = .returned v ∧ w'.ownsRow w.heap.size 22 1 v len (l.map wv) ∧ Below w.heap.size w w'))
    (HR : Hid (∀ w, Calls Try.prog 27 #[.string s] w fun e w' => ∃ v, e = .returned v ∧ w'.ownsRow w.heap.size 22 1 v len (l.map wv) ∧ Below w.heap.size w w'))
    (HU : Hid (Answers 26 l len s 0)) (HE : Hid (Answers 26 (l ++ [0]) (len + 1) ⟨#[]⟩ 11)) :
    Calls Try.prog 7 #[.string s] w fun e w' => e = .returned (.bool true) ∧ Below w.heap.size w w' := by
  obtain ⟨i0, hi, hz0, hz1, hz2⟩ := info_parts info22
  have HSM := Lib.hid fun A B c d w h1 h2 => same_yes l len A B c d w hlen (by omega) h1 h2
  have hll : (l.map wv).length = len * 1 := by rw [List.length_map]; omega
  have m1 : 0 + len ≤ maxLen := by unfold maxLen; omega
  have m2 : (0 + len) * 8 ≤ 140737488355328 := by omega
  have m3 : len + 1 ≤ maxLen := by unfold maxLen; omega
  have m4 : (len + 1) * 8 ≤ 140737488355328 := by omega
  have hss : (s.toList != s.toList) = false := by simp
  have hsn : l.map wv ++ [wv 0] = (l ++ [0]).map wv := by simp
  have HSN := Lib.hid hsn
  clear hlen hsn
  go_enter Try.func7, Try.ntmps7
  go_wp2_with fail
  refine (HP.out _).mono ?_
  rintro e w1 ⟨v1, rfl, hown1, hb1⟩
  obtain ⟨g1, c1, rfl, hc1, hc1m, hs1⟩ := own_some hown1 (by omega)
  clear hown1
  have hown0 := World.ownsRow_nil w1 w1.heap.size 22 1
  have hcells := sl_cells hs1
  go_wp2_with (at_builtin; refine wpList_append_own _ rfl (.const (.slice none 0 0)) (.tmp 15) 37 rfl w1.heap.size 22 i0 (.int .u64 0) 1 8 Try.underlying37 hi hz0 hz1 hz2 rfl (by decide) _ 0 [] rfl hown0 ⟨g1, 0, none⟩ len c1 (l.map wv) rfl hll hcells (wv_ones l) m1 m2 (Nat.le_refl _) ?_; intro v2 w2 hown2 hgrow2 hnil2)
  simp only [Nat.zero_add, List.nil_append] at hown2
  have hb2 : Below w1.heap.size w1 w2 := (Below.refl _ _).grown hgrow2 (Nat.le_refl _) (by intro q hq; cases hq)
  obtain ⟨g2, c2, rfl, hc2, hc2m, hs2⟩ := own_some hown2 (by omega)
  clear hgrow2 hnil2 hown2 hown0 hcells
  have hs1b := hs1.below hb2
  refine (HU.out _ c2 _ hc2 hc2m hs2).mono ?_
  rintro e w3 ⟨rfl, hb3⟩
  have hs1c := hs1b.below hb3
  go_wp2_with fail
  refine (HR.out _).mono ?_
  rintro e w4 ⟨v4, rfl, hown4, hb4⟩
  obtain ⟨g4, c4, rfl, hc4, hc4m, hs4⟩ := own_some hown4 (by omega)
  have hs1d := hs1c.below hb4
  go_wp2_with fail
  refine (HSM.out _ _ _ _ _ hs1d hs4).mono ?_
  rintro e w5 ⟨rfl, q5, hw5⟩
  have hb5 : Below w4.heap.size w4 w5 := by rw [hw5]; exact drewN_below _ _
  have hs1e := hs1d.below hb5
  clear hw5
  have hown5 := World.ownsRow_nil w5 w5.heap.size 22 1
  have hcells5 := sl_cells hs1e
  go_wp2_with (first | (at_builtin; refine wpList_append_own _ rfl (.const (.slice none 0 0)) (.tmp 35) 37 rfl w5.heap.size 22 i0 (.int .u64 0) 1 8 Try.underlying37 hi hz0 hz1 hz2 rfl (by decide) _ 0 [] rfl hown5 ⟨g1, 0, none⟩ len c1 (l.map wv) rfl hll hcells5 (wv_ones l) m1 m2 (Nat.le_refl _) ?_; intro v6 w6 hown6 hgrow6 hnil6; simp only [Nat.zero_add, List.nil_append] at hown6; have hb6 : Below w5.heap.size w5 w6 := (Below.refl _ _).grown hgrow6 (Nat.le_refl _) (by intro q hq; cases hq); obtain ⟨g6, c6, rfl, hc6, hc6m, hs6⟩ := own_some hown6 (by omega); have hbs6 : w5.heap.size ≤ (w6.alloc (.cells #[wv 0] 22)).heap.size := (by have := hb6.size; simp; omega); clear hgrow6 hnil6) | (at_builtin; refine wpList_append_own _ rfl (.tmp 36) (.tmp 37) 37 rfl w5.heap.size 22 i0 (.int .u64 0) 1 8 Try.underlying37 hi hz0 hz1 hz2 rfl (by decide) _ len _ rfl (hown6.alloc (.cells #[wv 0] 22)) ⟨w6.heap.size, 0, none⟩ 1 1 [wv 0] rfl rfl (cell_one_new _ _ _) (wv_ones [0]) m3 m4 hbs6 ?_; intro v7 w7 hown7 hgrow7 hnil7))
  have hb7 : Below w5.heap.size w5 w7 := (hb6.alloc hb6.size _).grown hgrow7 hbs6 (own_from (hown6.alloc (.cells #[wv 0] 22)))
  rw [HSN.out] at hown7
  obtain ⟨g7, c7, rfl, hc7, hc7m, hs7⟩ := own_some hown7 (by omega)
  clear hgrow7 hnil7
  refine (HE.out _ c7 _ hc7 hc7m hs7).mono ?_
  rintro e w8 ⟨rfl, hb8⟩
  go_wp2_with fail
  refine (known_any _).mono ?_
  rintro e w9 ⟨rfl, hb9⟩
  go_wp2
  go_ret
  exact ⟨rfl, Below.and hb1 (Below.and hb2 (Below.and hb3 (Below.and hb4 (Below.and hb5 (Below.and hb7 (Below.and hb8 hb9))))))⟩
theorem packs_any (s : ByteArray) (w : World) :
    Calls Try.prog 7 #[.string s] w fun e w' => e = .returned (.bool true) ∧ Below w.heap.size w w' := by
  by_cases h : 2000 < s.size
  · exact packs_long s w h
  · have hlen := packN_length s
    have hb := strN_byts s
    have ht : Wrds (cutN (strN s)) := cutN_wrds _ hb
    have hcl : (cutN (strN s)).length = (s.size + 7) / 8 := by rw [cutN_length, strN_length]
    have hn : s.size < 18446744073709551616 := by omega
    have hz : joinN ((spr (cutN (strN s))).drop s.size) = 0 := by
      have := spr_cut_drop (strN s) hb
      rwa [strN_length] at this
    refine packs_short s (packN s) (1 + (s.size + 7) / 8) w (by omega) hlen (by omega) (by omega) (Lib.hid fun w => pack_any s w (by omega)) (Lib.hid fun w => refPack_any s w (by omega)) (Lib.hid fun A c w h1 h2 h => ?_) (Lib.hid fun A c w h1 h2 h => ?_)
    · obtain ⟨a, rfl, _⟩ := h.at_ (i := 0) (by rw [List.length_map, hlen]; omega)
      have hk := unpack_ok s.size (cutN (strN s)) a (1 + (s.size + 7) / 8) c w (by omega) (by omega) h1 h2 hn ht h (by omega) (by omega) hz
      rw [text_pack] at hk
      exact hk
    · obtain ⟨a, rfl, hc⟩ := h.at_ (i := 0) (by rw [List.length_map, List.length_append, hlen]; omega)
      rw [add_zero'] at hc
      have hc' : w.cell? a = some (wv s.size) := by rw [hc]; simp [packN]
      exact unpack_room s.size ((s.size + 7) / 8 + 1) a _ c w (by omega) (by omega) hn hc' (.inr (by omega))
theorem packs_all (s : ByteArray) (w : World) (_ : s.size ≤ maxLen) :
    Calls Try.prog 7 #[.string s] w fun e w' => e = .returned (.bool true) ∧ Below w.heap.size w w' := packs_any s w
end Go.Proofs.Ytjpdmdplcecglaa
