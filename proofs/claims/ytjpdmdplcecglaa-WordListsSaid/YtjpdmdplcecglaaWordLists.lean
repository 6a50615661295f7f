/- WordLists answers true for every list of bytes and every list of words: Words and Bytes are the document's, lead back to one another, and answer new memory. -/
import Derived.Test.YtjpdmdplcecglaaWordPacks
import Derived.Deep.RegionWith
import Derived.Deep.DeepCutAuto
import Derived.Deep.QuietTactic
import Derived.BigQuiet
namespace Go.Proofs.Ytjpdmdplcecglaa
open Go.RowKit
set_option linter.unusedVariables false
set_option maxHeartbeats 400000 in
set_option maxRecDepth 100000 in
theorem lists_long (A B : Option Addr) (n cn m cm : Nat) (w : World) (h : 1000 < n ∨ 1000 < m) :
    Calls Try.prog 5 #[.slice A n cn, .slice B m cm] w fun e w' => e = .returned (.bool true) ∧ Below w.heap.size w w' := by
  by_cases h1 : 1000 < n
  · go_enter Try.func5, Try.ntmps5
    go_wp2_with fail
    refine (known_any _).mono ?_
    rintro e w3 ⟨rfl, hb3⟩
    go_wp2
    go_ret
    exact ⟨rfl, hb3⟩
  · have h2 : 1000 < m := by omega
    have h3 : n ≤ 1000 := by omega
    clear h h1
    go_enter Try.func5, Try.ntmps5
    go_wp2_with fail
    refine (known_any _).mono ?_
    rintro e w3 ⟨rfl, hb3⟩
    go_wp2
    go_ret
    exact ⟨rfl, hb3⟩
/-- The row of a list that fills it. -/
theorem own_row {w : World} {B g n : Nat} {e : TypeId} {xs : List Value} (h : w.ownsRow B e 1 (.slice (some ⟨g, 0, none⟩) n n) n xs) : Row w g e xs.toArray := by
  rcases h.2 with ⟨h0, _⟩ | ⟨g', cap, cur, h0, _, hh, _, _, hsz, htk⟩
  · cases h0
  · simp only [Value.slice.injEq, Option.some.injEq, Addr.mk.injEq, and_true, true_and] at h0
    obtain ⟨rfl, rfl⟩ := h0
    have e1 : cur.toList.take (n * 1) = cur.toList := List.take_of_length_le (by rw [Array.length_toList, hsz]; exact Nat.le_refl _)
    rw [e1] at htk
    have e2 : cur = xs.toArray := by rw [← htk]
    rw [← e2]
    exact hh
theorem keep3 {W W' w : World} {g : Nat} {C : Array Value} {A B : Option Addr} {LV MV : List Value} (hb : Below W.heap.size W W')
    (h : Row W g 5 C ∧ Sl W A LV ∧ Sl W B MV ∧ Below w.heap.size w W) : Row W' g 5 C ∧ Sl W' A LV ∧ Sl W' B MV ∧ Below w.heap.size w W' :=
  ⟨h.1.below hb h.1.lt, h.2.1.below hb, h.2.2.1.below hb, Below.and h.2.2.2 hb⟩
/-- The first n cells are bytes. -/
def AllB (cs : Array Value) (n : Nat) : Prop := ∀ i, i < n → ∃ b : Nat, b < 256 ∧ cs[i]? = some (.int .u8 (b : Int))
theorem AllB.of {C : List Nat} {n : Nat} (h : Byts C) (hn : C.length = n) : AllB (C.map bv).toArray n := by
  intro i hi
  have hi' : i < C.length := by omega
  refine ⟨C[i], h _ (List.getElem_mem hi'), ?_⟩
  rw [List.getElem?_toArray, List.getElem?_map, List.getElem?_eq_getElem hi']
  rfl
theorem AllB.set {cs : Array Value} {n : Nat} (h : AllB cs n) (k b : Nat) (hb : b < 256) : AllB (cs.setIfInBounds k (.int .u8 (b : Int))) n := by
  intro i hi
  obtain ⟨c, hc, he⟩ := h i hi
  by_cases e : k = i
  · subst e
    have hk : k < cs.size := by
      by_cases hk : k < cs.size
      · exact hk
      · rw [Array.getElem?_eq_none (by omega)] at he
        cases he
    exact ⟨b, hb, by simp [hk]⟩
  · exact ⟨c, hc, by rw [Array.getElem?_setIfInBounds_ne e]; exact he⟩
set_option maxHeartbeats 1600000 in
set_option maxRecDepth 100000 in
theorem lists_no (L M : List Nat) (A B : Option Addr) (n cn m cm : Nat) (w : World) (hn : n ≤ 1000) (hm : m ≤ 1000) (hM : M.length = m) (hw : Wrds M) (hsA : Sl w A (L.map bv)) (hsB : Sl w B (M.map wv)) (h8 : n % 8 ≠ 0) :
    Calls Try.prog 5 #[.slice A n cn, .slice B m cm] w fun e w' => e = .returned (.bool true) ∧ Below w.heap.size w w' := by
  have H1 := Lib.hid fun w => words_no A n cn w (by omega) h8
  have H2 := Lib.hid fun w => refWords_no A n cn w (by omega) h8
  have H3 := Lib.hid fun w hs => bytes_any M B m cm w hM (by omega) hs
  have H4 := Lib.hid fun w hs => refBytes_any M B m cm w hM (by omega) hw hs
  have hsl : (spr M).length = 8 * m := by rw [spr_length, hM]
  have HSL := Lib.hid hsl
  obtain ⟨C, hC⟩ : ∃ C, C = spr M := ⟨_, rfl⟩
  have H5 := Lib.hid fun (g : Nat) w hs => words_yes (spr M) (some ⟨g, 0, none⟩) (8 * m) (8 * m) w hsl (by omega) (Nat.le_refl _) (spr_byts M) hs (by omega)
  rw [cut_spr M hw, Nat.mul_div_cancel_left m (by decide : 0 < 8)] at H5
  have HSM := Lib.hid fun A B c d w h1 h2 => same_yes M m A B c d w hM (by omega) h1 h2
  have HCV := Lib.hid fun (A : Option Addr) c (w : World) hs h0 => conv_any (w := w) (A := A) (8 * m) c hsl hs h0
  have H0 : Hid (∀ (A : Option Addr) (w : World), Sl w A ((spr M).map bv) → A = none → 8 * m = 0) := Lib.hid fun A w h e => by
    subst e
    by_cases h0 : 8 * m = 0
    · exact h0
    · obtain ⟨a, e, _⟩ := h.at_ (i := 0) (by rw [List.length_map]; omega)
      cases e
  obtain ⟨S, hS⟩ : ∃ S, S = strOf (spr M) := ⟨_, rfl⟩
  rw [← hS] at HCV
  rw [← hC] at H3 H4 H5 HCV HSL H0
  have hall : AllB (C.map bv).toArray (8 * m) := by rw [hC]; exact AllB.of (spr_byts M) hsl
  have HALL := Lib.hid hall
  clear hS hC hsl h8 hall
  go_enter Try.func5, Try.ntmps5
  go_wp2_with fail
  refine (H1.out _).mono ?_
  rintro e w1 ⟨rfl, rfl⟩
  go_wp2_with fail
  refine (H2.out _).mono ?_
  rintro e w1 ⟨rfl, rfl⟩
  go_wp2_with fail
  refine (same_yes [] 0 none none 0 0 _ rfl (by omega) (slc_nil _) (slc_nil _)).mono ?_
  rintro e w1 ⟨rfl, q1, hw1⟩
  have hb1 : Below w.heap.size w w1 := by rw [hw1]; exact drewN_below _ _
  have hsA1 := hsA.below hb1
  have hsB1 := hsB.below hb1
  clear hw1
  go_wp2_with fail
  refine (H3.out _ hsB1).mono ?_
  rintro e w2 ⟨rfl, hown2, hb2⟩
  have hr2 := own_row hown2
  obtain ⟨g, hg⟩ : ∃ g, g = w1.heap.size := ⟨_, rfl⟩
  have hgH : w.heap.size ≤ g := by rw [hg]; exact hb1.size
  rw [← hg] at hr2 ⊢
  have hS8 : Row w2 g 5 (C.map bv).toArray ∧ Sl w2 A (L.map bv) ∧ Sl w2 B (M.map wv) ∧ Below w.heap.size w w2 := ⟨hr2, hsA1.below hb2, hsB1.below hb2, Below.and hb1 hb2⟩
  have hss : (S.toList != S.toList) = false := by simp
  have hcv1 : ∀ W, Row W g 5 (C.map bv).toArray → (convert 28 9 (.slice (some ⟨g, 0, none⟩) (8 * m) (8 * m))).run Try.prog W = .ok (.string S) W := fun W h => HCV.out _ _ W (row_sl h) (fun e => by cases e)
  have HC1 := Lib.hid hcv1
  clear hown2 hr2 hg hcv1
  go_upto_region 8 with fail
  go_cut [50] (fun s50 wx => s50 = .bool false ∧ Row wx g 5 (C.map bv).toArray ∧ Sl wx A (L.map bv) ∧ Sl wx B (M.map wv) ∧ Below w.heap.size w wx)
  case first =>
    have hd := keep3 (drew_below w2) hS8
    have hcd := HC1.out _ hd.1
    have hsd := hd.2.2.1
    go_region_with (first | (go_at_call 23; refine (H4.out _ hsd).mono ?_; rintro e wx ⟨vx, rfl, hownx, hbx⟩; obtain ⟨Ax, cx, rfl, _, _, hslx, _⟩ := own_sl hownx; have hcvx := HCV.out Ax cx wx hslx (H0.out Ax wx hslx); have hdx := keep3 hbx hd; have hcdx := HC1.out _ hdx.1))
    all_goals (go_wp2_with fail; go_meet; exact ⟨rfl, hdx⟩)
  case rest =>
    obtain ⟨rfl, hr, hsA3, hsB3, hb3⟩ := hcut
    go_wp2_with fail
    refine (H5.out g _ (row_sl hr)).mono ?_
    rintro e w4 ⟨v4, rfl, hown4, hb4⟩
    obtain ⟨A4, c4, rfl, _, _, hs4, _⟩ := own_sl hown4
    have hr4 := hr.below hb4 hr.lt
    have hb5 := Below.and hb3 hb4
    have hsB5 := hsB.below hb5
    go_wp2_with fail
    go_quiet ((go_at_call 21; exact Calls.quiet_of (HSM.out _ _ _ _ _ (hs4.below (drewN_below _ _)) (hsB5.below (drewN_below _ _)))))
    have hbq := Below.and hb5 (drewN_below w4 nq)
    have hr6 := hr4.below (drewN_below w4 nq) hr4.lt
    have hown6 := own_keep hown4 (drewN_below w4 nq)
    clear hr hsA3 hsB3 hs4 hr4 hown4
    go_wp2_with fail
    go_loopw [12] (fun i wr => ∃ (k : Nat) (cs : Array Value), k ≤ 8 * m ∧ i = .int .i64 (k : Int) ∧ Row wr g 5 cs ∧ AllB cs (8 * m) ∧ wr.ownsRow wc.heap.size 22 1 (.slice A4 m c4) m (M.map wv) ∧ Below w.heap.size w wr) (fun i _ => 8 * m - (intOf i).toNat)
    case atStart => exact ⟨0, _, by omega, rfl, hr6, HALL.out, hown6, hbq⟩
    case round =>
      rename World => wr
      obtain ⟨k, cs, hk, rfl, hrr, hal, howr, hbr⟩ := hrel
      clear hr6 hown6 hbq
      by_cases hlt : k < 8 * m
      · obtain ⟨b, hb256, hcb⟩ := hal k hlt
        have hc := hrr.cell k
        rw [hcb] at hc
        have hf := hrr.free k
        have hne := own_ne howr hrr (by decide)
        clear hcb
        have eb : ((b : Int) + 1) % 256 = (((b + 1) % 256 : Nat) : Int) := by omega
        have hset := hrr.set k (.int .u8 (((b + 1) % 256 : Nat) : Int))
        have hals := hal.set k ((b + 1) % 256) (Nat.mod_lt _ (by decide))
        have hows := own_set (p := ⟨g, k, none⟩) howr hne (.int .u8 (((b + 1) % 256 : Nat) : Int))
        have hbs := hbr.setCell (p := ⟨g, k, none⟩) hgH (.int .u8 (((b + 1) % 256 : Nat) : Int))
        rw [← eb] at hset hals hows hbs
        clear eb hne
        go_wp2
        go_roundw
        case rel => exact ⟨k + 1, _, by omega, by go_num, hset, hals, hows, hbs⟩
        case measure => simp [intOf]; omega
      · go_wp2_with fail
        refine (H3.out _ (hsB.below hbr)).mono ?_
        rintro e w6 ⟨rfl, hown6, hb6⟩
        go_wp2_with fail
        refine (H5.out _ _ (row_sl (own_row hown6))).mono ?_
        rintro e w7 ⟨v7, rfl, hown7, hb7⟩
        obtain ⟨A7, c7, rfl, _, _, hs7, _⟩ := own_sl hown7
        have hb67 := Below.and hb6 hb7
        have howx := own_keep howr hb67
        have hbf := Below.and hbr hb67
        have hsBf := hsB.below hbf
        obtain ⟨A8, c8, he8, _, _, hs8, _⟩ := own_sl howx
        injection he8 with e1 e2 e3
        subst e1
        go_wp2_with fail
        refine (HSM.out _ _ _ _ _ hs7 hsBf).mono ?_
        rintro e w8 ⟨rfl, q8, hw8⟩
        have hb8 : Below w7.heap.size w7 w8 := by rw [hw8]; exact drewN_below _ _
        clear hw8
        go_wp2_with fail
        refine (HSM.out _ _ _ _ _ (hs8.below hb8) (hsBf.below hb8)).mono ?_
        rintro e w9 ⟨rfl, q9, hw9⟩
        have hb9 : Below w8.heap.size w8 w9 := by rw [hw9]; exact drewN_below _ _
        clear hw9
        go_wp2_with fail
        refine (known_any _).mono ?_
        rintro e w10 ⟨rfl, hb10⟩
        go_wp2
        go_ret
        exact ⟨rfl, Below.and hbf (Below.and hb8 (Below.and hb9 hb10))⟩
end Go.Proofs.Ytjpdmdplcecglaa
