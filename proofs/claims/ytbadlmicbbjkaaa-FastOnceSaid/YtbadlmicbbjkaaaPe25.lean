/- Texts of this claim, packed: N9LawA, N9Way, N9J. -/
import Derived.Test.YtbadlmicbbjkaaaPe21
import Derived.Test.YtbadlmicbbjkaaaPe22
import Derived.Test.YtbadlmicbbjkaaaPe24
import Derived.Test.YtbadlmicbbjkaaaPe23
import Derived.Laws.AppendOwnNone
/- FastApplies: the law is true of any base, any node, any list of stores; conditions: numbers of the width. -/
namespace Go.Proofs.Ytbadlmicbbjkaaa
open Go.RowKit
set_option linter.unusedVariables false
/-- The stores as they lie behind an address. -/
theorem puts_news {w : World} {a : Addr} {l : List (Int × Int)} {len : Nat} (hl : l.length = len) (h : ∀ i, i < len → w.cell? (a.add (i * 2)) = some (.int .u64 (l.getD i (0, 0)).1) ∧ w.cell? (a.add (i * 2 + 1)) = some (.int .u64 (l.getD i (0, 0)).2)) : ∀ j u, (flatE l)[j]? = some u → w.cell? (a.add j) = some u := by
  intro j u hu
  have hj : j < 2 * len := by
    have := (List.getElem?_eq_some_iff.1 hu).1
    rw [flatE_len] at this
    omega
  have hi : j / 2 < l.length := by omega
  obtain ⟨f1, f2⟩ := flatE_at l (j / 2) (l.getD (j / 2) (0, 0)) (getD_ent hi)
  obtain ⟨c1, c2⟩ := h (j / 2) (by omega)
  by_cases e : j % 2 = 0
  · rw [show j / 2 * 2 = j by omega] at f1 c1
    rw [f1] at hu
    cases hu
    exact c1
  · rw [show j / 2 * 2 + 1 = j by omega] at f2 c2
    rw [f2] at hu
    cases hu
    exact c2
/-- One store behind the others. -/
theorem apL_app {base : Int} : ∀ {l : List (Int × Int)} {n : Nd} {s : Int × Int}, apL base n (l ++ [s]) = match apL base n l with | some m => ap base m s | none => none
  | [], n, s => by
    simp only [List.nil_append, apL]
    cases ap base n s <;> rfl
  | t :: l, n, s => by
    rw [List.cons_append, apL, apL]
    cases h : ap base n t with
    | none => rfl
    | some m => exact apL_app
theorem row_setCells_other {w : World} {b b' : Nat} {t : TypeId} {cs : Array Value} (h : Row w b t cs) (hne : b' ≠ b) (vs : List Value) : Row (w.setCells b' 0 vs) b t cs := by
  suffices H : ∀ (vs : List Value) (o : Nat) (w : World), Row w b t cs → Row (w.setCells b' o vs) b t cs from H vs 0 w h
  intro vs
  induction vs with
  | nil => exact fun o w h => h
  | cons v r ih => exact fun o w h => ih (o + 1) _ (h.other (p := ⟨b', o, none⟩) (by simpa using hne.symm) v)
theorem add_next (a : Addr) (k : Nat) : (⟨(a.add k).block, (a.add k).off + 1, none⟩ : Addr) = a.add (k + 1) := by
  unfold Addr.add
  split <;> simp_all <;> omega
theorem apL_two {base : Int} : ∀ {l m : List (Int × Int)} {n : Nd}, apL base n (l ++ m) = match apL base n l with | some k => apL base k m | none => none
  | [], m, n => rfl
  | t :: l, m, n => by
    rw [List.cons_append, apL, apL]
    cases h : ap base n t with
    | none => rfl
    | some k => exact apL_two
theorem apL_pre {base : Int} {l : List (Int × Int)} {n : Nd} (k : Nat) (h : apL base n (l.take k) = none) : apL base n l = none := by
  have := apL_two (base := base) (l := l.take k) (m := l.drop k) (n := n)
  rw [List.take_append_drop, h] at this
  exact this
set_option maxRecDepth 100000 in
set_option maxHeartbeats 8000000 in
theorem lawApplies {base : Int} (hb : 0 ≤ base) (n : Nd) {A : Option Addr} {len cap : Nat} {l : List (Int × Int)} (w : World) (hP : PutsIn w A len cap l) : Calls Try.prog 7 #[.int .u64 base, n.V, .slice A len cap] w fun e w' => e = .returned (.bool true) ∧ Below w.heap.size w w' := by
  obtain ⟨i0, hi, hz0, hz1, hz2⟩ := info_parts infoPut
  have r0 := Row.new w 27 n.cl.toArray
  obtain ⟨Wa, hWa⟩ : ∃ Wa, Wa = w.alloc (.cells n.cl.toArray 27) := ⟨_, rfl⟩
  rw [← hWa] at r0
  have hb0 : Below w.heap.size w Wa := by rw [hWa]; exact alloc_low _ _
  have HB0 := Lib.hid hb0
  have HRR := Lib.hid (fun W' (hb : Below Wa.heap.size Wa W') => (show NdAt W' w.heap.size n from r0.below hb r0.lt))
  have HWa := Lib.hid hWa
  have HK := Lib.hid (fun W' => n9known_any W')
  have hr0 := Below.refl Wa.heap.size Wa
  obtain ⟨hll, hlm, hA, hwf⟩ := hP
  have HSa := Lib.hid (show w.heap.size ≤ Wa.heap.size from hb0.size)
  by_cases h40 : 40 < len
  · have h40i : (40 : Int) < (len : Int) := by omega
    clear r0 hWa hb0 hA
    go_enter Try.func7, Try.ntmps7
    go_wp2_with (first
      | (rw [← HWa.out])
      | (go_at_call 12; refine (HK.out _).mono ?_; rintro e w1 ⟨rfl, h1⟩))
    go_ret
    refine ⟨rfl, ?_⟩
    first
      | exact low_and HB0.out h1
      | (rw [← HWa.out] at h1; exact low_and HB0.out h1)
  · have h40i : ¬ (40 : Int) < (len : Int) := by omega
    have HAp := Lib.hid (fun W' v (h : EntAt W' v l) => apply_any hb n h (by omega) (fun e he => (hwf e he).1))
    have HRA := Lib.hid (fun m x y W' => r9apply_any hb m x y W')
    have HBO := Lib.hid (bOk_iff base)
    have HPl := Lib.hid (show applyR base n l = if bOk base = true then aftR (apL base n l) else (zeroNd, 2) from rfl)
    have HP1 := Lib.hid (fun m x y => (show applyR base m [(x, y)] = if bOk base = true then aftR (ap base m (x, y)) else (zeroNd, 2) from by
      unfold applyR apL
      split
      · cases ap base m (x, y) <;> rfl
      · rfl))
    have HTk := Lib.hid (fun k (hk : k < len) => (show apL base n (l.take (k + 1)) = match apL base n (l.take k) with | some m => ap base m (l.getD k (0, 0)) | none => none from by
      have hkl : k < l.length := by omega
      rw [List.take_succ_eq_append_getElem hkl, apL_app, List.getD_eq_getElem?_getD, List.getElem?_eq_getElem hkl]
      rfl))
    have HFull := Lib.hid (show l.take len = l by rw [← hll]; exact List.take_length)
    have HNone := Lib.hid (fun k (h : apL base n (l.take k) = none) => (show apL base n l = none from apL_pre k h))
    have hqn := fun m W' => eqNd m W'
    unfold Nd.V at hqn
    rcases hA with ⟨rfl, rfl, rfl⟩ | ⟨ad, rfl, hcells⟩
    · have hl0 : l = [] := List.eq_nil_of_length_eq_zero hll
      have HE4 := Lib.hid (show EntAt Wa (.slice none 0 0) l from ⟨none, 0, by rw [hl0]; rfl, fun h => by rw [hl0] at h; simp at h⟩)
      clear r0 hWa hb0 hl0
      have hcases : (bOk base = true ∧ ¬ base = 0 ∧ ¬ 1099511627776 < base ∧ base % 64 = 0) ∨ (bOk base = false ∧ base = 0) ∨ (bOk base = false ∧ ¬ base = 0 ∧ 1099511627776 < base) ∨ (bOk base = false ∧ ¬ base = 0 ∧ ¬ 1099511627776 < base ∧ ¬ base % 64 = 0) := by
        have h := HBO.out
        cases hq : bOk base with
        | true =>
          have := h.1 hq
          exact .inl ⟨rfl, by omega⟩
        | false =>
          have : ¬ (base % 64 = 0 ∧ 0 < base ∧ base ≤ 1099511627776) := fun hh => by rw [h.2 hh] at hq; cases hq
          right
          by_cases h0 : base = 0
          · exact .inl ⟨rfl, h0⟩
          · right
            by_cases h1 : 1099511627776 < base
            · exact .inl ⟨rfl, h0, h1⟩
            · exact .inr ⟨rfl, h0, h1, by omega⟩
      rcases hcases with ⟨hbc, h0, h1, h2⟩ | ⟨hbc, h0⟩ | ⟨hbc, h0, h1⟩ | ⟨hbc, h0, h1, h2⟩
      all_goals
        have HBC := Lib.hid hbc
        clear hbc
      · have b0 : (base == 0) = false := by simpa using h0
        have b2 : (base % 64 != 0) = false := by simpa using h2
        clear h2
        go_enter Try.func7, Try.ntmps7
        have hb4 := hr0
        go_wp2_with (first
          | (rw [← HWa.out])
          | (at_builtin; refine wpList_append_own_none rfl _ _ 30 rfl Wa.heap.size 45 i0 2 Try.underlying30 hi _ 0 [] rfl (World.ownsRow_nil _ _ _ _) rfl ?_)
          | (go_at_call 20; refine (HAp.out _ _ HE4.out).mono ?_; rintro e w5 ⟨rfl, h5⟩; have hb5 := low_and hb4 h5; generalize hR : applyR base n l = R at *; obtain ⟨x, ec⟩ := R; have HRx := Lib.hid hR; clear hR h5)
          | (refine wpList_load_mid rfl _ _ rfl w.heap.size 0 rfl n.cl _ (ndR (HRR.out _ (by assumption))) Try.underlying27 rfl ndI ?_)
          | (refine wpList_store_row rfl _ _ _ rfl w5.heap.size x.cl rfl rfl (Row.new w5 27 zeroNd.cl.toArray) rfl ndI (cl_one x) ?_; obtain ⟨W6, hW6, hn6, hl6⟩ := store_gen9 w5 x; rw [← hW6]; have hb6 := low_and hb5 hl6; have HX := Lib.hid (fun W' (hb : Below W6.heap.size W6 W') => (show NdAt W' w5.heap.size x from hn6.below hb hn6.lt)); have hlt6 := hn6.lt; clear hW6 hn6 hl6)
          | (refine wpList_store_row rfl _ _ _ rfl W6.heap.size n.cl rfl rfl (Row.new W6 27 zeroNd.cl.toArray) rfl ndI (cl_one n) ?_; obtain ⟨W7, hW7, hn7, hl7⟩ := store_gen9 W6 n; rw [← hW7]; have hb7 := low_and hb6 hl7; have HX7 := Lib.hid (HX.out W7 hl7); have HM7 := Lib.hid hn7; clear hW7 hn7 hl7))
        have HWA6 := Lib.hid (show Wa.heap.size ≤ W6.heap.size from hb6.size)
        go_loopw [11, 12] (fun f i wr => ∃ k : Nat, k ≤ 0 ∧ i = .int .i64 (k : Int) ∧ NdAt wr w5.heap.size x ∧ Below Wa.heap.size Wa wr ∧ ∃ m' : Nd, NdAt wr W6.heap.size m' ∧ ((f = .int .i64 0 ∧ bOk base = true ∧ apL base n (l.take k) = some m') ∨ (f = .int .i64 2 ∧ x = zeroNd ∧ ec = 2))) (fun _ i _ => 0 - (intOf i).toNat)
        case atStart =>
          refine ⟨0, by omega, rfl, HX7.out, hb7, n, HM7.out, ?_⟩
          first
            | exact .inl ⟨rfl, HBC.out, rfl⟩
            | (have hp := HPl.out
               rw [HBC.out, if_neg (by simp)] at hp
               exact .inr ⟨rfl, congrArg Prod.fst hp, congrArg Prod.snd hp⟩)
        case round =>
          rename World => wr
          obtain ⟨k, hk, rfl, hx, hbr, m', hm', hcase⟩ := hrel
          have HX8 := Lib.hid (fun W' (hb : Below wr.heap.size wr W') => (show NdAt W' w5.heap.size x from hx.below hb hx.lt))
          have HMm := Lib.hid (fun W' (hb : Below wr.heap.size wr W') => (show NdAt W' W6.heap.size m' from hm'.below hb hm'.lt))
          have HBr := Lib.hid hbr
          have hr8 := Below.refl wr.heap.size wr
          have hlx := hx.lt
          have hlm' := hm'.lt
          clear hx hm' hbr
          rcases hcase with ⟨rfl, hbk, hap⟩ | ⟨rfl, hx0, rfl⟩
          · have hk0 : k = 0 := by omega
            rw [hk0, HFull.out] at hap
            have hp := HPl.out
            rw [hbk, if_pos rfl, hap] at hp
            have hx0 : x = m' := congrArg Prod.fst hp
            have he0 : ec = 0 := congrArg Prod.snd hp
            subst hx0 he0
            clear hp hap hbk
            have hki : ¬ (k : Int) < 0 := by omega
            have hr8' := hr8
            go_wp2_with (first
              | (refine wpList_load_mid rfl _ _ rfl w5.heap.size 0 rfl x.cl _ (ndR (HX8.out _ (by assumption))) Try.underlying27 rfl ndI ?_)
              | (refine wpList_load_mid rfl _ _ rfl W6.heap.size 0 rfl x.cl _ (ndR (HMm.out _ (by assumption))) Try.underlying27 rfl ndI ?_)
              | (go_at_call 12; refine (HK.out _).mono ?_; rintro e w9 ⟨rfl, h9⟩))
            go_ret
            exact ⟨rfl, low_and HB0.out (low_and HBr.out h9)⟩
          · obtain ⟨W9, hW9⟩ : ∃ W9, W9 = wr.setCells W6.heap.size 0 zeroNd.cl := ⟨_, rfl⟩
            have HZ9 := Lib.hid (show NdAt W9 W6.heap.size x by rw [hW9, hx0]; exact row_setCells (HMm.out _ hr8) rfl)
            have HX9 := Lib.hid (show NdAt W9 w5.heap.size x by rw [hW9]; exact row_setCells_other (HX8.out _ hr8) (by omega) _)
            have HB9 := Lib.hid (show Below Wa.heap.size Wa W9 by rw [hW9]; exact setCells_low _ HWA6.out HBr.out)
            have HW9 := Lib.hid hW9
            clear hW9 hx0
            have hlt : ¬ (k : Int) < 0 := by omega
            all_goals
              go_wp2_with (first
                | (refine wpList_store_row rfl _ _ _ rfl W6.heap.size zeroNd.cl rfl rfl (HMm.out _ hr8) rfl ndI (cl_one zeroNd) ?_; rw [← HW9.out])
                | (refine wpList_load_mid rfl _ _ rfl w5.heap.size 0 rfl x.cl _ (ndR HX9.out) Try.underlying27 rfl ndI ?_)
                | (refine wpList_load_mid rfl _ _ rfl W6.heap.size 0 rfl x.cl _ (ndR HZ9.out) Try.underlying27 rfl ndI ?_)
                | (go_at_call 12; refine (HK.out _).mono ?_; rintro e w9 ⟨rfl, h9⟩))
              go_ret
              exact ⟨rfl, low_and HB0.out (low_and HB9.out h9)⟩
      · have b0 : (base == 0) = true := by simpa using h0
        clear h0
        go_enter Try.func7, Try.ntmps7
        have hb4 := hr0
        go_wp2_with (first
          | (rw [← HWa.out])
          | (at_builtin; refine wpList_append_own_none rfl _ _ 30 rfl Wa.heap.size 45 i0 2 Try.underlying30 hi _ 0 [] rfl (World.ownsRow_nil _ _ _ _) rfl ?_)
          | (go_at_call 20; refine (HAp.out _ _ HE4.out).mono ?_; rintro e w5 ⟨rfl, h5⟩; have hb5 := low_and hb4 h5; generalize hR : applyR base n l = R at *; obtain ⟨x, ec⟩ := R; have HRx := Lib.hid hR; clear hR h5)
          | (refine wpList_load_mid rfl _ _ rfl w.heap.size 0 rfl n.cl _ (ndR (HRR.out _ (by assumption))) Try.underlying27 rfl ndI ?_)
          | (refine wpList_store_row rfl _ _ _ rfl w5.heap.size x.cl rfl rfl (Row.new w5 27 zeroNd.cl.toArray) rfl ndI (cl_one x) ?_; obtain ⟨W6, hW6, hn6, hl6⟩ := store_gen9 w5 x; rw [← hW6]; have hb6 := low_and hb5 hl6; have HX := Lib.hid (fun W' (hb : Below W6.heap.size W6 W') => (show NdAt W' w5.heap.size x from hn6.below hb hn6.lt)); have hlt6 := hn6.lt; clear hW6 hn6 hl6)
          | (refine wpList_store_row rfl _ _ _ rfl W6.heap.size n.cl rfl rfl (Row.new W6 27 zeroNd.cl.toArray) rfl ndI (cl_one n) ?_; obtain ⟨W7, hW7, hn7, hl7⟩ := store_gen9 W6 n; rw [← hW7]; have hb7 := low_and hb6 hl7; have HX7 := Lib.hid (HX.out W7 hl7); have HM7 := Lib.hid hn7; clear hW7 hn7 hl7))
        have HWA6 := Lib.hid (show Wa.heap.size ≤ W6.heap.size from hb6.size)
        go_loopw [11, 12] (fun f i wr => ∃ k : Nat, k ≤ 0 ∧ i = .int .i64 (k : Int) ∧ NdAt wr w5.heap.size x ∧ Below Wa.heap.size Wa wr ∧ ∃ m' : Nd, NdAt wr W6.heap.size m' ∧ ((f = .int .i64 0 ∧ bOk base = true ∧ apL base n (l.take k) = some m') ∨ (f = .int .i64 2 ∧ x = zeroNd ∧ ec = 2))) (fun _ i _ => 0 - (intOf i).toNat)
        case atStart =>
          refine ⟨0, by omega, rfl, HX7.out, hb7, n, HM7.out, ?_⟩
          first
            | exact .inl ⟨rfl, HBC.out, rfl⟩
            | (have hp := HPl.out
               rw [HBC.out, if_neg (by simp)] at hp
               exact .inr ⟨rfl, congrArg Prod.fst hp, congrArg Prod.snd hp⟩)
        case round =>
          rename World => wr
          obtain ⟨k, hk, rfl, hx, hbr, m', hm', hcase⟩ := hrel
          have HX8 := Lib.hid (fun W' (hb : Below wr.heap.size wr W') => (show NdAt W' w5.heap.size x from hx.below hb hx.lt))
          have HMm := Lib.hid (fun W' (hb : Below wr.heap.size wr W') => (show NdAt W' W6.heap.size m' from hm'.below hb hm'.lt))
          have HBr := Lib.hid hbr
          have hr8 := Below.refl wr.heap.size wr
          have hlx := hx.lt
          have hlm' := hm'.lt
          clear hx hm' hbr
          rcases hcase with ⟨rfl, hbk, hap⟩ | ⟨rfl, hx0, rfl⟩
          · have hk0 : k = 0 := by omega
            rw [hk0, HFull.out] at hap
            have hp := HPl.out
            rw [hbk, if_pos rfl, hap] at hp
            have hx0 : x = m' := congrArg Prod.fst hp
            have he0 : ec = 0 := congrArg Prod.snd hp
            subst hx0 he0
            clear hp hap hbk
            have hki : ¬ (k : Int) < 0 := by omega
            have hr8' := hr8
            go_wp2_with (first
              | (refine wpList_load_mid rfl _ _ rfl w5.heap.size 0 rfl x.cl _ (ndR (HX8.out _ (by assumption))) Try.underlying27 rfl ndI ?_)
              | (refine wpList_load_mid rfl _ _ rfl W6.heap.size 0 rfl x.cl _ (ndR (HMm.out _ (by assumption))) Try.underlying27 rfl ndI ?_)
              | (go_at_call 12; refine (HK.out _).mono ?_; rintro e w9 ⟨rfl, h9⟩))
            go_ret
            exact ⟨rfl, low_and HB0.out (low_and HBr.out h9)⟩
          · obtain ⟨W9, hW9⟩ : ∃ W9, W9 = wr.setCells W6.heap.size 0 zeroNd.cl := ⟨_, rfl⟩
            have HZ9 := Lib.hid (show NdAt W9 W6.heap.size x by rw [hW9, hx0]; exact row_setCells (HMm.out _ hr8) rfl)
            have HX9 := Lib.hid (show NdAt W9 w5.heap.size x by rw [hW9]; exact row_setCells_other (HX8.out _ hr8) (by omega) _)
            have HB9 := Lib.hid (show Below Wa.heap.size Wa W9 by rw [hW9]; exact setCells_low _ HWA6.out HBr.out)
            have HW9 := Lib.hid hW9
            clear hW9 hx0
            have hlt : ¬ (k : Int) < 0 := by omega
            all_goals
              go_wp2_with (first
                | (refine wpList_store_row rfl _ _ _ rfl W6.heap.size zeroNd.cl rfl rfl (HMm.out _ hr8) rfl ndI (cl_one zeroNd) ?_; rw [← HW9.out])
                | (refine wpList_load_mid rfl _ _ rfl w5.heap.size 0 rfl x.cl _ (ndR HX9.out) Try.underlying27 rfl ndI ?_)
                | (refine wpList_load_mid rfl _ _ rfl W6.heap.size 0 rfl x.cl _ (ndR HZ9.out) Try.underlying27 rfl ndI ?_)
                | (go_at_call 12; refine (HK.out _).mono ?_; rintro e w9 ⟨rfl, h9⟩))
              go_ret
              exact ⟨rfl, low_and HB0.out (low_and HB9.out h9)⟩
      · have b0 : (base == 0) = false := by simpa using h0
        go_enter Try.func7, Try.ntmps7
        have hb4 := hr0
        go_wp2_with (first
          | (rw [← HWa.out])
          | (at_builtin; refine wpList_append_own_none rfl _ _ 30 rfl Wa.heap.size 45 i0 2 Try.underlying30 hi _ 0 [] rfl (World.ownsRow_nil _ _ _ _) rfl ?_)
          | (go_at_call 20; refine (HAp.out _ _ HE4.out).mono ?_; rintro e w5 ⟨rfl, h5⟩; have hb5 := low_and hb4 h5; generalize hR : applyR base n l = R at *; obtain ⟨x, ec⟩ := R; have HRx := Lib.hid hR; clear hR h5)
          | (refine wpList_load_mid rfl _ _ rfl w.heap.size 0 rfl n.cl _ (ndR (HRR.out _ (by assumption))) Try.underlying27 rfl ndI ?_)
          | (refine wpList_store_row rfl _ _ _ rfl w5.heap.size x.cl rfl rfl (Row.new w5 27 zeroNd.cl.toArray) rfl ndI (cl_one x) ?_; obtain ⟨W6, hW6, hn6, hl6⟩ := store_gen9 w5 x; rw [← hW6]; have hb6 := low_and hb5 hl6; have HX := Lib.hid (fun W' (hb : Below W6.heap.size W6 W') => (show NdAt W' w5.heap.size x from hn6.below hb hn6.lt)); have hlt6 := hn6.lt; clear hW6 hn6 hl6)
          | (refine wpList_store_row rfl _ _ _ rfl W6.heap.size n.cl rfl rfl (Row.new W6 27 zeroNd.cl.toArray) rfl ndI (cl_one n) ?_; obtain ⟨W7, hW7, hn7, hl7⟩ := store_gen9 W6 n; rw [← hW7]; have hb7 := low_and hb6 hl7; have HX7 := Lib.hid (HX.out W7 hl7); have HM7 := Lib.hid hn7; clear hW7 hn7 hl7))
        have HWA6 := Lib.hid (show Wa.heap.size ≤ W6.heap.size from hb6.size)
        go_loopw [11, 12] (fun f i wr => ∃ k : Nat, k ≤ 0 ∧ i = .int .i64 (k : Int) ∧ NdAt wr w5.heap.size x ∧ Below Wa.heap.size Wa wr ∧ ∃ m' : Nd, NdAt wr W6.heap.size m' ∧ ((f = .int .i64 0 ∧ bOk base = true ∧ apL base n (l.take k) = some m') ∨ (f = .int .i64 2 ∧ x = zeroNd ∧ ec = 2))) (fun _ i _ => 0 - (intOf i).toNat)
        case atStart =>
          refine ⟨0, by omega, rfl, HX7.out, hb7, n, HM7.out, ?_⟩
          first
            | exact .inl ⟨rfl, HBC.out, rfl⟩
            | (have hp := HPl.out
               rw [HBC.out, if_neg (by simp)] at hp
               exact .inr ⟨rfl, congrArg Prod.fst hp, congrArg Prod.snd hp⟩)
        case round =>
          rename World => wr
          obtain ⟨k, hk, rfl, hx, hbr, m', hm', hcase⟩ := hrel
          have HX8 := Lib.hid (fun W' (hb : Below wr.heap.size wr W') => (show NdAt W' w5.heap.size x from hx.below hb hx.lt))
          have HMm := Lib.hid (fun W' (hb : Below wr.heap.size wr W') => (show NdAt W' W6.heap.size m' from hm'.below hb hm'.lt))
          have HBr := Lib.hid hbr
          have hr8 := Below.refl wr.heap.size wr
          have hlx := hx.lt
          have hlm' := hm'.lt
          clear hx hm' hbr
          rcases hcase with ⟨rfl, hbk, hap⟩ | ⟨rfl, hx0, rfl⟩
          · have hk0 : k = 0 := by omega
            rw [hk0, HFull.out] at hap
            have hp := HPl.out
            rw [hbk, if_pos rfl, hap] at hp
            have hx0 : x = m' := congrArg Prod.fst hp
            have he0 : ec = 0 := congrArg Prod.snd hp
            subst hx0 he0
            clear hp hap hbk
            have hki : ¬ (k : Int) < 0 := by omega
            have hr8' := hr8
            go_wp2_with (first
              | (refine wpList_load_mid rfl _ _ rfl w5.heap.size 0 rfl x.cl _ (ndR (HX8.out _ (by assumption))) Try.underlying27 rfl ndI ?_)
              | (refine wpList_load_mid rfl _ _ rfl W6.heap.size 0 rfl x.cl _ (ndR (HMm.out _ (by assumption))) Try.underlying27 rfl ndI ?_)
              | (go_at_call 12; refine (HK.out _).mono ?_; rintro e w9 ⟨rfl, h9⟩))
            go_ret
            exact ⟨rfl, low_and HB0.out (low_and HBr.out h9)⟩
          · obtain ⟨W9, hW9⟩ : ∃ W9, W9 = wr.setCells W6.heap.size 0 zeroNd.cl := ⟨_, rfl⟩
            have HZ9 := Lib.hid (show NdAt W9 W6.heap.size x by rw [hW9, hx0]; exact row_setCells (HMm.out _ hr8) rfl)
            have HX9 := Lib.hid (show NdAt W9 w5.heap.size x by rw [hW9]; exact row_setCells_other (HX8.out _ hr8) (by omega) _)
            have HB9 := Lib.hid (show Below Wa.heap.size Wa W9 by rw [hW9]; exact setCells_low _ HWA6.out HBr.out)
            have HW9 := Lib.hid hW9
            clear hW9 hx0
            have hlt : ¬ (k : Int) < 0 := by omega
            all_goals
              go_wp2_with (first
                | (refine wpList_store_row rfl _ _ _ rfl W6.heap.size zeroNd.cl rfl rfl (HMm.out _ hr8) rfl ndI (cl_one zeroNd) ?_; rw [← HW9.out])
                | (refine wpList_load_mid rfl _ _ rfl w5.heap.size 0 rfl x.cl _ (ndR HX9.out) Try.underlying27 rfl ndI ?_)
                | (refine wpList_load_mid rfl _ _ rfl W6.heap.size 0 rfl x.cl _ (ndR HZ9.out) Try.underlying27 rfl ndI ?_)
                | (go_at_call 12; refine (HK.out _).mono ?_; rintro e w9 ⟨rfl, h9⟩))
              go_ret
              exact ⟨rfl, low_and HB0.out (low_and HB9.out h9)⟩
      · have b0 : (base == 0) = false := by simpa using h0
        have b2 : (base % 64 != 0) = true := by simpa using h2
        go_enter Try.func7, Try.ntmps7
        have hb4 := hr0
        go_wp2_with (first
          | (rw [← HWa.out])
          | (at_builtin; refine wpList_append_own_none rfl _ _ 30 rfl Wa.heap.size 45 i0 2 Try.underlying30 hi _ 0 [] rfl (World.ownsRow_nil _ _ _ _) rfl ?_)
          | (go_at_call 20; refine (HAp.out _ _ HE4.out).mono ?_; rintro e w5 ⟨rfl, h5⟩; have hb5 := low_and hb4 h5; generalize hR : applyR base n l = R at *; obtain ⟨x, ec⟩ := R; have HRx := Lib.hid hR; clear hR h5)
          | (refine wpList_load_mid rfl _ _ rfl w.heap.size 0 rfl n.cl _ (ndR (HRR.out _ (by assumption))) Try.underlying27 rfl ndI ?_)
          | (refine wpList_store_row rfl _ _ _ rfl w5.heap.size x.cl rfl rfl (Row.new w5 27 zeroNd.cl.toArray) rfl ndI (cl_one x) ?_; obtain ⟨W6, hW6, hn6, hl6⟩ := store_gen9 w5 x; rw [← hW6]; have hb6 := low_and hb5 hl6; have HX := Lib.hid (fun W' (hb : Below W6.heap.size W6 W') => (show NdAt W' w5.heap.size x from hn6.below hb hn6.lt)); have hlt6 := hn6.lt; clear hW6 hn6 hl6)
          | (refine wpList_store_row rfl _ _ _ rfl W6.heap.size n.cl rfl rfl (Row.new W6 27 zeroNd.cl.toArray) rfl ndI (cl_one n) ?_; obtain ⟨W7, hW7, hn7, hl7⟩ := store_gen9 W6 n; rw [← hW7]; have hb7 := low_and hb6 hl7; have HX7 := Lib.hid (HX.out W7 hl7); have HM7 := Lib.hid hn7; clear hW7 hn7 hl7))
        have HWA6 := Lib.hid (show Wa.heap.size ≤ W6.heap.size from hb6.size)
        go_loopw [11, 12] (fun f i wr => ∃ k : Nat, k ≤ 0 ∧ i = .int .i64 (k : Int) ∧ NdAt wr w5.heap.size x ∧ Below Wa.heap.size Wa wr ∧ ∃ m' : Nd, NdAt wr W6.heap.size m' ∧ ((f = .int .i64 0 ∧ bOk base = true ∧ apL base n (l.take k) = some m') ∨ (f = .int .i64 2 ∧ x = zeroNd ∧ ec = 2))) (fun _ i _ => 0 - (intOf i).toNat)
        case atStart =>
          refine ⟨0, by omega, rfl, HX7.out, hb7, n, HM7.out, ?_⟩
          first
            | exact .inl ⟨rfl, HBC.out, rfl⟩
            | (have hp := HPl.out
               rw [HBC.out, if_neg (by simp)] at hp
               exact .inr ⟨rfl, congrArg Prod.fst hp, congrArg Prod.snd hp⟩)
        case round =>
          rename World => wr
          obtain ⟨k, hk, rfl, hx, hbr, m', hm', hcase⟩ := hrel
          have HX8 := Lib.hid (fun W' (hb : Below wr.heap.size wr W') => (show NdAt W' w5.heap.size x from hx.below hb hx.lt))
          have HMm := Lib.hid (fun W' (hb : Below wr.heap.size wr W') => (show NdAt W' W6.heap.size m' from hm'.below hb hm'.lt))
          have HBr := Lib.hid hbr
          have hr8 := Below.refl wr.heap.size wr
          have hlx := hx.lt
          have hlm' := hm'.lt
          clear hx hm' hbr
          rcases hcase with ⟨rfl, hbk, hap⟩ | ⟨rfl, hx0, rfl⟩
          · have hk0 : k = 0 := by omega
            rw [hk0, HFull.out] at hap
            have hp := HPl.out
            rw [hbk, if_pos rfl, hap] at hp
            have hx0 : x = m' := congrArg Prod.fst hp
            have he0 : ec = 0 := congrArg Prod.snd hp
            subst hx0 he0
            clear hp hap hbk
            have hki : ¬ (k : Int) < 0 := by omega
            have hr8' := hr8
            go_wp2_with (first
              | (refine wpList_load_mid rfl _ _ rfl w5.heap.size 0 rfl x.cl _ (ndR (HX8.out _ (by assumption))) Try.underlying27 rfl ndI ?_)
              | (refine wpList_load_mid rfl _ _ rfl W6.heap.size 0 rfl x.cl _ (ndR (HMm.out _ (by assumption))) Try.underlying27 rfl ndI ?_)
              | (go_at_call 12; refine (HK.out _).mono ?_; rintro e w9 ⟨rfl, h9⟩))
            go_ret
            exact ⟨rfl, low_and HB0.out (low_and HBr.out h9)⟩
          · obtain ⟨W9, hW9⟩ : ∃ W9, W9 = wr.setCells W6.heap.size 0 zeroNd.cl := ⟨_, rfl⟩
            have HZ9 := Lib.hid (show NdAt W9 W6.heap.size x by rw [hW9, hx0]; exact row_setCells (HMm.out _ hr8) rfl)
            have HX9 := Lib.hid (show NdAt W9 w5.heap.size x by rw [hW9]; exact row_setCells_other (HX8.out _ hr8) (by omega) _)
            have HB9 := Lib.hid (show Below Wa.heap.size Wa W9 by rw [hW9]; exact setCells_low _ HWA6.out HBr.out)
            have HW9 := Lib.hid hW9
            clear hW9 hx0
            have hlt : ¬ (k : Int) < 0 := by omega
            all_goals
              go_wp2_with (first
                | (refine wpList_store_row rfl _ _ _ rfl W6.heap.size zeroNd.cl rfl rfl (HMm.out _ hr8) rfl ndI (cl_one zeroNd) ?_; rw [← HW9.out])
                | (refine wpList_load_mid rfl _ _ rfl w5.heap.size 0 rfl x.cl _ (ndR HX9.out) Try.underlying27 rfl ndI ?_)
                | (refine wpList_load_mid rfl _ _ rfl W6.heap.size 0 rfl x.cl _ (ndR HZ9.out) Try.underlying27 rfl ndI ?_)
                | (go_at_call 12; refine (HK.out _).mono ?_; rintro e w9 ⟨rfl, h9⟩))
              go_ret
              exact ⟨rfl, low_and HB0.out (low_and HB9.out h9)⟩
    · have HNw := Lib.hid (puts_news hll hcells)
      have HC := Lib.hid (show ∀ k, k < len → ∀ W', Below w.heap.size w W' → W'.cell? (ad.add (k * 2)) = some (.int .u64 (l.getD k (0, 0)).1) ∧ W'.cell? ⟨(ad.add (k * 2)).block, (ad.add (k * 2)).off + 1, none⟩ = some (.int .u64 (l.getD k (0, 0)).2) from fun k hk W' hb => by
        obtain ⟨c1, c2⟩ := hcells k hk
        refine ⟨(hb.cell (p := ad.add (k * 2)) (w.block_lt_of_cell? _ c1)).trans c1, ?_⟩
        have e : (⟨(ad.add (k * 2)).block, (ad.add (k * 2)).off + 1, none⟩ : Addr) = ad.add (k * 2 + 1) := add_next _ _
        rw [e]
        exact (hb.cell (p := ad.add (k * 2 + 1)) (w.block_lt_of_cell? _ c2)).trans c2)
      have hflen : (flatE l).length = len * 2 := by rw [flatE_len, hll]; omega
      have HF1 := Lib.hid (flatE_ones l)
      obtain ⟨F, hF⟩ : ∃ F, F = flatE l := ⟨_, rfl⟩
      rw [← hF] at HNw hflen HF1
      have HFl := Lib.hid hF
      have HNa := Lib.hid (show ∀ j u, F[j]? = some u → Wa.cell? (ad.add j) = some u from fun j u hu => (hb0.cell (p := ad.add j) (w.block_lt_of_cell? _ (HNw.out j u hu))).trans (HNw.out j u hu))
      clear r0 hWa hb0 hF hcells
      have hcases : (bOk base = true ∧ ¬ base = 0 ∧ ¬ 1099511627776 < base ∧ base % 64 = 0) ∨ (bOk base = false ∧ base = 0) ∨ (bOk base = false ∧ ¬ base = 0 ∧ 1099511627776 < base) ∨ (bOk base = false ∧ ¬ base = 0 ∧ ¬ 1099511627776 < base ∧ ¬ base % 64 = 0) := by
        have h := HBO.out
        cases hq : bOk base with
        | true =>
          have := h.1 hq
          exact .inl ⟨rfl, by omega⟩
        | false =>
          have : ¬ (base % 64 = 0 ∧ 0 < base ∧ base ≤ 1099511627776) := fun hh => by rw [h.2 hh] at hq; cases hq
          right
          by_cases h0 : base = 0
          · exact .inl ⟨rfl, h0⟩
          · right
            by_cases h1 : 1099511627776 < base
            · exact .inl ⟨rfl, h0, h1⟩
            · exact .inr ⟨rfl, h0, h1, by omega⟩
      rcases hcases with ⟨hbc, h0, h1, h2⟩ | ⟨hbc, h0⟩ | ⟨hbc, h0, h1⟩ | ⟨hbc, h0, h1, h2⟩
      all_goals
        have HBC := Lib.hid hbc
        clear hbc
      · have b0 : (base == 0) = false := by simpa using h0
        have b2 : (base % 64 != 0) = false := by simpa using h2
        clear h2
        go_enter Try.func7, Try.ntmps7
        go_wp2_with (first
          | (rw [← HWa.out])
          | (at_builtin; refine wpList_append_own _ rfl _ _ 30 rfl Wa.heap.size 45 i0 (.agg #[.int .u64 0, .int .u64 0]) 2 16 Try.underlying30 hi hz0 hz1 hz2 rfl (by decide) _ 0 _ rfl (World.ownsRow_nil _ _ _ _) ad len cap F rfl hflen HNa.out HF1.out (by omega) (by omega) (Nat.le_refl _) ?_))
        intro v4 w4 hown hgrow hnil
        have hb4 : Below Wa.heap.size Wa w4 := hr0.grown hgrow (Nat.le_refl _) (fun j hj => by cases hj)
        have ho4 : w4.ownsRow Wa.heap.size 45 2 v4 len (flatE l) := by
          rw [HFl.out] at hown
          exact hown
        clear hown hgrow hnil
        have HE4 := Lib.hid (ent_ownG (l := l) (by rw [hll]; exact ho4))
        obtain ⟨A4, cap4, rfl⟩ := own_shape ho4
        clear ho4
        go_wp2_with (first
          | (go_at_call 20; refine (HAp.out _ _ HE4.out).mono ?_; rintro e w5 ⟨rfl, h5⟩; have hb5 := low_and hb4 h5; generalize hR : applyR base n l = R at *; obtain ⟨x, ec⟩ := R; have HRx := Lib.hid hR; clear hR h5)
          | (refine wpList_load_mid rfl _ _ rfl w.heap.size 0 rfl n.cl _ (ndR (HRR.out _ (by assumption))) Try.underlying27 rfl ndI ?_)
          | (refine wpList_store_row rfl _ _ _ rfl w5.heap.size x.cl rfl rfl (Row.new w5 27 zeroNd.cl.toArray) rfl ndI (cl_one x) ?_; obtain ⟨W6, hW6, hn6, hl6⟩ := store_gen9 w5 x; rw [← hW6]; have hb6 := low_and hb5 hl6; have HX := Lib.hid (fun W' (hb : Below W6.heap.size W6 W') => (show NdAt W' w5.heap.size x from hn6.below hb hn6.lt)); have hlt6 := hn6.lt; clear hW6 hn6 hl6)
          | (refine wpList_store_row rfl _ _ _ rfl W6.heap.size n.cl rfl rfl (Row.new W6 27 zeroNd.cl.toArray) rfl ndI (cl_one n) ?_; obtain ⟨W7, hW7, hn7, hl7⟩ := store_gen9 W6 n; rw [← hW7]; have hb7 := low_and hb6 hl7; have HX7 := Lib.hid (HX.out W7 hl7); have HM7 := Lib.hid hn7; clear hW7 hn7 hl7))
        have HWA6 := Lib.hid (show Wa.heap.size ≤ W6.heap.size from hb6.size)
        go_loopw [11, 12] (fun f i wr => ∃ k : Nat, k ≤ len ∧ i = .int .i64 (k : Int) ∧ NdAt wr w5.heap.size x ∧ Below Wa.heap.size Wa wr ∧ ∃ m' : Nd, NdAt wr W6.heap.size m' ∧ ((f = .int .i64 0 ∧ bOk base = true ∧ apL base n (l.take k) = some m') ∨ (f = .int .i64 2 ∧ x = zeroNd ∧ ec = 2))) (fun _ i _ => len - (intOf i).toNat)
        case atStart =>
          refine ⟨0, by omega, rfl, HX7.out, hb7, n, HM7.out, ?_⟩
          first
            | exact .inl ⟨rfl, HBC.out, rfl⟩
            | (have hp := HPl.out
               rw [HBC.out, if_neg (by simp)] at hp
               exact .inr ⟨rfl, congrArg Prod.fst hp, congrArg Prod.snd hp⟩)
        case round =>
          rename World => wr
          obtain ⟨k, hk, rfl, hx, hbr, m', hm', hcase⟩ := hrel
          have HX8 := Lib.hid (fun W' (hb : Below wr.heap.size wr W') => (show NdAt W' w5.heap.size x from hx.below hb hx.lt))
          have HMm := Lib.hid (fun W' (hb : Below wr.heap.size wr W') => (show NdAt W' W6.heap.size m' from hm'.below hb hm'.lt))
          have HBr := Lib.hid hbr
          have hr8 := Below.refl wr.heap.size wr
          have hlx := hx.lt
          have hlm' := hm'.lt
          clear hx hm' hbr
          rcases hcase with ⟨rfl, hbk, hap⟩ | ⟨rfl, hx0, rfl⟩
          · by_cases hlt : k < len
            · have hTkk := HTk.out k hlt
              rw [hap] at hTkk
              have hPm := HP1.out m' (l.getD k (0, 0)).1 (l.getD k (0, 0)).2
              rw [hbk, if_pos rfl] at hPm
              have hki : (k : Int) < (len : Int) := by omega
              have hcA := fun W' (hb : Below Wa.heap.size Wa W') => (HC.out k hlt W' (low_and HB0.out hb))
              have HNk := Lib.hid (HNone.out (k + 1))
              obtain ⟨⟨u, v⟩, huv⟩ : ∃ e, e = l.getD k (0, 0) := ⟨_, rfl⟩
              rw [← huv] at hTkk hPm hcA
              dsimp only at hTkk hPm hcA
              have STAY := Lib.hid (fun W' (hb : Below Wa.heap.size Wa W') => And.intro (hcA W' hb).1 (And.intro (hcA W' hb).2 hb))
              have HRm := Lib.hid (fun W' => HRA.out m' u v W')
              generalize applyR base m' [(u, v)] = R1 at hPm HRm
              obtain ⟨m1, e1⟩ := R1
              have HTkk := Lib.hid hTkk
              have HPm := Lib.hid hPm
              have HBk := Lib.hid hbk
              have EG := Lib.hid (enters_of Try.func15 (by kernel_rfl) rfl)
              clear hcA huv hap hbk hTkk hPm
              go_wp2_with fail
              refine wp_region_held_drew (S := fun W' => W'.cell? (ad.add (k * 2)) = some (.int .u64 u) ∧ W'.cell? ⟨(ad.add (k * 2)).block, (ad.add (k * 2)).off + 1, none⟩ = some (.int .u64 v) ∧ Below Wa.heap.size Wa W') (by kernel_rfl) (STAY.out _ (low_and HBr.out (drew_low9 _))) (fun hHeld => ?_)
              refine wpAnyH_take (i := 0) (oi := ⟨some 49, _, _, _, _, _⟩) (v := .int .u64 base) rfl (by kernel_rfl) (by kernel_rfl) (by kernel_rfl) (fun _ _ _ h => h) (Or.inl ⟨by rfl, by intro WW hSw; (try dsimp only at hSw); go_simp⟩) (by assumption) ?_
              (try simp only [Act.put, List.setIfInBounds_toArray, List.set_cons_zero, List.set_cons_succ])
              refine wpAnyH_take (i := 2) (oi := ⟨some 51, _, _, _, _, _⟩) (v := .slice (some ad) len cap) rfl (by kernel_rfl) (by kernel_rfl) (by kernel_rfl) (fun _ _ _ h => h) (Or.inl ⟨by rfl, by intro WW hSw; (try dsimp only at hSw); go_simp⟩) (by assumption) ?_
              (try simp only [Act.put, List.setIfInBounds_toArray, List.set_cons_zero, List.set_cons_succ])
              refine wpAnyH_take (i := 3) (oi := ⟨some 52, _, _, _, _, _⟩) (v := .int .i64 (k : Int)) rfl (by kernel_rfl) (by kernel_rfl) (by kernel_rfl) (fun _ _ _ h => h) (Or.inl ⟨by rfl, by intro WW hSw; (try dsimp only at hSw); go_simp⟩) (by assumption) ?_
              (try simp only [Act.put, List.setIfInBounds_toArray, List.set_cons_zero, List.set_cons_succ])
              refine wpAnyH_take (i := 4) (oi := ⟨some 53, _, _, _, _, _⟩) (v := .pointer (some (ad.add (k * 2)))) rfl (by kernel_rfl) (by kernel_rfl) (by kernel_rfl) (fun _ _ _ h => h) (Or.inl ⟨by rfl, by intro WW hSw; (try dsimp only at hSw); go_simp⟩) (by assumption) ?_
              (try simp only [Act.put, List.setIfInBounds_toArray, List.set_cons_zero, List.set_cons_succ])
              refine wpAnyH_take (i := 5) (oi := ⟨some 54, _, _, _, _, _⟩) (v := .agg #[.int .u64 u, .int .u64 v]) rfl (by kernel_rfl) (by kernel_rfl) (by kernel_rfl) (fun _ _ _ h => h) (Or.inl ⟨by rfl, by intro WW hSw; (try dsimp only at hSw); go_simp⟩) (by assumption) ?_
              (try simp only [Act.put, List.setIfInBounds_toArray, List.set_cons_zero, List.set_cons_succ])
              refine wpAnyH_one (i := 1) (oi := ⟨some 50, _, _, _, _, _⟩) rfl (by kernel_rfl) (fun K hK => ?_)
              rw [if_pos (by rfl)]
              refine wp_load_mid _ _ rfl W6.heap.size 0 rfl m'.cl _ (ndR (HMm.out _ (drew_low9 _))) Try.underlying27 rfl ndI ?_
              refine hK _ _ (STAY.out _ (low_and HBr.out (drew_low9 _))) (fun hSn => ?_)
              clear hK K
              (try simp only [Act.put, List.setIfInBounds_toArray, List.set_cons_zero, List.set_cons_succ])
              refine wpAnyH_one (i := 6) (oi := ⟨some 55, _, _, _, _, _⟩) rfl (by kernel_rfl) (fun K hK => ?_)
              refine step_calls (by rfl) 15 EG.out [.tmp 49, .tmp 50, .tmp 54] _ rfl [.int .u64 base, m'.V, .agg #[.int .u64 u, .int .u64 v]] rfl (HRm.out _) ?_
              rintro e w9 ⟨rfl, h9⟩
              refine ⟨_, rfl, hK _ _ (STAY.out _ (low_and HBr.out (low_and (drew_low9 _) h9))) (fun hSn => ?_)⟩
              clear hK K
              (try simp only [Act.put, List.setIfInBounds_toArray, List.set_cons_zero, List.set_cons_succ])
              refine wpAnyH_take (i := 7) (oi := ⟨some 48, _, _, _, _, _⟩) (v := .tuple #[m1.V, .int .i64 e1]) rfl (by kernel_rfl) (by kernel_rfl) (by kernel_rfl) (fun _ _ _ h => h) (Or.inl ⟨by rfl, by intro WW hSw; (try dsimp only at hSw); go_simp⟩) (by assumption) ?_
              (try simp only [Act.put, List.setIfInBounds_toArray, List.set_cons_zero, List.set_cons_succ])
              refine wpAnyH_take (i := 8) (oi := ⟨some 56, _, _, _, _, _⟩) (v := m1.V) rfl (by kernel_rfl) (by kernel_rfl) (by kernel_rfl) (fun _ _ _ h => h) (Or.inl ⟨by rfl, by intro WW hSw; (try dsimp only at hSw); go_simp⟩) (by assumption) ?_
              (try simp only [Act.put, List.setIfInBounds_toArray, List.set_cons_zero, List.set_cons_succ])
              refine wpAnyH_take (i := 9) (oi := ⟨some 57, _, _, _, _, _⟩) (v := .int .i64 e1) rfl (by kernel_rfl) (by kernel_rfl) (by kernel_rfl) (fun _ _ _ h => h) (Or.inl ⟨by rfl, by intro WW hSw; (try dsimp only at hSw); go_simp⟩) (by assumption) ?_
              (try simp only [Act.put, List.setIfInBounds_toArray, List.set_cons_zero, List.set_cons_succ])
              refine wpAnyH_one (i := 10) (oi := ⟨none, _, _, _, _, _⟩) rfl (by kernel_rfl) (fun K hK => ?_)
              have HM10 := Lib.hid (show NdAt (w9.setCells W6.heap.size 0 m1.cl) W6.heap.size m1 from row_setCells (HMm.out _ (low_and (drew_low9 _) h9)) rfl)
              have HX10 := Lib.hid (show NdAt (w9.setCells W6.heap.size 0 m1.cl) w5.heap.size x from row_setCells_other (HX8.out _ (low_and (drew_low9 _) h9)) (by omega) _)
              have HB10 := Lib.hid (show Below Wa.heap.size Wa (w9.setCells W6.heap.size 0 m1.cl) from setCells_low _ HWA6.out (low_and HBr.out (low_and (drew_low9 _) h9)))
              rw [if_pos (by rfl)]
              refine wp_store_mid _ _ _ rfl W6.heap.size 0 m1.cl.toArray rfl rfl (row_there (HMm.out _ (low_and (drew_low9 _) h9)) (Nat.le_refl _)) (by kernel_rfl) (all_oneCell_toArray (cl_one m1)) ?_
              refine hK _ _ (STAY.out _ HB10.out) (fun hSn => ?_)
              clear hK K
              (try simp only [Act.put, List.setIfInBounds_toArray, List.set_cons_zero, List.set_cons_succ])
              refine wpAnyH_take (i := 11) (oi := ⟨some 11, _, _, _, _, _⟩) (v := .int .i64 e1) rfl (by kernel_rfl) (by kernel_rfl) (by kernel_rfl) (fun _ _ _ h => h) (Or.inl ⟨by rfl, by intro WW hSw; (try dsimp only at hSw); go_simp⟩) (by assumption) ?_
              (try simp only [Act.put, List.setIfInBounds_toArray, List.set_cons_zero, List.set_cons_succ])
              refine wpAnyH_done (by kernel_rfl) ?_ _

              cases hA2 : ap base m' (u, v) with
              | some m2 =>
                rw [hA2] at HPm HTkk
                have h1 : m1 = m2 := congrArg Prod.fst HPm.out
                have h2 : e1 = 0 := congrArg Prod.snd HPm.out
                subst h1 h2
                clear hA2
                go_wp2
                exact ⟨⟨k + 1, by omega, by go_num, HX10.out, HB10.out, m1, HM10.out, .inl ⟨rfl, HBk.out, HTkk.out⟩⟩, by simp [intOf]; omega⟩
              | none =>
                rw [hA2] at HPm HTkk
                have h1 : m1 = zeroNd := congrArg Prod.fst HPm.out
                have h2 : e1 = 2 := congrArg Prod.snd HPm.out
                have hp := HPl.out
                rw [HBk.out, if_pos rfl, HNk.out HTkk.out] at hp
                have hx0 : x = zeroNd := congrArg Prod.fst hp
                have he0 : ec = 2 := congrArg Prod.snd hp
                have HRR := Lib.hid (And.intro hx0 he0)
                subst h2
                clear hA2 hp hx0 he0 h1
                go_wp2
                exact ⟨⟨k + 1, by omega, by go_num, HX10.out, HB10.out, m1, HM10.out, .inr ⟨rfl, HRR.out⟩⟩, by simp [intOf]; omega⟩
            · obtain rfl : k = len := by omega
              rw [HFull.out] at hap
              have hp := HPl.out
              rw [hbk, if_pos rfl, hap] at hp
              have hx0 : x = m' := congrArg Prod.fst hp
              have he0 : ec = 0 := congrArg Prod.snd hp
              subst hx0 he0
              clear hp hap hbk
              have hki : ¬ (k : Int) < (k : Int) := by omega
              have hr8' := hr8
              go_wp2_with (first
                | (refine wpList_load_mid rfl _ _ rfl w5.heap.size 0 rfl x.cl _ (ndR (HX8.out _ (by assumption))) Try.underlying27 rfl ndI ?_)
                | (refine wpList_load_mid rfl _ _ rfl W6.heap.size 0 rfl x.cl _ (ndR (HMm.out _ (by assumption))) Try.underlying27 rfl ndI ?_)
                | (go_at_call 12; refine (HK.out _).mono ?_; rintro e w9 ⟨rfl, h9⟩))
              go_ret
              exact ⟨rfl, low_and HB0.out (low_and HBr.out h9)⟩
          · obtain ⟨W9, hW9⟩ : ∃ W9, W9 = wr.setCells W6.heap.size 0 zeroNd.cl := ⟨_, rfl⟩
            have HZ9 := Lib.hid (show NdAt W9 W6.heap.size x by rw [hW9, hx0]; exact row_setCells (HMm.out _ hr8) rfl)
            have HX9 := Lib.hid (show NdAt W9 w5.heap.size x by rw [hW9]; exact row_setCells_other (HX8.out _ hr8) (by omega) _)
            have HB9 := Lib.hid (show Below Wa.heap.size Wa W9 by rw [hW9]; exact setCells_low _ HWA6.out HBr.out)
            have HW9 := Lib.hid hW9
            clear hW9 hx0
            by_cases hlt : (k : Int) < (len : Int)
            all_goals
              go_wp2_with (first
                | (refine wpList_store_row rfl _ _ _ rfl W6.heap.size zeroNd.cl rfl rfl (HMm.out _ hr8) rfl ndI (cl_one zeroNd) ?_; rw [← HW9.out])
                | (refine wpList_load_mid rfl _ _ rfl w5.heap.size 0 rfl x.cl _ (ndR HX9.out) Try.underlying27 rfl ndI ?_)
                | (refine wpList_load_mid rfl _ _ rfl W6.heap.size 0 rfl x.cl _ (ndR HZ9.out) Try.underlying27 rfl ndI ?_)
                | (go_at_call 12; refine (HK.out _).mono ?_; rintro e w9 ⟨rfl, h9⟩))
              go_ret
              exact ⟨rfl, low_and HB0.out (low_and HB9.out h9)⟩
      · have b0 : (base == 0) = true := by simpa using h0
        clear h0
        go_enter Try.func7, Try.ntmps7
        go_wp2_with (first
          | (rw [← HWa.out])
          | (at_builtin; refine wpList_append_own _ rfl _ _ 30 rfl Wa.heap.size 45 i0 (.agg #[.int .u64 0, .int .u64 0]) 2 16 Try.underlying30 hi hz0 hz1 hz2 rfl (by decide) _ 0 _ rfl (World.ownsRow_nil _ _ _ _) ad len cap F rfl hflen HNa.out HF1.out (by omega) (by omega) (Nat.le_refl _) ?_))
        intro v4 w4 hown hgrow hnil
        have hb4 : Below Wa.heap.size Wa w4 := hr0.grown hgrow (Nat.le_refl _) (fun j hj => by cases hj)
        have ho4 : w4.ownsRow Wa.heap.size 45 2 v4 len (flatE l) := by
          rw [HFl.out] at hown
          exact hown
        clear hown hgrow hnil
        have HE4 := Lib.hid (ent_ownG (l := l) (by rw [hll]; exact ho4))
        obtain ⟨A4, cap4, rfl⟩ := own_shape ho4
        clear ho4
        go_wp2_with (first
          | (go_at_call 20; refine (HAp.out _ _ HE4.out).mono ?_; rintro e w5 ⟨rfl, h5⟩; have hb5 := low_and hb4 h5; generalize hR : applyR base n l = R at *; obtain ⟨x, ec⟩ := R; have HRx := Lib.hid hR; clear hR h5)
          | (refine wpList_load_mid rfl _ _ rfl w.heap.size 0 rfl n.cl _ (ndR (HRR.out _ (by assumption))) Try.underlying27 rfl ndI ?_)
          | (refine wpList_store_row rfl _ _ _ rfl w5.heap.size x.cl rfl rfl (Row.new w5 27 zeroNd.cl.toArray) rfl ndI (cl_one x) ?_; obtain ⟨W6, hW6, hn6, hl6⟩ := store_gen9 w5 x; rw [← hW6]; have hb6 := low_and hb5 hl6; have HX := Lib.hid (fun W' (hb : Below W6.heap.size W6 W') => (show NdAt W' w5.heap.size x from hn6.below hb hn6.lt)); have hlt6 := hn6.lt; clear hW6 hn6 hl6)
          | (refine wpList_store_row rfl _ _ _ rfl W6.heap.size n.cl rfl rfl (Row.new W6 27 zeroNd.cl.toArray) rfl ndI (cl_one n) ?_; obtain ⟨W7, hW7, hn7, hl7⟩ := store_gen9 W6 n; rw [← hW7]; have hb7 := low_and hb6 hl7; have HX7 := Lib.hid (HX.out W7 hl7); have HM7 := Lib.hid hn7; clear hW7 hn7 hl7))
        have HWA6 := Lib.hid (show Wa.heap.size ≤ W6.heap.size from hb6.size)
        go_loopw [11, 12] (fun f i wr => ∃ k : Nat, k ≤ len ∧ i = .int .i64 (k : Int) ∧ NdAt wr w5.heap.size x ∧ Below Wa.heap.size Wa wr ∧ ∃ m' : Nd, NdAt wr W6.heap.size m' ∧ ((f = .int .i64 0 ∧ bOk base = true ∧ apL base n (l.take k) = some m') ∨ (f = .int .i64 2 ∧ x = zeroNd ∧ ec = 2))) (fun _ i _ => len - (intOf i).toNat)
        case atStart =>
          refine ⟨0, by omega, rfl, HX7.out, hb7, n, HM7.out, ?_⟩
          first
            | exact .inl ⟨rfl, HBC.out, rfl⟩
            | (have hp := HPl.out
               rw [HBC.out, if_neg (by simp)] at hp
               exact .inr ⟨rfl, congrArg Prod.fst hp, congrArg Prod.snd hp⟩)
        case round =>
          rename World => wr
          obtain ⟨k, hk, rfl, hx, hbr, m', hm', hcase⟩ := hrel
          have HX8 := Lib.hid (fun W' (hb : Below wr.heap.size wr W') => (show NdAt W' w5.heap.size x from hx.below hb hx.lt))
          have HMm := Lib.hid (fun W' (hb : Below wr.heap.size wr W') => (show NdAt W' W6.heap.size m' from hm'.below hb hm'.lt))
          have HBr := Lib.hid hbr
          have hr8 := Below.refl wr.heap.size wr
          have hlx := hx.lt
          have hlm' := hm'.lt
          clear hx hm' hbr
          rcases hcase with ⟨rfl, hbk, hap⟩ | ⟨rfl, hx0, rfl⟩
          · by_cases hlt : k < len
            · have hTkk := HTk.out k hlt
              rw [hap] at hTkk
              have hPm := HP1.out m' (l.getD k (0, 0)).1 (l.getD k (0, 0)).2
              rw [hbk, if_pos rfl] at hPm
              have hki : (k : Int) < (len : Int) := by omega
              have hcA := fun W' (hb : Below Wa.heap.size Wa W') => (HC.out k hlt W' (low_and HB0.out hb))
              have HNk := Lib.hid (HNone.out (k + 1))
              obtain ⟨⟨u, v⟩, huv⟩ : ∃ e, e = l.getD k (0, 0) := ⟨_, rfl⟩
              rw [← huv] at hTkk hPm hcA
              dsimp only at hTkk hPm hcA
              have STAY := Lib.hid (fun W' (hb : Below Wa.heap.size Wa W') => And.intro (hcA W' hb).1 (And.intro (hcA W' hb).2 hb))
              have HRm := Lib.hid (fun W' => HRA.out m' u v W')
              generalize applyR base m' [(u, v)] = R1 at hPm HRm
              obtain ⟨m1, e1⟩ := R1
              have HTkk := Lib.hid hTkk
              have HPm := Lib.hid hPm
              have HBk := Lib.hid hbk
              have EG := Lib.hid (enters_of Try.func15 (by kernel_rfl) rfl)
              clear hcA huv hap hbk hTkk hPm
              go_wp2_with fail
              refine wp_region_held_drew (S := fun W' => W'.cell? (ad.add (k * 2)) = some (.int .u64 u) ∧ W'.cell? ⟨(ad.add (k * 2)).block, (ad.add (k * 2)).off + 1, none⟩ = some (.int .u64 v) ∧ Below Wa.heap.size Wa W') (by kernel_rfl) (STAY.out _ (low_and HBr.out (drew_low9 _))) (fun hHeld => ?_)
              refine wpAnyH_take (i := 0) (oi := ⟨some 49, _, _, _, _, _⟩) (v := .int .u64 base) rfl (by kernel_rfl) (by kernel_rfl) (by kernel_rfl) (fun _ _ _ h => h) (Or.inl ⟨by rfl, by intro WW hSw; (try dsimp only at hSw); go_simp⟩) (by assumption) ?_
              (try simp only [Act.put, List.setIfInBounds_toArray, List.set_cons_zero, List.set_cons_succ])
              refine wpAnyH_take (i := 2) (oi := ⟨some 51, _, _, _, _, _⟩) (v := .slice (some ad) len cap) rfl (by kernel_rfl) (by kernel_rfl) (by kernel_rfl) (fun _ _ _ h => h) (Or.inl ⟨by rfl, by intro WW hSw; (try dsimp only at hSw); go_simp⟩) (by assumption) ?_
              (try simp only [Act.put, List.setIfInBounds_toArray, List.set_cons_zero, List.set_cons_succ])
              refine wpAnyH_take (i := 3) (oi := ⟨some 52, _, _, _, _, _⟩) (v := .int .i64 (k : Int)) rfl (by kernel_rfl) (by kernel_rfl) (by kernel_rfl) (fun _ _ _ h => h) (Or.inl ⟨by rfl, by intro WW hSw; (try dsimp only at hSw); go_simp⟩) (by assumption) ?_
              (try simp only [Act.put, List.setIfInBounds_toArray, List.set_cons_zero, List.set_cons_succ])
              refine wpAnyH_take (i := 4) (oi := ⟨some 53, _, _, _, _, _⟩) (v := .pointer (some (ad.add (k * 2)))) rfl (by kernel_rfl) (by kernel_rfl) (by kernel_rfl) (fun _ _ _ h => h) (Or.inl ⟨by rfl, by intro WW hSw; (try dsimp only at hSw); go_simp⟩) (by assumption) ?_
              (try simp only [Act.put, List.setIfInBounds_toArray, List.set_cons_zero, List.set_cons_succ])
              refine wpAnyH_take (i := 5) (oi := ⟨some 54, _, _, _, _, _⟩) (v := .agg #[.int .u64 u, .int .u64 v]) rfl (by kernel_rfl) (by kernel_rfl) (by kernel_rfl) (fun _ _ _ h => h) (Or.inl ⟨by rfl, by intro WW hSw; (try dsimp only at hSw); go_simp⟩) (by assumption) ?_
              (try simp only [Act.put, List.setIfInBounds_toArray, List.set_cons_zero, List.set_cons_succ])
              refine wpAnyH_one (i := 1) (oi := ⟨some 50, _, _, _, _, _⟩) rfl (by kernel_rfl) (fun K hK => ?_)
              rw [if_pos (by rfl)]
              refine wp_load_mid _ _ rfl W6.heap.size 0 rfl m'.cl _ (ndR (HMm.out _ (drew_low9 _))) Try.underlying27 rfl ndI ?_
              refine hK _ _ (STAY.out _ (low_and HBr.out (drew_low9 _))) (fun hSn => ?_)
              clear hK K
              (try simp only [Act.put, List.setIfInBounds_toArray, List.set_cons_zero, List.set_cons_succ])
              refine wpAnyH_one (i := 6) (oi := ⟨some 55, _, _, _, _, _⟩) rfl (by kernel_rfl) (fun K hK => ?_)
              refine step_calls (by rfl) 15 EG.out [.tmp 49, .tmp 50, .tmp 54] _ rfl [.int .u64 base, m'.V, .agg #[.int .u64 u, .int .u64 v]] rfl (HRm.out _) ?_
              rintro e w9 ⟨rfl, h9⟩
              refine ⟨_, rfl, hK _ _ (STAY.out _ (low_and HBr.out (low_and (drew_low9 _) h9))) (fun hSn => ?_)⟩
              clear hK K
              (try simp only [Act.put, List.setIfInBounds_toArray, List.set_cons_zero, List.set_cons_succ])
              refine wpAnyH_take (i := 7) (oi := ⟨some 48, _, _, _, _, _⟩) (v := .tuple #[m1.V, .int .i64 e1]) rfl (by kernel_rfl) (by kernel_rfl) (by kernel_rfl) (fun _ _ _ h => h) (Or.inl ⟨by rfl, by intro WW hSw; (try dsimp only at hSw); go_simp⟩) (by assumption) ?_
              (try simp only [Act.put, List.setIfInBounds_toArray, List.set_cons_zero, List.set_cons_succ])
              refine wpAnyH_take (i := 8) (oi := ⟨some 56, _, _, _, _, _⟩) (v := m1.V) rfl (by kernel_rfl) (by kernel_rfl) (by kernel_rfl) (fun _ _ _ h => h) (Or.inl ⟨by rfl, by intro WW hSw; (try dsimp only at hSw); go_simp⟩) (by assumption) ?_
              (try simp only [Act.put, List.setIfInBounds_toArray, List.set_cons_zero, List.set_cons_succ])
              refine wpAnyH_take (i := 9) (oi := ⟨some 57, _, _, _, _, _⟩) (v := .int .i64 e1) rfl (by kernel_rfl) (by kernel_rfl) (by kernel_rfl) (fun _ _ _ h => h) (Or.inl ⟨by rfl, by intro WW hSw; (try dsimp only at hSw); go_simp⟩) (by assumption) ?_
              (try simp only [Act.put, List.setIfInBounds_toArray, List.set_cons_zero, List.set_cons_succ])
              refine wpAnyH_one (i := 10) (oi := ⟨none, _, _, _, _, _⟩) rfl (by kernel_rfl) (fun K hK => ?_)
              have HM10 := Lib.hid (show NdAt (w9.setCells W6.heap.size 0 m1.cl) W6.heap.size m1 from row_setCells (HMm.out _ (low_and (drew_low9 _) h9)) rfl)
              have HX10 := Lib.hid (show NdAt (w9.setCells W6.heap.size 0 m1.cl) w5.heap.size x from row_setCells_other (HX8.out _ (low_and (drew_low9 _) h9)) (by omega) _)
              have HB10 := Lib.hid (show Below Wa.heap.size Wa (w9.setCells W6.heap.size 0 m1.cl) from setCells_low _ HWA6.out (low_and HBr.out (low_and (drew_low9 _) h9)))
              rw [if_pos (by rfl)]
              refine wp_store_mid _ _ _ rfl W6.heap.size 0 m1.cl.toArray rfl rfl (row_there (HMm.out _ (low_and (drew_low9 _) h9)) (Nat.le_refl _)) (by kernel_rfl) (all_oneCell_toArray (cl_one m1)) ?_
              refine hK _ _ (STAY.out _ HB10.out) (fun hSn => ?_)
              clear hK K
              (try simp only [Act.put, List.setIfInBounds_toArray, List.set_cons_zero, List.set_cons_succ])
              refine wpAnyH_take (i := 11) (oi := ⟨some 11, _, _, _, _, _⟩) (v := .int .i64 e1) rfl (by kernel_rfl) (by kernel_rfl) (by kernel_rfl) (fun _ _ _ h => h) (Or.inl ⟨by rfl, by intro WW hSw; (try dsimp only at hSw); go_simp⟩) (by assumption) ?_
              (try simp only [Act.put, List.setIfInBounds_toArray, List.set_cons_zero, List.set_cons_succ])
              refine wpAnyH_done (by kernel_rfl) ?_ _

              cases hA2 : ap base m' (u, v) with
              | some m2 =>
                rw [hA2] at HPm HTkk
                have h1 : m1 = m2 := congrArg Prod.fst HPm.out
                have h2 : e1 = 0 := congrArg Prod.snd HPm.out
                subst h1 h2
                clear hA2
                go_wp2
                exact ⟨⟨k + 1, by omega, by go_num, HX10.out, HB10.out, m1, HM10.out, .inl ⟨rfl, HBk.out, HTkk.out⟩⟩, by simp [intOf]; omega⟩
              | none =>
                rw [hA2] at HPm HTkk
                have h1 : m1 = zeroNd := congrArg Prod.fst HPm.out
                have h2 : e1 = 2 := congrArg Prod.snd HPm.out
                have hp := HPl.out
                rw [HBk.out, if_pos rfl, HNk.out HTkk.out] at hp
                have hx0 : x = zeroNd := congrArg Prod.fst hp
                have he0 : ec = 2 := congrArg Prod.snd hp
                have HRR := Lib.hid (And.intro hx0 he0)
                subst h2
                clear hA2 hp hx0 he0 h1
                go_wp2
                exact ⟨⟨k + 1, by omega, by go_num, HX10.out, HB10.out, m1, HM10.out, .inr ⟨rfl, HRR.out⟩⟩, by simp [intOf]; omega⟩
            · obtain rfl : k = len := by omega
              rw [HFull.out] at hap
              have hp := HPl.out
              rw [hbk, if_pos rfl, hap] at hp
              have hx0 : x = m' := congrArg Prod.fst hp
              have he0 : ec = 0 := congrArg Prod.snd hp
              subst hx0 he0
              clear hp hap hbk
              have hki : ¬ (k : Int) < (k : Int) := by omega
              have hr8' := hr8
              go_wp2_with (first
                | (refine wpList_load_mid rfl _ _ rfl w5.heap.size 0 rfl x.cl _ (ndR (HX8.out _ (by assumption))) Try.underlying27 rfl ndI ?_)
                | (refine wpList_load_mid rfl _ _ rfl W6.heap.size 0 rfl x.cl _ (ndR (HMm.out _ (by assumption))) Try.underlying27 rfl ndI ?_)
                | (go_at_call 12; refine (HK.out _).mono ?_; rintro e w9 ⟨rfl, h9⟩))
              go_ret
              exact ⟨rfl, low_and HB0.out (low_and HBr.out h9)⟩
          · obtain ⟨W9, hW9⟩ : ∃ W9, W9 = wr.setCells W6.heap.size 0 zeroNd.cl := ⟨_, rfl⟩
            have HZ9 := Lib.hid (show NdAt W9 W6.heap.size x by rw [hW9, hx0]; exact row_setCells (HMm.out _ hr8) rfl)
            have HX9 := Lib.hid (show NdAt W9 w5.heap.size x by rw [hW9]; exact row_setCells_other (HX8.out _ hr8) (by omega) _)
            have HB9 := Lib.hid (show Below Wa.heap.size Wa W9 by rw [hW9]; exact setCells_low _ HWA6.out HBr.out)
            have HW9 := Lib.hid hW9
            clear hW9 hx0
            by_cases hlt : (k : Int) < (len : Int)
            all_goals
              go_wp2_with (first
                | (refine wpList_store_row rfl _ _ _ rfl W6.heap.size zeroNd.cl rfl rfl (HMm.out _ hr8) rfl ndI (cl_one zeroNd) ?_; rw [← HW9.out])
                | (refine wpList_load_mid rfl _ _ rfl w5.heap.size 0 rfl x.cl _ (ndR HX9.out) Try.underlying27 rfl ndI ?_)
                | (refine wpList_load_mid rfl _ _ rfl W6.heap.size 0 rfl x.cl _ (ndR HZ9.out) Try.underlying27 rfl ndI ?_)
                | (go_at_call 12; refine (HK.out _).mono ?_; rintro e w9 ⟨rfl, h9⟩))
              go_ret
              exact ⟨rfl, low_and HB0.out (low_and HB9.out h9)⟩
      · have b0 : (base == 0) = false := by simpa using h0
        go_enter Try.func7, Try.ntmps7
        go_wp2_with (first
          | (rw [← HWa.out])
          | (at_builtin; refine wpList_append_own _ rfl _ _ 30 rfl Wa.heap.size 45 i0 (.agg #[.int .u64 0, .int .u64 0]) 2 16 Try.underlying30 hi hz0 hz1 hz2 rfl (by decide) _ 0 _ rfl (World.ownsRow_nil _ _ _ _) ad len cap F rfl hflen HNa.out HF1.out (by omega) (by omega) (Nat.le_refl _) ?_))
        intro v4 w4 hown hgrow hnil
        have hb4 : Below Wa.heap.size Wa w4 := hr0.grown hgrow (Nat.le_refl _) (fun j hj => by cases hj)
        have ho4 : w4.ownsRow Wa.heap.size 45 2 v4 len (flatE l) := by
          rw [HFl.out] at hown
          exact hown
        clear hown hgrow hnil
        have HE4 := Lib.hid (ent_ownG (l := l) (by rw [hll]; exact ho4))
        obtain ⟨A4, cap4, rfl⟩ := own_shape ho4
        clear ho4
        go_wp2_with (first
          | (go_at_call 20; refine (HAp.out _ _ HE4.out).mono ?_; rintro e w5 ⟨rfl, h5⟩; have hb5 := low_and hb4 h5; generalize hR : applyR base n l = R at *; obtain ⟨x, ec⟩ := R; have HRx := Lib.hid hR; clear hR h5)
          | (refine wpList_load_mid rfl _ _ rfl w.heap.size 0 rfl n.cl _ (ndR (HRR.out _ (by assumption))) Try.underlying27 rfl ndI ?_)
          | (refine wpList_store_row rfl _ _ _ rfl w5.heap.size x.cl rfl rfl (Row.new w5 27 zeroNd.cl.toArray) rfl ndI (cl_one x) ?_; obtain ⟨W6, hW6, hn6, hl6⟩ := store_gen9 w5 x; rw [← hW6]; have hb6 := low_and hb5 hl6; have HX := Lib.hid (fun W' (hb : Below W6.heap.size W6 W') => (show NdAt W' w5.heap.size x from hn6.below hb hn6.lt)); have hlt6 := hn6.lt; clear hW6 hn6 hl6)
          | (refine wpList_store_row rfl _ _ _ rfl W6.heap.size n.cl rfl rfl (Row.new W6 27 zeroNd.cl.toArray) rfl ndI (cl_one n) ?_; obtain ⟨W7, hW7, hn7, hl7⟩ := store_gen9 W6 n; rw [← hW7]; have hb7 := low_and hb6 hl7; have HX7 := Lib.hid (HX.out W7 hl7); have HM7 := Lib.hid hn7; clear hW7 hn7 hl7))
        have HWA6 := Lib.hid (show Wa.heap.size ≤ W6.heap.size from hb6.size)
        go_loopw [11, 12] (fun f i wr => ∃ k : Nat, k ≤ len ∧ i = .int .i64 (k : Int) ∧ NdAt wr w5.heap.size x ∧ Below Wa.heap.size Wa wr ∧ ∃ m' : Nd, NdAt wr W6.heap.size m' ∧ ((f = .int .i64 0 ∧ bOk base = true ∧ apL base n (l.take k) = some m') ∨ (f = .int .i64 2 ∧ x = zeroNd ∧ ec = 2))) (fun _ i _ => len - (intOf i).toNat)
        case atStart =>
          refine ⟨0, by omega, rfl, HX7.out, hb7, n, HM7.out, ?_⟩
          first
            | exact .inl ⟨rfl, HBC.out, rfl⟩
            | (have hp := HPl.out
               rw [HBC.out, if_neg (by simp)] at hp
               exact .inr ⟨rfl, congrArg Prod.fst hp, congrArg Prod.snd hp⟩)
        case round =>
          rename World => wr
          obtain ⟨k, hk, rfl, hx, hbr, m', hm', hcase⟩ := hrel
          have HX8 := Lib.hid (fun W' (hb : Below wr.heap.size wr W') => (show NdAt W' w5.heap.size x from hx.below hb hx.lt))
          have HMm := Lib.hid (fun W' (hb : Below wr.heap.size wr W') => (show NdAt W' W6.heap.size m' from hm'.below hb hm'.lt))
          have HBr := Lib.hid hbr
          have hr8 := Below.refl wr.heap.size wr
          have hlx := hx.lt
          have hlm' := hm'.lt
          clear hx hm' hbr
          rcases hcase with ⟨rfl, hbk, hap⟩ | ⟨rfl, hx0, rfl⟩
          · by_cases hlt : k < len
            · have hTkk := HTk.out k hlt
              rw [hap] at hTkk
              have hPm := HP1.out m' (l.getD k (0, 0)).1 (l.getD k (0, 0)).2
              rw [hbk, if_pos rfl] at hPm
              have hki : (k : Int) < (len : Int) := by omega
              have hcA := fun W' (hb : Below Wa.heap.size Wa W') => (HC.out k hlt W' (low_and HB0.out hb))
              have HNk := Lib.hid (HNone.out (k + 1))
              obtain ⟨⟨u, v⟩, huv⟩ : ∃ e, e = l.getD k (0, 0) := ⟨_, rfl⟩
              rw [← huv] at hTkk hPm hcA
              dsimp only at hTkk hPm hcA
              have STAY := Lib.hid (fun W' (hb : Below Wa.heap.size Wa W') => And.intro (hcA W' hb).1 (And.intro (hcA W' hb).2 hb))
              have HRm := Lib.hid (fun W' => HRA.out m' u v W')
              generalize applyR base m' [(u, v)] = R1 at hPm HRm
              obtain ⟨m1, e1⟩ := R1
              have HTkk := Lib.hid hTkk
              have HPm := Lib.hid hPm
              have HBk := Lib.hid hbk
              have EG := Lib.hid (enters_of Try.func15 (by kernel_rfl) rfl)
              clear hcA huv hap hbk hTkk hPm
              go_wp2_with fail
              refine wp_region_held_drew (S := fun W' => W'.cell? (ad.add (k * 2)) = some (.int .u64 u) ∧ W'.cell? ⟨(ad.add (k * 2)).block, (ad.add (k * 2)).off + 1, none⟩ = some (.int .u64 v) ∧ Below Wa.heap.size Wa W') (by kernel_rfl) (STAY.out _ (low_and HBr.out (drew_low9 _))) (fun hHeld => ?_)
              refine wpAnyH_take (i := 0) (oi := ⟨some 49, _, _, _, _, _⟩) (v := .int .u64 base) rfl (by kernel_rfl) (by kernel_rfl) (by kernel_rfl) (fun _ _ _ h => h) (Or.inl ⟨by rfl, by intro WW hSw; (try dsimp only at hSw); go_simp⟩) (by assumption) ?_
              (try simp only [Act.put, List.setIfInBounds_toArray, List.set_cons_zero, List.set_cons_succ])
              refine wpAnyH_take (i := 2) (oi := ⟨some 51, _, _, _, _, _⟩) (v := .slice (some ad) len cap) rfl (by kernel_rfl) (by kernel_rfl) (by kernel_rfl) (fun _ _ _ h => h) (Or.inl ⟨by rfl, by intro WW hSw; (try dsimp only at hSw); go_simp⟩) (by assumption) ?_
              (try simp only [Act.put, List.setIfInBounds_toArray, List.set_cons_zero, List.set_cons_succ])
              refine wpAnyH_take (i := 3) (oi := ⟨some 52, _, _, _, _, _⟩) (v := .int .i64 (k : Int)) rfl (by kernel_rfl) (by kernel_rfl) (by kernel_rfl) (fun _ _ _ h => h) (Or.inl ⟨by rfl, by intro WW hSw; (try dsimp only at hSw); go_simp⟩) (by assumption) ?_
              (try simp only [Act.put, List.setIfInBounds_toArray, List.set_cons_zero, List.set_cons_succ])
              refine wpAnyH_take (i := 4) (oi := ⟨some 53, _, _, _, _, _⟩) (v := .pointer (some (ad.add (k * 2)))) rfl (by kernel_rfl) (by kernel_rfl) (by kernel_rfl) (fun _ _ _ h => h) (Or.inl ⟨by rfl, by intro WW hSw; (try dsimp only at hSw); go_simp⟩) (by assumption) ?_
              (try simp only [Act.put, List.setIfInBounds_toArray, List.set_cons_zero, List.set_cons_succ])
              refine wpAnyH_take (i := 5) (oi := ⟨some 54, _, _, _, _, _⟩) (v := .agg #[.int .u64 u, .int .u64 v]) rfl (by kernel_rfl) (by kernel_rfl) (by kernel_rfl) (fun _ _ _ h => h) (Or.inl ⟨by rfl, by intro WW hSw; (try dsimp only at hSw); go_simp⟩) (by assumption) ?_
              (try simp only [Act.put, List.setIfInBounds_toArray, List.set_cons_zero, List.set_cons_succ])
              refine wpAnyH_one (i := 1) (oi := ⟨some 50, _, _, _, _, _⟩) rfl (by kernel_rfl) (fun K hK => ?_)
              rw [if_pos (by rfl)]
              refine wp_load_mid _ _ rfl W6.heap.size 0 rfl m'.cl _ (ndR (HMm.out _ (drew_low9 _))) Try.underlying27 rfl ndI ?_
              refine hK _ _ (STAY.out _ (low_and HBr.out (drew_low9 _))) (fun hSn => ?_)
              clear hK K
              (try simp only [Act.put, List.setIfInBounds_toArray, List.set_cons_zero, List.set_cons_succ])
              refine wpAnyH_one (i := 6) (oi := ⟨some 55, _, _, _, _, _⟩) rfl (by kernel_rfl) (fun K hK => ?_)
              refine step_calls (by rfl) 15 EG.out [.tmp 49, .tmp 50, .tmp 54] _ rfl [.int .u64 base, m'.V, .agg #[.int .u64 u, .int .u64 v]] rfl (HRm.out _) ?_
              rintro e w9 ⟨rfl, h9⟩
              refine ⟨_, rfl, hK _ _ (STAY.out _ (low_and HBr.out (low_and (drew_low9 _) h9))) (fun hSn => ?_)⟩
              clear hK K
              (try simp only [Act.put, List.setIfInBounds_toArray, List.set_cons_zero, List.set_cons_succ])
              refine wpAnyH_take (i := 7) (oi := ⟨some 48, _, _, _, _, _⟩) (v := .tuple #[m1.V, .int .i64 e1]) rfl (by kernel_rfl) (by kernel_rfl) (by kernel_rfl) (fun _ _ _ h => h) (Or.inl ⟨by rfl, by intro WW hSw; (try dsimp only at hSw); go_simp⟩) (by assumption) ?_
              (try simp only [Act.put, List.setIfInBounds_toArray, List.set_cons_zero, List.set_cons_succ])
              refine wpAnyH_take (i := 8) (oi := ⟨some 56, _, _, _, _, _⟩) (v := m1.V) rfl (by kernel_rfl) (by kernel_rfl) (by kernel_rfl) (fun _ _ _ h => h) (Or.inl ⟨by rfl, by intro WW hSw; (try dsimp only at hSw); go_simp⟩) (by assumption) ?_
              (try simp only [Act.put, List.setIfInBounds_toArray, List.set_cons_zero, List.set_cons_succ])
              refine wpAnyH_take (i := 9) (oi := ⟨some 57, _, _, _, _, _⟩) (v := .int .i64 e1) rfl (by kernel_rfl) (by kernel_rfl) (by kernel_rfl) (fun _ _ _ h => h) (Or.inl ⟨by rfl, by intro WW hSw; (try dsimp only at hSw); go_simp⟩) (by assumption) ?_
              (try simp only [Act.put, List.setIfInBounds_toArray, List.set_cons_zero, List.set_cons_succ])
              refine wpAnyH_one (i := 10) (oi := ⟨none, _, _, _, _, _⟩) rfl (by kernel_rfl) (fun K hK => ?_)
              have HM10 := Lib.hid (show NdAt (w9.setCells W6.heap.size 0 m1.cl) W6.heap.size m1 from row_setCells (HMm.out _ (low_and (drew_low9 _) h9)) rfl)
              have HX10 := Lib.hid (show NdAt (w9.setCells W6.heap.size 0 m1.cl) w5.heap.size x from row_setCells_other (HX8.out _ (low_and (drew_low9 _) h9)) (by omega) _)
              have HB10 := Lib.hid (show Below Wa.heap.size Wa (w9.setCells W6.heap.size 0 m1.cl) from setCells_low _ HWA6.out (low_and HBr.out (low_and (drew_low9 _) h9)))
              rw [if_pos (by rfl)]
              refine wp_store_mid _ _ _ rfl W6.heap.size 0 m1.cl.toArray rfl rfl (row_there (HMm.out _ (low_and (drew_low9 _) h9)) (Nat.le_refl _)) (by kernel_rfl) (all_oneCell_toArray (cl_one m1)) ?_
              refine hK _ _ (STAY.out _ HB10.out) (fun hSn => ?_)
              clear hK K
              (try simp only [Act.put, List.setIfInBounds_toArray, List.set_cons_zero, List.set_cons_succ])
              refine wpAnyH_take (i := 11) (oi := ⟨some 11, _, _, _, _, _⟩) (v := .int .i64 e1) rfl (by kernel_rfl) (by kernel_rfl) (by kernel_rfl) (fun _ _ _ h => h) (Or.inl ⟨by rfl, by intro WW hSw; (try dsimp only at hSw); go_simp⟩) (by assumption) ?_
              (try simp only [Act.put, List.setIfInBounds_toArray, List.set_cons_zero, List.set_cons_succ])
              refine wpAnyH_done (by kernel_rfl) ?_ _

              cases hA2 : ap base m' (u, v) with
              | some m2 =>
                rw [hA2] at HPm HTkk
                have h1 : m1 = m2 := congrArg Prod.fst HPm.out
                have h2 : e1 = 0 := congrArg Prod.snd HPm.out
                subst h1 h2
                clear hA2
                go_wp2
                exact ⟨⟨k + 1, by omega, by go_num, HX10.out, HB10.out, m1, HM10.out, .inl ⟨rfl, HBk.out, HTkk.out⟩⟩, by simp [intOf]; omega⟩
              | none =>
                rw [hA2] at HPm HTkk
                have h1 : m1 = zeroNd := congrArg Prod.fst HPm.out
                have h2 : e1 = 2 := congrArg Prod.snd HPm.out
                have hp := HPl.out
                rw [HBk.out, if_pos rfl, HNk.out HTkk.out] at hp
                have hx0 : x = zeroNd := congrArg Prod.fst hp
                have he0 : ec = 2 := congrArg Prod.snd hp
                have HRR := Lib.hid (And.intro hx0 he0)
                subst h2
                clear hA2 hp hx0 he0 h1
                go_wp2
                exact ⟨⟨k + 1, by omega, by go_num, HX10.out, HB10.out, m1, HM10.out, .inr ⟨rfl, HRR.out⟩⟩, by simp [intOf]; omega⟩
            · obtain rfl : k = len := by omega
              rw [HFull.out] at hap
              have hp := HPl.out
              rw [hbk, if_pos rfl, hap] at hp
              have hx0 : x = m' := congrArg Prod.fst hp
              have he0 : ec = 0 := congrArg Prod.snd hp
              subst hx0 he0
              clear hp hap hbk
              have hki : ¬ (k : Int) < (k : Int) := by omega
              have hr8' := hr8
              go_wp2_with (first
                | (refine wpList_load_mid rfl _ _ rfl w5.heap.size 0 rfl x.cl _ (ndR (HX8.out _ (by assumption))) Try.underlying27 rfl ndI ?_)
                | (refine wpList_load_mid rfl _ _ rfl W6.heap.size 0 rfl x.cl _ (ndR (HMm.out _ (by assumption))) Try.underlying27 rfl ndI ?_)
                | (go_at_call 12; refine (HK.out _).mono ?_; rintro e w9 ⟨rfl, h9⟩))
              go_ret
              exact ⟨rfl, low_and HB0.out (low_and HBr.out h9)⟩
          · obtain ⟨W9, hW9⟩ : ∃ W9, W9 = wr.setCells W6.heap.size 0 zeroNd.cl := ⟨_, rfl⟩
            have HZ9 := Lib.hid (show NdAt W9 W6.heap.size x by rw [hW9, hx0]; exact row_setCells (HMm.out _ hr8) rfl)
            have HX9 := Lib.hid (show NdAt W9 w5.heap.size x by rw [hW9]; exact row_setCells_other (HX8.out _ hr8) (by omega) _)
            have HB9 := Lib.hid (show Below Wa.heap.size Wa W9 by rw [hW9]; exact setCells_low _ HWA6.out HBr.out)
            have HW9 := Lib.hid hW9
            clear hW9 hx0
            by_cases hlt : (k : Int) < (len : Int)
            all_goals
              go_wp2_with (first
                | (refine wpList_store_row rfl _ _ _ rfl W6.heap.size zeroNd.cl rfl rfl (HMm.out _ hr8) rfl ndI (cl_one zeroNd) ?_; rw [← HW9.out])
                | (refine wpList_load_mid rfl _ _ rfl w5.heap.size 0 rfl x.cl _ (ndR HX9.out) Try.underlying27 rfl ndI ?_)
                | (refine wpList_load_mid rfl _ _ rfl W6.heap.size 0 rfl x.cl _ (ndR HZ9.out) Try.underlying27 rfl ndI ?_)
                | (go_at_call 12; refine (HK.out _).mono ?_; rintro e w9 ⟨rfl, h9⟩))
              go_ret
              exact ⟨rfl, low_and HB0.out (low_and HB9.out h9)⟩
      · have b0 : (base == 0) = false := by simpa using h0
        have b2 : (base % 64 != 0) = true := by simpa using h2
        go_enter Try.func7, Try.ntmps7
        go_wp2_with (first
          | (rw [← HWa.out])
          | (at_builtin; refine wpList_append_own _ rfl _ _ 30 rfl Wa.heap.size 45 i0 (.agg #[.int .u64 0, .int .u64 0]) 2 16 Try.underlying30 hi hz0 hz1 hz2 rfl (by decide) _ 0 _ rfl (World.ownsRow_nil _ _ _ _) ad len cap F rfl hflen HNa.out HF1.out (by omega) (by omega) (Nat.le_refl _) ?_))
        intro v4 w4 hown hgrow hnil
        have hb4 : Below Wa.heap.size Wa w4 := hr0.grown hgrow (Nat.le_refl _) (fun j hj => by cases hj)
        have ho4 : w4.ownsRow Wa.heap.size 45 2 v4 len (flatE l) := by
          rw [HFl.out] at hown
          exact hown
        clear hown hgrow hnil
        have HE4 := Lib.hid (ent_ownG (l := l) (by rw [hll]; exact ho4))
        obtain ⟨A4, cap4, rfl⟩ := own_shape ho4
        clear ho4
        go_wp2_with (first
          | (go_at_call 20; refine (HAp.out _ _ HE4.out).mono ?_; rintro e w5 ⟨rfl, h5⟩; have hb5 := low_and hb4 h5; generalize hR : applyR base n l = R at *; obtain ⟨x, ec⟩ := R; have HRx := Lib.hid hR; clear hR h5)
          | (refine wpList_load_mid rfl _ _ rfl w.heap.size 0 rfl n.cl _ (ndR (HRR.out _ (by assumption))) Try.underlying27 rfl ndI ?_)
          | (refine wpList_store_row rfl _ _ _ rfl w5.heap.size x.cl rfl rfl (Row.new w5 27 zeroNd.cl.toArray) rfl ndI (cl_one x) ?_; obtain ⟨W6, hW6, hn6, hl6⟩ := store_gen9 w5 x; rw [← hW6]; have hb6 := low_and hb5 hl6; have HX := Lib.hid (fun W' (hb : Below W6.heap.size W6 W') => (show NdAt W' w5.heap.size x from hn6.below hb hn6.lt)); have hlt6 := hn6.lt; clear hW6 hn6 hl6)
          | (refine wpList_store_row rfl _ _ _ rfl W6.heap.size n.cl rfl rfl (Row.new W6 27 zeroNd.cl.toArray) rfl ndI (cl_one n) ?_; obtain ⟨W7, hW7, hn7, hl7⟩ := store_gen9 W6 n; rw [← hW7]; have hb7 := low_and hb6 hl7; have HX7 := Lib.hid (HX.out W7 hl7); have HM7 := Lib.hid hn7; clear hW7 hn7 hl7))
        have HWA6 := Lib.hid (show Wa.heap.size ≤ W6.heap.size from hb6.size)
        go_loopw [11, 12] (fun f i wr => ∃ k : Nat, k ≤ len ∧ i = .int .i64 (k : Int) ∧ NdAt wr w5.heap.size x ∧ Below Wa.heap.size Wa wr ∧ ∃ m' : Nd, NdAt wr W6.heap.size m' ∧ ((f = .int .i64 0 ∧ bOk base = true ∧ apL base n (l.take k) = some m') ∨ (f = .int .i64 2 ∧ x = zeroNd ∧ ec = 2))) (fun _ i _ => len - (intOf i).toNat)
        case atStart =>
          refine ⟨0, by omega, rfl, HX7.out, hb7, n, HM7.out, ?_⟩
          first
            | exact .inl ⟨rfl, HBC.out, rfl⟩
            | (have hp := HPl.out
               rw [HBC.out, if_neg (by simp)] at hp
               exact .inr ⟨rfl, congrArg Prod.fst hp, congrArg Prod.snd hp⟩)
        case round =>
          rename World => wr
          obtain ⟨k, hk, rfl, hx, hbr, m', hm', hcase⟩ := hrel
          have HX8 := Lib.hid (fun W' (hb : Below wr.heap.size wr W') => (show NdAt W' w5.heap.size x from hx.below hb hx.lt))
          have HMm := Lib.hid (fun W' (hb : Below wr.heap.size wr W') => (show NdAt W' W6.heap.size m' from hm'.below hb hm'.lt))
          have HBr := Lib.hid hbr
          have hr8 := Below.refl wr.heap.size wr
          have hlx := hx.lt
          have hlm' := hm'.lt
          clear hx hm' hbr
          rcases hcase with ⟨rfl, hbk, hap⟩ | ⟨rfl, hx0, rfl⟩
          · by_cases hlt : k < len
            · have hTkk := HTk.out k hlt
              rw [hap] at hTkk
              have hPm := HP1.out m' (l.getD k (0, 0)).1 (l.getD k (0, 0)).2
              rw [hbk, if_pos rfl] at hPm
              have hki : (k : Int) < (len : Int) := by omega
              have hcA := fun W' (hb : Below Wa.heap.size Wa W') => (HC.out k hlt W' (low_and HB0.out hb))
              have HNk := Lib.hid (HNone.out (k + 1))
              obtain ⟨⟨u, v⟩, huv⟩ : ∃ e, e = l.getD k (0, 0) := ⟨_, rfl⟩
              rw [← huv] at hTkk hPm hcA
              dsimp only at hTkk hPm hcA
              have STAY := Lib.hid (fun W' (hb : Below Wa.heap.size Wa W') => And.intro (hcA W' hb).1 (And.intro (hcA W' hb).2 hb))
              have HRm := Lib.hid (fun W' => HRA.out m' u v W')
              generalize applyR base m' [(u, v)] = R1 at hPm HRm
              obtain ⟨m1, e1⟩ := R1
              have HTkk := Lib.hid hTkk
              have HPm := Lib.hid hPm
              have HBk := Lib.hid hbk
              have EG := Lib.hid (enters_of Try.func15 (by kernel_rfl) rfl)
              clear hcA huv hap hbk hTkk hPm
              go_wp2_with fail
              refine wp_region_held_drew (S := fun W' => W'.cell? (ad.add (k * 2)) = some (.int .u64 u) ∧ W'.cell? ⟨(ad.add (k * 2)).block, (ad.add (k * 2)).off + 1, none⟩ = some (.int .u64 v) ∧ Below Wa.heap.size Wa W') (by kernel_rfl) (STAY.out _ (low_and HBr.out (drew_low9 _))) (fun hHeld => ?_)
              refine wpAnyH_take (i := 0) (oi := ⟨some 49, _, _, _, _, _⟩) (v := .int .u64 base) rfl (by kernel_rfl) (by kernel_rfl) (by kernel_rfl) (fun _ _ _ h => h) (Or.inl ⟨by rfl, by intro WW hSw; (try dsimp only at hSw); go_simp⟩) (by assumption) ?_
              (try simp only [Act.put, List.setIfInBounds_toArray, List.set_cons_zero, List.set_cons_succ])
              refine wpAnyH_take (i := 2) (oi := ⟨some 51, _, _, _, _, _⟩) (v := .slice (some ad) len cap) rfl (by kernel_rfl) (by kernel_rfl) (by kernel_rfl) (fun _ _ _ h => h) (Or.inl ⟨by rfl, by intro WW hSw; (try dsimp only at hSw); go_simp⟩) (by assumption) ?_
              (try simp only [Act.put, List.setIfInBounds_toArray, List.set_cons_zero, List.set_cons_succ])
              refine wpAnyH_take (i := 3) (oi := ⟨some 52, _, _, _, _, _⟩) (v := .int .i64 (k : Int)) rfl (by kernel_rfl) (by kernel_rfl) (by kernel_rfl) (fun _ _ _ h => h) (Or.inl ⟨by rfl, by intro WW hSw; (try dsimp only at hSw); go_simp⟩) (by assumption) ?_
              (try simp only [Act.put, List.setIfInBounds_toArray, List.set_cons_zero, List.set_cons_succ])
              refine wpAnyH_take (i := 4) (oi := ⟨some 53, _, _, _, _, _⟩) (v := .pointer (some (ad.add (k * 2)))) rfl (by kernel_rfl) (by kernel_rfl) (by kernel_rfl) (fun _ _ _ h => h) (Or.inl ⟨by rfl, by intro WW hSw; (try dsimp only at hSw); go_simp⟩) (by assumption) ?_
              (try simp only [Act.put, List.setIfInBounds_toArray, List.set_cons_zero, List.set_cons_succ])
              refine wpAnyH_take (i := 5) (oi := ⟨some 54, _, _, _, _, _⟩) (v := .agg #[.int .u64 u, .int .u64 v]) rfl (by kernel_rfl) (by kernel_rfl) (by kernel_rfl) (fun _ _ _ h => h) (Or.inl ⟨by rfl, by intro WW hSw; (try dsimp only at hSw); go_simp⟩) (by assumption) ?_
              (try simp only [Act.put, List.setIfInBounds_toArray, List.set_cons_zero, List.set_cons_succ])
              refine wpAnyH_one (i := 1) (oi := ⟨some 50, _, _, _, _, _⟩) rfl (by kernel_rfl) (fun K hK => ?_)
              rw [if_pos (by rfl)]
              refine wp_load_mid _ _ rfl W6.heap.size 0 rfl m'.cl _ (ndR (HMm.out _ (drew_low9 _))) Try.underlying27 rfl ndI ?_
              refine hK _ _ (STAY.out _ (low_and HBr.out (drew_low9 _))) (fun hSn => ?_)
              clear hK K
              (try simp only [Act.put, List.setIfInBounds_toArray, List.set_cons_zero, List.set_cons_succ])
              refine wpAnyH_one (i := 6) (oi := ⟨some 55, _, _, _, _, _⟩) rfl (by kernel_rfl) (fun K hK => ?_)
              refine step_calls (by rfl) 15 EG.out [.tmp 49, .tmp 50, .tmp 54] _ rfl [.int .u64 base, m'.V, .agg #[.int .u64 u, .int .u64 v]] rfl (HRm.out _) ?_
              rintro e w9 ⟨rfl, h9⟩
              refine ⟨_, rfl, hK _ _ (STAY.out _ (low_and HBr.out (low_and (drew_low9 _) h9))) (fun hSn => ?_)⟩
              clear hK K
              (try simp only [Act.put, List.setIfInBounds_toArray, List.set_cons_zero, List.set_cons_succ])
              refine wpAnyH_take (i := 7) (oi := ⟨some 48, _, _, _, _, _⟩) (v := .tuple #[m1.V, .int .i64 e1]) rfl (by kernel_rfl) (by kernel_rfl) (by kernel_rfl) (fun _ _ _ h => h) (Or.inl ⟨by rfl, by intro WW hSw; (try dsimp only at hSw); go_simp⟩) (by assumption) ?_
              (try simp only [Act.put, List.setIfInBounds_toArray, List.set_cons_zero, List.set_cons_succ])
              refine wpAnyH_take (i := 8) (oi := ⟨some 56, _, _, _, _, _⟩) (v := m1.V) rfl (by kernel_rfl) (by kernel_rfl) (by kernel_rfl) (fun _ _ _ h => h) (Or.inl ⟨by rfl, by intro WW hSw; (try dsimp only at hSw); go_simp⟩) (by assumption) ?_
              (try simp only [Act.put, List.setIfInBounds_toArray, List.set_cons_zero, List.set_cons_succ])
              refine wpAnyH_take (i := 9) (oi := ⟨some 57, _, _, _, _, _⟩) (v := .int .i64 e1) rfl (by kernel_rfl) (by kernel_rfl) (by kernel_rfl) (fun _ _ _ h => h) (Or.inl ⟨by rfl, by intro WW hSw; (try dsimp only at hSw); go_simp⟩) (by assumption) ?_
              (try simp only [Act.put, List.setIfInBounds_toArray, List.set_cons_zero, List.set_cons_succ])
              refine wpAnyH_one (i := 10) (oi := ⟨none, _, _, _, _, _⟩) rfl (by kernel_rfl) (fun K hK => ?_)
              have HM10 := Lib.hid (show NdAt (w9.setCells W6.heap.size 0 m1.cl) W6.heap.size m1 from row_setCells (HMm.out _ (low_and (drew_low9 _) h9)) rfl)
              have HX10 := Lib.hid (show NdAt (w9.setCells W6.heap.size 0 m1.cl) w5.heap.size x from row_setCells_other (HX8.out _ (low_and (drew_low9 _) h9)) (by omega) _)
              have HB10 := Lib.hid (show Below Wa.heap.size Wa (w9.setCells W6.heap.size 0 m1.cl) from setCells_low _ HWA6.out (low_and HBr.out (low_and (drew_low9 _) h9)))
              rw [if_pos (by rfl)]
              refine wp_store_mid _ _ _ rfl W6.heap.size 0 m1.cl.toArray rfl rfl (row_there (HMm.out _ (low_and (drew_low9 _) h9)) (Nat.le_refl _)) (by kernel_rfl) (all_oneCell_toArray (cl_one m1)) ?_
              refine hK _ _ (STAY.out _ HB10.out) (fun hSn => ?_)
              clear hK K
              (try simp only [Act.put, List.setIfInBounds_toArray, List.set_cons_zero, List.set_cons_succ])
              refine wpAnyH_take (i := 11) (oi := ⟨some 11, _, _, _, _, _⟩) (v := .int .i64 e1) rfl (by kernel_rfl) (by kernel_rfl) (by kernel_rfl) (fun _ _ _ h => h) (Or.inl ⟨by rfl, by intro WW hSw; (try dsimp only at hSw); go_simp⟩) (by assumption) ?_
              (try simp only [Act.put, List.setIfInBounds_toArray, List.set_cons_zero, List.set_cons_succ])
              refine wpAnyH_done (by kernel_rfl) ?_ _

              cases hA2 : ap base m' (u, v) with
              | some m2 =>
                rw [hA2] at HPm HTkk
                have h1 : m1 = m2 := congrArg Prod.fst HPm.out
                have h2 : e1 = 0 := congrArg Prod.snd HPm.out
                subst h1 h2
                clear hA2
                go_wp2
                exact ⟨⟨k + 1, by omega, by go_num, HX10.out, HB10.out, m1, HM10.out, .inl ⟨rfl, HBk.out, HTkk.out⟩⟩, by simp [intOf]; omega⟩
              | none =>
                rw [hA2] at HPm HTkk
                have h1 : m1 = zeroNd := congrArg Prod.fst HPm.out
                have h2 : e1 = 2 := congrArg Prod.snd HPm.out
                have hp := HPl.out
                rw [HBk.out, if_pos rfl, HNk.out HTkk.out] at hp
                have hx0 : x = zeroNd := congrArg Prod.fst hp
                have he0 : ec = 2 := congrArg Prod.snd hp
                have HRR := Lib.hid (And.intro hx0 he0)
                subst h2
                clear hA2 hp hx0 he0 h1
                go_wp2
                exact ⟨⟨k + 1, by omega, by go_num, HX10.out, HB10.out, m1, HM10.out, .inr ⟨rfl, HRR.out⟩⟩, by simp [intOf]; omega⟩
            · obtain rfl : k = len := by omega
              rw [HFull.out] at hap
              have hp := HPl.out
              rw [hbk, if_pos rfl, hap] at hp
              have hx0 : x = m' := congrArg Prod.fst hp
              have he0 : ec = 0 := congrArg Prod.snd hp
              subst hx0 he0
              clear hp hap hbk
              have hki : ¬ (k : Int) < (k : Int) := by omega
              have hr8' := hr8
              go_wp2_with (first
                | (refine wpList_load_mid rfl _ _ rfl w5.heap.size 0 rfl x.cl _ (ndR (HX8.out _ (by assumption))) Try.underlying27 rfl ndI ?_)
                | (refine wpList_load_mid rfl _ _ rfl W6.heap.size 0 rfl x.cl _ (ndR (HMm.out _ (by assumption))) Try.underlying27 rfl ndI ?_)
                | (go_at_call 12; refine (HK.out _).mono ?_; rintro e w9 ⟨rfl, h9⟩))
              go_ret
              exact ⟨rfl, low_and HB0.out (low_and HBr.out h9)⟩
          · obtain ⟨W9, hW9⟩ : ∃ W9, W9 = wr.setCells W6.heap.size 0 zeroNd.cl := ⟨_, rfl⟩
            have HZ9 := Lib.hid (show NdAt W9 W6.heap.size x by rw [hW9, hx0]; exact row_setCells (HMm.out _ hr8) rfl)
            have HX9 := Lib.hid (show NdAt W9 w5.heap.size x by rw [hW9]; exact row_setCells_other (HX8.out _ hr8) (by omega) _)
            have HB9 := Lib.hid (show Below Wa.heap.size Wa W9 by rw [hW9]; exact setCells_low _ HWA6.out HBr.out)
            have HW9 := Lib.hid hW9
            clear hW9 hx0
            by_cases hlt : (k : Int) < (len : Int)
            all_goals
              go_wp2_with (first
                | (refine wpList_store_row rfl _ _ _ rfl W6.heap.size zeroNd.cl rfl rfl (HMm.out _ hr8) rfl ndI (cl_one zeroNd) ?_; rw [← HW9.out])
                | (refine wpList_load_mid rfl _ _ rfl w5.heap.size 0 rfl x.cl _ (ndR HX9.out) Try.underlying27 rfl ndI ?_)
                | (refine wpList_load_mid rfl _ _ rfl W6.heap.size 0 rfl x.cl _ (ndR HZ9.out) Try.underlying27 rfl ndI ?_)
                | (go_at_call 12; refine (HK.out _).mono ?_; rintro e w9 ⟨rfl, h9⟩))
              go_ret
              exact ⟨rfl, low_and HB0.out (low_and HB9.out h9)⟩
end Go.Proofs.Ytbadlmicbbjkaaa
/- The nodes on a change's way: behind how many stores, which entries; plain facts; no conditions. -/
namespace Go.Proofs.Ytbadlmicbbjkaaa
open Go.RowKit
set_option linter.unusedVariables false
set_option linter.unusedSimpArgs false
theorem steps_all {base : Int} {P : Nd → Prop} : ∀ {a : List (Int × Int)} {n m : Nd}, Steps base P n a m → apL base n a = some m
  | [], n, m, h => by obtain ⟨_, rfl⟩ := h; rfl
  | s :: a, n, m, h => by
    obtain ⟨_, n', h1, h2⟩ := h
    rw [apL, h1]
    exact steps_all h2
theorem steps_take {base : Int} {P : Nd → Prop} : ∀ {a : List (Int × Int)} {n m : Nd}, Steps base P n a m → ∀ i, i ≤ a.length → ∃ k, apL base n (a.take i) = some k ∧ P k
  | a, n, m, h, 0, hi => ⟨n, by rw [List.take_zero]; rfl, h.first⟩
  | [], n, m, h, i + 1, hi => by simp at hi
  | s :: a, n, m, h, i + 1, hi => by
    obtain ⟨_, n', h1, h2⟩ := h
    obtain ⟨k, h3, h4⟩ := steps_take h2 i (by simp at hi; omega)
    refine ⟨k, ?_, h4⟩
    rw [List.take_succ_cons, apL, h1]
    exact h3
/-- Behind i stores: the entries that it had, up to the effect; behind it those that it is to have. -/
theorem eff_way {base : Int} {n : Nd} {l now : List (Int × Int)} {j : Nat} (h : Eff base n l now j) : j < l.length ∧ ∀ i, i ≤ l.length → ∃ k, apL base n (l.take i) = some k ∧ Has (if i ≤ j then n.es else now) k ∧ (i = l.length → k.inv = -1) := by
  obtain ⟨a, s, b, m1, m2, m3, rfl, rfl, s1, s2, s3, s4⟩ := h.ex
  refine ⟨by simp, fun i hi => ?_⟩
  by_cases hle : i ≤ a.length
  · obtain ⟨k, h1, h2⟩ := steps_take s1 i hle
    exact ⟨k, by rw [List.take_append_of_le_length hle]; exact h1, by rw [if_pos hle]; exact h2, fun he => by simp at he; omega⟩
  · obtain ⟨d, rfl⟩ : ∃ d, i = a.length + (d + 1) := ⟨i - a.length - 1, by omega⟩
    have hd : d ≤ b.length := by simp at hi; omega
    obtain ⟨k, h1, h2⟩ := steps_take s3 d hd
    have ht : (a ++ s :: b).take (a.length + (d + 1)) = a ++ s :: b.take d := by
      rw [List.take_length_add_append, List.take_succ_cons]
    have hk : apL base n (a ++ s :: b.take d) = some k := by
      rw [apL_two, steps_all s1]
      show apL base m1 (s :: b.take d) = some k
      rw [apL, s2]
      exact h1
    refine ⟨k, by rw [ht]; exact hk, by rw [if_neg hle]; exact h2, fun he => ?_⟩
    have hdb : d = b.length := by simp at he; omega
    rw [hdb, List.take_length, steps_all s3] at h1
    cases h1
    exact s4
theorem same_way {base : Int} {n m : Nd} {l : List (Int × Int)} (h : Steps base (Has n.es) n l m) (hi : m.inv = -1) : ∀ i, i ≤ l.length → ∃ k, apL base n (l.take i) = some k ∧ Has n.es k ∧ (i = l.length → k.inv = -1) := fun i hil => by
  obtain ⟨k, h1, h2⟩ := steps_take h i hil
  refine ⟨k, h1, h2, fun he => ?_⟩
  rw [he, List.take_length, steps_all h] at h1
  cases h1
  exact hi
end Go.Proofs.Ytbadlmicbbjkaaa
/- Which entries a node has behind how many stores of a change that is asked for, and which of them is the effect; plain facts; no conditions. -/
namespace Go.Proofs.Ytbadlmicbbjkaaa
open Go.RowKit
set_option linter.unusedVariables false
set_option linter.unusedSimpArgs false
/-- The entries behind i stores. -/
def esAt (es now : List (Int × Int)) (J : Option Nat) (i : Nat) : List (Int × Int) := match J with
  | none => es
  | some j => if i ≤ j then es else now
/-- Which store was the effect, of i. -/
def atJ (J : Option Nat) (i : Nat) : Int := match J with
  | none => -1
  | some j => if i ≤ j then -1 else (j : Int)
/-- The entries behind a change, by what it is. -/
def bhL (d key ptr : Int) : Bool → List (Int × Int) → List (Int × Int)
  | b, [] => if b = true then [(key, ptr)] else []
  | b, e :: t => (if b = true ∧ key < e.1 then [(key, ptr)] else []) ++ (if d = 1 ∧ e.1 = key then [] else if d = 3 ∧ e.1 = key then [(key, ptr)] else if d = 4 ∧ key ≤ e.1 then [] else [e]) ++ bhL d key ptr (b && !decide (key < e.1)) t
theorem bhL_cons (d key ptr : Int) (b : Bool) (e : Int × Int) (t : List (Int × Int)) : bhL d key ptr b (e :: t) = (if b = true ∧ key < e.1 then [(key, ptr)] else []) ++ (if d = 1 ∧ e.1 = key then [] else if d = 3 ∧ e.1 = key then [(key, ptr)] else if d = 4 ∧ key ≤ e.1 then [] else [e]) ++ bhL d key ptr (b && !decide (key < e.1)) t := rfl
theorem bhL_same {d key ptr : Int} (h : ∀ e, ¬ (d = 1 ∧ e = key) ∧ ¬ (d = 3 ∧ e = key) ∧ ¬ (d = 4 ∧ key ≤ e)) : ∀ l : List (Int × Int), bhL d key ptr false l = l
  | [] => rfl
  | e :: t => by
    have := h e.1
    unfold bhL
    rw [if_neg (by simp), if_neg this.1, if_neg this.2.1, if_neg this.2.2, List.nil_append, Bool.false_and, bhL_same h t]
    rfl
theorem bhL_ins_hi {key ptr : Int} : ∀ B : List (Int × Int), bhL 0 key ptr false B = B := fun B => bhL_same (fun e => ⟨by omega, by omega, by omega⟩) B
theorem bhL_ins {key ptr : Int} : ∀ A B : List (Int × Int), (∀ e ∈ A, e.1 < key) → (∀ e ∈ B, key < e.1) → bhL 0 key ptr true (A ++ B) = A ++ (key, ptr) :: B
  | [], [], _, _ => rfl
  | [], e :: B, _, hB => by
    have := hB e (by simp)
    rw [List.nil_append, List.nil_append]
    unfold bhL
    rw [if_pos ⟨rfl, this⟩, if_neg (by omega), if_neg (by omega), if_neg (by omega), decide_eq_true this]
    show _ ++ _ ++ bhL 0 key ptr false B = _
    rw [bhL_ins_hi]
    rfl
  | e :: A, B, hA, hB => by
    have := hA e (by simp)
    rw [List.cons_append, List.cons_append]
    unfold bhL
    rw [if_neg (by omega), if_neg (by omega), if_neg (by omega), if_neg (by omega), decide_eq_false (by omega)]
    show _ ++ _ ++ bhL 0 key ptr true (A ++ B) = _
    rw [bhL_ins A B (fun e he => hA e (by simp [he])) hB]
    rfl
theorem bhL_app {d key ptr : Int} (hd : d ≠ 0) : ∀ A B : List (Int × Int), bhL d key ptr false (A ++ B) = bhL d key ptr false A ++ bhL d key ptr false B
  | [], B => rfl
  | e :: A, B => by
    rw [List.cons_append, bhL_cons, bhL_cons, Bool.false_and, bhL_app hd A B]
    simp only [List.append_assoc]
theorem bhL_keep {d key ptr : Int} : ∀ l : List (Int × Int), (∀ e ∈ l, ¬ (d = 1 ∧ e.1 = key) ∧ ¬ (d = 3 ∧ e.1 = key) ∧ ¬ (d = 4 ∧ key ≤ e.1)) → bhL d key ptr false l = l
  | [], _ => rfl
  | e :: t, h => by
    have := h e (by simp)
    unfold bhL
    rw [if_neg (by simp), if_neg this.1, if_neg this.2.1, if_neg this.2.2, List.nil_append, Bool.false_and, bhL_keep t (fun e he => h e (by simp [he]))]
    rfl
theorem bhL_cut {key ptr : Int} : ∀ l : List (Int × Int), (∀ e ∈ l, key ≤ e.1) → bhL 4 key ptr false l = []
  | [], _ => rfl
  | e :: t, h => by
    have := h e (by simp)
    unfold bhL
    rw [if_neg (by simp), if_neg (by omega), if_neg (by omega), if_pos ⟨rfl, this⟩, Bool.false_and, bhL_cut t (fun e he => h e (by simp [he]))]
    rfl
/-- The keys of a whole node's entries, about one. -/
theorem es_about {n : Nd} (hm : n.may 0 false = true) {A B : List (Int × Int)} {e : Int × Int} (hes : n.es = A ++ e :: B) : (∀ x ∈ A, x.1 < e.1) ∧ ∀ x ∈ B, e.1 < x.1 := by
  have hf := (may_fit hm).1.rise
  rw [riseB_iff, hes] at hf
  have hp := hf.2
  rw [List.map_append, List.map_cons, List.pairwise_append] at hp
  refine ⟨fun x hx => hp.2.2 _ (List.mem_map_of_mem hx) _ (by simp), fun x hx => ?_⟩
  exact (List.pairwise_cons.1 hp.2.1).1 _ (List.mem_map_of_mem hx)
/-- The way of a change. -/
structure WayJ (base : Int) (n : Nd) (l now : List (Int × Int)) (J : Option Nat) : Prop where
  at_ : ∀ i, i ≤ l.length → ∃ k, apL base n (l.take i) = some k ∧ Has (esAt n.es now J i) k ∧ (i = l.length → k.inv = -1)
  lt : ∀ j, J = some j → j < l.length ∧ now ≠ n.es
theorem way_eff {base : Int} {n : Nd} {l now : List (Int × Int)} {j : Nat} (h : Eff base n l now j) : WayJ base n l now (some j) := by
  obtain ⟨h1, h2⟩ := eff_way h
  exact ⟨h2, fun i hi => by cases hi; exact ⟨h1, h.ne⟩⟩
theorem way_same {base : Int} {n m : Nd} {l now : List (Int × Int)} (h : Steps base (Has n.es) n l m) (hi : m.inv = -1) : WayJ base n l now none :=
  ⟨same_way h hi, fun i hi => by cases hi⟩
/-- Of which change which store is the effect. -/
def effOf (d : Int) (len : Nat) (J : Option Nat) : Prop := (d = 0 ∧ 2 ≤ len ∧ J = some (len - 2)) ∨ ((d = 1 ∨ d = 3 ∨ d = 4) ∧ J = some 1) ∨ ((d = 2 ∨ d = 5) ∧ J = none)
theorem ask_way {base : Int} {n : Nd} {d key ptr : Int} {l : List (Int × Int)} (h0 : 0 ≤ d) (h6 : d < 6) (h : askP base n d key ptr = (l, 0)) :
    ∃ J, WayJ base n l (bhL d key ptr (decide (d = 0)) n.es) J ∧ effOf d l.length J ∧ (J = none → bhL d key ptr (decide (d = 0)) n.es = n.es) := by
  obtain rfl | rfl | rfl | rfl | rfl | rfl : d = 0 ∨ d = 1 ∨ d = 2 ∨ d = 3 ∨ d = 4 ∨ d = 5 := by omega
  · obtain ⟨A, B, hes, hA, hB, hl, hE⟩ := eff_ins (show insP base n key ptr = (l, 0) from h)
    refine ⟨some (l.length - 2), ?_, .inl ⟨rfl, hl, rfl⟩, fun h => by cases h⟩
    rw [show decide ((0 : Int) = 0) = true from rfl]
    have : bhL 0 key ptr true n.es = A ++ (key, ptr) :: B := by rw [hes]; exact bhL_ins A B hA hB
    rw [this]
    exact way_eff hE
  · have h' : delP base n key = (l, 0) := h
    have hm : n.may 0 false = true := by
      unfold delP at h'
      split at h'
      · rename_i hE
        exact absurd (congrArg Prod.snd h') hE
      · rename_i hE
        exact (refE_zero (show refE base n [] = 0 by omega)).1
    obtain ⟨A, B, e, hes, hek, hE⟩ := eff_del h'
    refine ⟨some 1, ?_, .inr (.inl ⟨.inl rfl, rfl⟩), fun h => by cases h⟩
    obtain ⟨hA, hB⟩ := es_about hm hes
    rw [show decide ((1 : Int) = 0) = false from rfl]
    have : bhL 1 key ptr false n.es = A ++ B := by
      rw [hes, bhL_app (by omega), bhL_keep A (fun x hx => ⟨by have := hA x hx; omega, by omega, by omega⟩)]
      unfold bhL
      rw [if_neg (by simp), if_pos ⟨rfl, hek⟩, Bool.false_and, bhL_keep B (fun x hx => ⟨by have := hB x hx; omega, by omega, by omega⟩)]
      rfl
    rw [this]
    exact way_eff hE
  · obtain ⟨m, hs, hi⟩ := eff_rep (show repP base n = (l, 0) from h)
    refine ⟨none, way_same hs hi, .inr (.inr ⟨.inl rfl, rfl⟩), fun _ => ?_⟩
    exact bhL_same (fun e => ⟨by omega, by omega, by omega⟩) n.es
  · have h' : swapP base n key ptr = (l, 0) := h
    have hm : n.may 0 false = true := by
      unfold swapP at h'
      split at h'
      · rename_i hE
        exact absurd (congrArg Prod.snd h') hE
      · rename_i hE
        exact (refE_zero (refE_ptr (show refE base n [ptr] = 0 by omega)).1).1
    obtain ⟨A, B, o, hes, hE⟩ := eff_swap h'
    refine ⟨some 1, ?_, .inr (.inl ⟨.inr (.inl rfl), rfl⟩), fun h => by cases h⟩
    obtain ⟨hA, hB⟩ := es_about hm hes
    rw [show decide ((3 : Int) = 0) = false from rfl]
    have : bhL 3 key ptr false n.es = A ++ (key, ptr) :: B := by
      rw [hes, bhL_app (by omega), bhL_keep A (fun x hx => ⟨by omega, by have := hA x hx; dsimp only at this; omega, by omega⟩)]
      unfold bhL
      rw [if_neg (by simp), if_neg (by omega), if_pos ⟨rfl, rfl⟩, Bool.false_and, bhL_keep B (fun x hx => ⟨by omega, by have := hB x hx; dsimp only at this; omega, by omega⟩)]
      rfl
    rw [this]
    exact way_eff hE
  · have h' : cutP base n key = (l, 0) := h
    have hmi : n.may 0 false = true ∧ n.inv = -1 := by
      unfold cutP at h'
      split at h'
      · rename_i hE
        exact absurd (congrArg Prod.snd h') hE
      · rename_i hE
        exact refE_zero (show refE base n [] = 0 by omega)
    obtain ⟨A, B, e, hes, hA, hE⟩ := eff_cut h'
    refine ⟨some 1, ?_, .inr (.inl ⟨.inr (.inr rfl), rfl⟩), fun h => by cases h⟩
    rw [show decide ((4 : Int) = 0) = false from rfl]
    obtain ⟨k, hk, h1, h2⟩ := first_ge n key n.len
    have hAk : A = (List.range k).map n.ent := by rw [hA]; exact cut_act hmi.1 hmi.2 hk h1 h2
    obtain ⟨c, hc⟩ : ∃ c, n.len = k + c := ⟨n.len - k, by omega⟩
    have hes2 : n.es = (List.range k).map n.ent ++ ((List.range c).map (fun x => k + x)).map n.ent := by
      rw [es_range hmi.2, hc, List.range_add, List.map_append]
    have : bhL 4 key ptr false n.es = A := by
      have hkp : bhL 4 key ptr false A = A := bhL_keep A (fun x hx => ⟨by omega, by omega, by
        rw [hAk] at hx
        obtain ⟨i, hi, rfl⟩ := List.mem_map.1 hx
        have : n.key i < key := h1 i (List.mem_range.1 hi)
        show ¬ ((4 : Int) = 4 ∧ key ≤ n.key i)
        omega⟩)
      have hct : bhL 4 key ptr false (((List.range c).map (fun x => k + x)).map n.ent) = [] := bhL_cut _ (fun x hx => by
        obtain ⟨y, hy, rfl⟩ := List.mem_map.1 hx
        obtain ⟨i, hi, rfl⟩ := List.mem_map.1 hy
        have hi := List.mem_range.1 hi
        have a1 := h2 (by omega)
        have a2 := key_mono hmi.1 hmi.2 (show k ≤ k + i by omega) (by omega)
        show key ≤ n.key (k + i)
        omega)
      rw [hes2, ← hAk, bhL_app (by omega), hkp, hct, List.append_nil]
    rw [this]
    exact way_eff hE
  · obtain ⟨hi, m, hs, hi2⟩ := eff_link (show linkP base n ptr = (l, 0) from h)
    refine ⟨none, way_same hs hi2, .inr (.inr ⟨.inr rfl, rfl⟩), fun _ => ?_⟩
    exact bhL_same (fun e => ⟨by omega, by omega, by omega⟩) n.es
theorem esAt_step {es now : List (Int × Int)} {J : Option Nat} {len : Nat} (hJ : ∀ j, J = some j → j < len ∧ now ≠ es) (i : Nat) : decide (esAt es now J (i + 1) = esAt es now J i) = decide (J ≠ some i) := by
  cases J with
  | none => simp [esAt]
  | some j =>
    have hne := (hJ j rfl).2
    unfold esAt
    by_cases h1 : i + 1 ≤ j
    · simp only [if_pos h1, if_pos (show i ≤ j by omega)]
      simp
      omega
    · by_cases h2 : i ≤ j
      · have : i = j := by omega
        subst this
        simp only [if_neg h1, if_pos h2]
        simp [hne]
      · simp only [if_neg h1, if_neg h2]
        simp
        omega
theorem atJ_step (J : Option Nat) (i : Nat) : atJ J (i + 1) = if J = some i then (i : Int) else atJ J i := by
  cases J with
  | none => simp [atJ]
  | some j =>
    unfold atJ
    by_cases h : j = i
    · subst h
      simp
    · have : (some j = some i) = False := by simp [h]
      rw [if_neg (by simpa using h)]
      dsimp only
      by_cases h1 : i + 1 ≤ j
      · rw [if_pos h1, if_pos (by omega)]
      · rw [if_neg h1, if_neg (by omega)]
theorem atJ_eff (J : Option Nat) (i : Nat) (h : J = some i) : atJ J i = -1 := by
  subst h
  simp [atJ]
end Go.Proofs.Ytbadlmicbbjkaaa
