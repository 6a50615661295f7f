/- The document's Insert: of any node; conditions: numbers of the width. -/
import Derived.Test.YtbadlmicbbjkaaaN9Ref3
namespace Go.Proofs.Ytbadlmicbbjkaaa
open Go.RowKit
set_option linter.unusedVariables false
set_option linter.unusedSimpArgs false
theorem may_l {n : Nd} (h : n.may 0 false = true) : 0 ≤ n.l := by
  unfold Nd.may at h
  simp only [Bool.and_eq_true, decide_eq_true_eq] at h
  omega
theorem show_load {P : Program} {ops : Array Oper} {rest : List Oper} {Q : Exit → Act → World → Prop} {d : Option Nat} {ty t2 : TypeId} {x : Operand} {ps : String} {af : Array Edge} {a : Act} {w : World} (h : wpList P ops Q (⟨d, .load ty x, t2, ps, af, none⟩ :: rest) a w) : wpList P ops Q (⟨d, .load ty x, t2, ps, af, none⟩ :: rest) a w := h
theorem flatE_three (a b c : Int × Int) : flatE [a, b, c] = [uw a.1, uw a.2, uw b.1, uw b.2, uw c.1, uw c.2] := rfl
set_option maxRecDepth 100000 in
set_option maxHeartbeats 8000000 in
theorem r9ins_any {base : Int} (hb : 0 ≤ base) (n : Nd) (key ptr : Int) (w : World) : Calls Try.prog 29 #[.int .u64 base, n.V, .int .u64 key, .int .u64 ptr] w (PutsOut w (insP base n key ptr)) := by
  obtain ⟨i0, hi, hz0, hz1, hz2⟩ := info_parts infoPut
  have r0 := Row.new w 27 n.cl.toArray
  obtain ⟨Wa, hWa⟩ : ∃ Wa, Wa = w.alloc (.cells n.cl.toArray 27) := ⟨_, rfl⟩
  rw [← hWa] at r0
  have hb0 : Below w.heap.size w Wa := by rw [hWa]; exact alloc_low _ _
  have HB0 := Lib.hid hb0
  have HRR := Lib.hid (fun W' (hb : Below Wa.heap.size Wa W') => (show NdAt W' w.heap.size n from r0.below hb r0.lt))
  have HWa := Lib.hid hWa
  have HWs := Lib.hid (show w.heap.size ≤ Wa.heap.size from hb0.size)
  have hl8 := n.len_le
  have hr0 := Below.refl Wa.heap.size Wa
  have HMy := Lib.hid (fun W' => r9may_any hb n W')
  have EGp := Lib.hid (enters_of Try.func38 (by kernel_rfl) rfl)
  have EGa := Lib.hid (enters_of Try.func64 (by kernel_rfl) rfl)
  have EGg := Lib.hid (enters_of Try.func66 (by kernel_rfl) rfl)
  have EGw := Lib.hid (enters_of Try.func65 (by kernel_rfl) rfl)
  have EGi := Lib.hid (enters_of Try.func18 (by kernel_rfl) rfl)
  have EGk := Lib.hid (enters_of Try.func37 (by kernel_rfl) rfl)
  have HHd := Lib.hid (fun W' => r9had_any n ptr W')
  have HFd0 := Lib.hid (fun W' => r8Find_any n key W')
  have HC0 := Lib.hid (fun W' (hb : Below Wa.heap.size Wa W') => (show W'.cell? ⟨w.heap.size, 0, none⟩ = some (.int .i64 n.l) from ndAt_at (HRR.out W' hb) 0))
  have HC1 := Lib.hid (fun W' (hb : Below Wa.heap.size Wa W') => (show W'.cell? ⟨w.heap.size, 1, none⟩ = some (.int .u64 n.lo) from ndAt_at (HRR.out W' hb) 1))
  have HL := Lib.hid (fun W' => r8Len_any n W')
  have HLa0 := Lib.hid (fun W' => r8Last_any n key W')
  have hP : insP base n key ptr = if refE base n [ptr] ≠ 0 then ([], refE base n [ptr]) else if ((n.find key).isSome || !n.mayHave key) = true then ([], 2) else if n.len = 8 then ([], 4) else (insL base n key ptr, 0) := rfl
  rw [refE_had] at hP
  have hbb := fun h => refE_base (b := base) (n := n) (l := []) h
  have hzz := fun h => may_l (refE_zero (b := base) (n := n) h).1
  have hvv := refE_vals base n
  have hfe : fndL n key n.vp = match n.find key with | some p => (p : Int) | none => -1 := rfl
  rw [hfe] at HFd0
  have hal := at_len n key
  have HMk := Lib.hid (show insL base n key ptr = wholeL base n ((if n.len < 7 then [(pA base (n.len + 1), 0)] else []) ++ (upN base n (n.at key) (n.len - n.at key) ++ [(pA base (n.at key), n.ahd (n.at key))]) ++ [(kA base (n.at key), key), (pA base (n.at key), ptr)]) from rfl)
  have HUL := Lib.hid (fun p c => upN_len base n p c)
  have hmh : n.mayHave key = (decide (n.lo < key) || (decide (key = n.lo) && decide (n.l = 0))) := rfl
  rw [hmh] at hP
  generalize insL base n key ptr = IL at hP HMk
  generalize n.find key = f at HFd0 hP
  generalize hR : insP base n key ptr = R at hP ⊢
  generalize refE base n [] = E at HMy hP hbb hvv hzz
  generalize n.had ptr = hd at HHd hP
  obtain ⟨p, hp⟩ : ∃ p, p = n.at key := ⟨_, rfl⟩
  rw [← hp] at HLa0 HMk hal
  have hwp : IntKind.i64.wrap ((p : Int) - 1 + 1) = (p : Int) := by rw [IntKind.wrap_i64]; omega
  clear r0 hWa hb0 hR hfe hp hmh
  rcases hvv with rfl | rfl | rfl
  · cases hd with
    | true =>
      have HR := Lib.hid (show R = ([], 2) by rw [hP]; simp)
      clear hP hbb hzz
      go_enter Try.func29, Try.ntmps29
      go_wp2_with (first
            | (rw [← HWa.out]; (refine wpList_load_mid rfl 27 _ rfl w.heap.size 0 rfl n.cl _ (ndR (HRR.out _ (by assumption))) Try.underlying27 rfl ndI ?_))
            | (refine wpList_load_mid rfl 27 _ rfl w.heap.size 0 rfl n.cl _ (ndR (HRR.out _ (by assumption))) Try.underlying27 rfl ndI ?_)
            | (go_at_call 60; refine (HMy.out _).mono ?_; rintro e w1 ⟨rfl, h1⟩; have h1 := low_and hr0 h1)
            | (refine wpList_load_midg (by rfl) 27 _ rfl w.heap.size 0 rfl n.cl _ (ndR (HRR.out _ (by assumption))) Try.underlying27 rfl ndI ?_)
            | (go_at_call 61; refine (HHd.out _).mono ?_; rintro e wh ⟨rfl, hh⟩; have h1 := low_and h1 hh))
      go_ret2
      rw [HR.out]
      exact ⟨⟨_, rfl, World.ownsRow_nil _ _ _ _⟩, low_and HB0.out h1⟩
    | false =>
      rw [if_neg (show ¬ ((0 : Int) = 2 ∨ false = true) by simp), if_neg (by simp)] at hP
      have hbse := hbb rfl
      have hl0 := hzz rfl
      clear hbb hzz
      cases f with
      | some x =>
        have HFd := Lib.hid (fun W' => (HFd0.out W').mono fun e w' h => (show e = .returned (.int .i64 (x : Int)) ∧ Below W'.heap.size W' w' from h))
        clear HFd0
        have hx0 : 0 ≤ (x : Int) := by omega
        have HR := Lib.hid (show R = ([], 2) by rw [hP]; simp)
        clear hP
        go_enter Try.func29, Try.ntmps29
        go_wp2_with (first
              | (rw [← HWa.out]; (refine wpList_load_mid rfl 27 _ rfl w.heap.size 0 rfl n.cl _ (ndR (HRR.out _ (by assumption))) Try.underlying27 rfl ndI ?_))
              | (refine wpList_load_mid rfl 27 _ rfl w.heap.size 0 rfl n.cl _ (ndR (HRR.out _ (by assumption))) Try.underlying27 rfl ndI ?_)
              | (go_at_call 60; refine (HMy.out _).mono ?_; rintro e w1 ⟨rfl, h1⟩; have h1 := low_and hr0 h1)
              | (refine wpList_load_midg (by rfl) 27 _ rfl w.heap.size 0 rfl n.cl _ (ndR (HRR.out _ (by assumption))) Try.underlying27 rfl ndI ?_)
              | (go_at_call 61; refine (HHd.out _).mono ?_; rintro e wh ⟨rfl, hh⟩; have h1 := low_and h1 hh))
        go_at_call 62
        refine (HFd.out _).mono ?_
        rintro e w2 ⟨rfl, h2⟩
        have h2 := low_and h1 h2
        have c0 := HC0.out _ h2
        have c1 := HC1.out _ h2
        go_wp2_with ((with_reducible refine show_load ?_); refine wpList_load_mid rfl 27 _ rfl w.heap.size 0 rfl n.cl _ (ndR (HRR.out _ (by assumption))) Try.underlying27 rfl ndI ?_)
        go_ret2
        rw [HR.out]
        exact ⟨⟨_, rfl, World.ownsRow_nil _ _ _ _⟩, low_and HB0.out h2⟩
      | none =>
        have HFd := Lib.hid (fun W' => (HFd0.out W').mono fun e w' h => (show e = .returned (.int .i64 (-1)) ∧ Below W'.heap.size W' w' from h))
        clear HFd0
        rw [show (none : Option Nat).isSome = false from rfl, Bool.false_or] at hP
        obtain ⟨lo, hlo⟩ : ∃ lo, lo = n.lo := ⟨_, rfl⟩
        obtain ⟨lv, hlv⟩ : ∃ lv, lv = n.l := ⟨_, rfl⟩
        rw [← hlo] at hP HC1
        rw [← hlv] at hP HC0 hl0
        clear hlo hlv
        obtain hA | hA : key < lo ∨ ¬ key < lo := by omega
        · have hA1 : ¬ lo < key := by omega
          have hA2 : ¬ key = lo := by omega
          have HR := Lib.hid (show R = ([], 2) by rw [hP]; simp [hA1, hA2])
          clear hP
          go_enter Try.func29, Try.ntmps29
          go_wp2_with (first
                | (rw [← HWa.out]; (refine wpList_load_mid rfl 27 _ rfl w.heap.size 0 rfl n.cl _ (ndR (HRR.out _ (by assumption))) Try.underlying27 rfl ndI ?_))
                | (refine wpList_load_mid rfl 27 _ rfl w.heap.size 0 rfl n.cl _ (ndR (HRR.out _ (by assumption))) Try.underlying27 rfl ndI ?_)
                | (go_at_call 60; refine (HMy.out _).mono ?_; rintro e w1 ⟨rfl, h1⟩; have h1 := low_and hr0 h1)
                | (refine wpList_load_midg (by rfl) 27 _ rfl w.heap.size 0 rfl n.cl _ (ndR (HRR.out _ (by assumption))) Try.underlying27 rfl ndI ?_)
                | (go_at_call 61; refine (HHd.out _).mono ?_; rintro e wh ⟨rfl, hh⟩; have h1 := low_and h1 hh))
          go_at_call 62
          refine (HFd.out _).mono ?_
          rintro e w2 ⟨rfl, h2⟩
          have h2 := low_and h1 h2
          have c0 := HC0.out _ h2
          have c1 := HC1.out _ h2
          go_wp2_with ((with_reducible refine show_load ?_); refine wpList_load_mid rfl 27 _ rfl w.heap.size 0 rfl n.cl _ (ndR (HRR.out _ (by assumption))) Try.underlying27 rfl ndI ?_)
          go_ret2
          rw [HR.out]
          exact ⟨⟨_, rfl, World.ownsRow_nil _ _ _ _⟩, low_and HB0.out h2⟩
        · obtain ⟨hB, hB2⟩ | hB : (0 < lv ∧ key = lo) ∨ ¬ (0 < lv ∧ key = lo) := by omega
          · subst hB2
            have hB3 : ¬ lv = 0 := by omega
            have HR := Lib.hid (show R = ([], 2) by rw [hP]; simp [hB3])
            clear hP
            go_enter Try.func29, Try.ntmps29
            go_wp2_with (first
                  | (rw [← HWa.out]; (refine wpList_load_mid rfl 27 _ rfl w.heap.size 0 rfl n.cl _ (ndR (HRR.out _ (by assumption))) Try.underlying27 rfl ndI ?_))
                  | (refine wpList_load_mid rfl 27 _ rfl w.heap.size 0 rfl n.cl _ (ndR (HRR.out _ (by assumption))) Try.underlying27 rfl ndI ?_)
                  | (go_at_call 60; refine (HMy.out _).mono ?_; rintro e w1 ⟨rfl, h1⟩; have h1 := low_and hr0 h1)
                  | (refine wpList_load_midg (by rfl) 27 _ rfl w.heap.size 0 rfl n.cl _ (ndR (HRR.out _ (by assumption))) Try.underlying27 rfl ndI ?_)
                  | (go_at_call 61; refine (HHd.out _).mono ?_; rintro e wh ⟨rfl, hh⟩; have h1 := low_and h1 hh))
            go_at_call 62
            refine (HFd.out _).mono ?_
            rintro e w2 ⟨rfl, h2⟩
            have h2 := low_and h1 h2
            have c0 := HC0.out _ h2
            have c1 := HC1.out _ h2
            go_wp2_with ((with_reducible refine show_load ?_); refine wpList_load_mid rfl 27 _ rfl w.heap.size 0 rfl n.cl _ (ndR (HRR.out _ (by assumption))) Try.underlying27 rfl ndI ?_)
            go_ret2
            rw [HR.out]
            exact ⟨⟨_, rfl, World.ownsRow_nil _ _ _ _⟩, low_and HB0.out h2⟩
          · have hmt : (!(decide (lo < key) || (decide (key = lo) && decide (lv = 0)))) = false := by
              obtain h | ⟨h, h2⟩ : lo < key ∨ (key = lo ∧ lv = 0) := by omega
              · simp [h]
              · simp [h, h2]
            rw [hmt, if_neg (by simp)] at hP
            have HP0 := Lib.hid hP
            clear hP hmt
            obtain ⟨q, hq⟩ : ∃ q, q = n.len := ⟨_, rfl⟩
            rw [← hq] at HP0 HMk hal HL hl8
            clear hq
            obtain ⟨hV, hV2⟩ | hV : (0 < lv ∧ ¬ key = lo) ∨ ¬ 0 < lv := by omega
            · have hV3 : (key == lo) = false := by simpa using hV2
              obtain hq8 | hq8 : q = 8 ∨ q < 8 := by omega
              · subst hq8
                have HR := Lib.hid (show R = ([], 4) by rw [HP0.out]; rfl)
                go_enter Try.func29, Try.ntmps29
                go_wp2_with (first
                      | (rw [← HWa.out]; (refine wpList_load_mid rfl 27 _ rfl w.heap.size 0 rfl n.cl _ (ndR (HRR.out _ (by assumption))) Try.underlying27 rfl ndI ?_))
                      | (refine wpList_load_mid rfl 27 _ rfl w.heap.size 0 rfl n.cl _ (ndR (HRR.out _ (by assumption))) Try.underlying27 rfl ndI ?_)
                      | (go_at_call 60; refine (HMy.out _).mono ?_; rintro e w1 ⟨rfl, h1⟩; have h1 := low_and hr0 h1)
                      | (refine wpList_load_midg (by rfl) 27 _ rfl w.heap.size 0 rfl n.cl _ (ndR (HRR.out _ (by assumption))) Try.underlying27 rfl ndI ?_)
                      | (go_at_call 61; refine (HHd.out _).mono ?_; rintro e wh ⟨rfl, hh⟩; have h1 := low_and h1 hh))
                go_at_call 62
                refine (HFd.out _).mono ?_
                rintro e w2 ⟨rfl, h2⟩
                have h2 := low_and h1 h2
                have c0 := HC0.out _ h2
                have c1 := HC1.out _ h2
                go_wp2_with ((with_reducible refine show_load ?_); refine wpList_load_mid rfl 27 _ rfl w.heap.size 0 rfl n.cl _ (ndR (HRR.out _ (by assumption))) Try.underlying27 rfl ndI ?_)
                go_at_call 39
                refine (HL.out _).mono ?_
                rintro e w3 ⟨rfl, h3⟩
                have h3 := low_and h2 h3
                go_wp2_with ((with_reducible refine show_load ?_); refine wpList_load_mid rfl 27 _ rfl w.heap.size 0 rfl n.cl _ (ndR (HRR.out _ (by assumption))) Try.underlying27 rfl ndI ?_)
                go_ret2
                rw [HR.out]
                exact ⟨⟨_, rfl, World.ownsRow_nil _ _ _ _⟩, low_and HB0.out h3⟩
              · have HP := Lib.hid (show R = (IL, 0) by rw [HP0.out, if_neg (by omega)])
                have hpq : p ≤ q := hal
                have hq8n : ¬ (q : Int) = 8 := by omega
                have hq8b : ((q : Int) == 8) = false := by simpa using hq8n
                have HLa := HLa0
                obtain hq7n | hq7n : q < 7 ∨ ¬ q < 7 := by omega
                · skip
                  have HPt1 := Lib.hid (fun W => pt_any hbse (i := q + 1) (by omega) W)
                  have hwq : IntKind.i64.wrap ((q : Int) + 1) = ((q + 1 : Nat) : Int) := by rw [IntKind.wrap_i64]; omega
                  have hq7 : (q : Int) < 7 := by omega
                  have HR := Lib.hid (show R = (wholeL base n ([(pA base (q + 1), 0)] ++ (upN base n p (q - p) ++ [(pA base p, n.ahd p)]) ++ [(kA base p, key), (pA base p, ptr)]), 0) by rw [HP.out, HMk.out]; simp [hq7n])
                  go_enter Try.func29, Try.ntmps29
                  go_wp2_with (first
                        | (rw [← HWa.out]; (refine wpList_load_mid rfl 27 _ rfl w.heap.size 0 rfl n.cl _ (ndR (HRR.out _ (by assumption))) Try.underlying27 rfl ndI ?_))
                        | (refine wpList_load_mid rfl 27 _ rfl w.heap.size 0 rfl n.cl _ (ndR (HRR.out _ (by assumption))) Try.underlying27 rfl ndI ?_)
                        | (go_at_call 60; refine (HMy.out _).mono ?_; rintro e w1 ⟨rfl, h1⟩; have h1 := low_and hr0 h1)
                        | (refine wpList_load_midg (by rfl) 27 _ rfl w.heap.size 0 rfl n.cl _ (ndR (HRR.out _ (by assumption))) Try.underlying27 rfl ndI ?_)
                        | (go_at_call 61; refine (HHd.out _).mono ?_; rintro e wh ⟨rfl, hh⟩; have h1 := low_and h1 hh))
                  go_at_call 62
                  refine (HFd.out _).mono ?_
                  rintro e w2 ⟨rfl, h2⟩
                  have h2 := low_and h1 h2
                  have c0 := HC0.out _ h2
                  have c1 := HC1.out _ h2
                  go_wp2_with ((with_reducible refine show_load ?_); refine wpList_load_mid rfl 27 _ rfl w.heap.size 0 rfl n.cl _ (ndR (HRR.out _ (by assumption))) Try.underlying27 rfl ndI ?_)
                  go_at_call 39
                  refine (HL.out _).mono ?_
                  rintro e w3 ⟨rfl, h3⟩
                  have h3 := low_and h2 h3
                  go_wp2_with ((with_reducible refine show_load ?_); refine wpList_load_mid rfl 27 _ rfl w.heap.size 0 rfl n.cl _ (ndR (HRR.out _ (by assumption))) Try.underlying27 rfl ndI ?_)
                  go_at_call 38
                  refine (HPt1.out _).mono ?_
                  rintro e w5 ⟨rfl, rfl⟩
                  go_wp2_with (first
                    | ((with_reducible refine show_load ?_); refine wpList_load_mid rfl 27 _ rfl w.heap.size 0 rfl n.cl _ (ndR (HRR.out _ (by assumption))) Try.underlying27 rfl ndI ?_)
                    | (at_builtin; refine wpList_append_own _ rfl _ _ 30 rfl Wa.heap.size 45 i0 (.agg #[.int .u64 0, .int .u64 0]) 2 16 Try.underlying30 hi hz0 hz1 hz2 rfl (by decide) _ 0 _ rfl (World.ownsRow_nil _ _ _ _) ⟨w3.heap.size, 0, none⟩ 1 1 [.int .u64 (pA base (q + 1)), .int .u64 0] rfl rfl ?q1 ?q2 ?q3 ?q4 ?q5 ?_))
                  case q1 =>
                    have hr := Row.new w3 45 #[.int .u64 (pA base (q + 1)), .int .u64 0]
                    intro j u hj
                    rw [Addr.add_lit, hr.cell, Nat.zero_add]
                    simpa using hj
                  case q2 => simp [Value.oneCell']
                  case q3 => unfold maxLen; omega
                  case q4 => omega
                  case q5 => have := h3.size; simp; omega
                  intro v' w4 hown hgrow hnil
                  have HO4 := Lib.hid hown
                  have HHH : Below Wa.heap.size Wa w4 := (low_and h3 (alloc_low _ _)).grown hgrow (by have := h3.size; simp; omega) (fun j hj => by cases hj)
                  clear hown hgrow hnil
                  go_wp2_with ((with_reducible refine show_load ?_); refine wpList_load_mid rfl 27 _ rfl w.heap.size 0 rfl n.cl _ (ndR (HRR.out _ (by assumption))) Try.underlying27 rfl ndI ?_)
                  go_at_call 63
                  refine (HLa.out _).mono ?_
                  rintro e wl ⟨rfl, hl⟩
                  have HLW := hl
                  have hl := low_and HHH hl
                  go_wp2_with ((with_reducible refine show_load ?_); refine wpList_load_mid rfl 27 _ rfl w.heap.size 0 rfl n.cl _ (ndR (HRR.out _ (by assumption))) Try.underlying27 rfl ndI ?_)
                  go_loopw [12, 14] (fun o i wr => ∃ k : Nat, p ≤ k ∧ k ≤ q ∧ i = .int .i64 (k : Int) ∧ ∃ m : List (Int × Int), m ++ upN base n p (k - p) = [(pA base (q + 1), 0)] ++ upN base n p (q - p) ∧ wr.ownsRow Wa.heap.size 45 2 o m.length (flatE m) ∧ m.length ≤ 1 + 2 * (q - k) ∧ Below Wa.heap.size Wa wr) (fun _ i _ => (intOf i).toNat)
                  case atStart => exact ⟨q, hpq, Nat.le_refl _, rfl, [(pA base (q + 1), 0)], rfl, ownS_low HO4.out HLW, by simp, hl⟩
                  case round =>
                    rename World => wr
                    obtain ⟨k, hpk, hkq, rfl, m, hm, ho, hml, hb⟩ := hrel
                    have HM := Lib.hid hm
                    have HO := Lib.hid ho
                    clear hm ho
                    by_cases hlt : p < k
                    · obtain ⟨j, rfl⟩ : ∃ j, k = j + 1 := ⟨k - 1, by omega⟩
                      have hki : (p : Int) < ((j + 1 : Nat) : Int) := by omega
                      have hwk : IntKind.i64.wrap (((j + 1 : Nat) : Int) - 1) = (j : Int) := by rw [IntKind.wrap_i64]; omega
                      have hwj : IntKind.i64.wrap (j : Int) = (j : Int) := by rw [IntKind.wrap_i64]; omega
                      have hwj1 : IntKind.i64.wrap ((j : Int) + 1 - 1) = (j : Int) := by rw [IntKind.wrap_i64]; omega
                      have hj8 : (j : Int) < 8 := by omega
                      have hj0 : ¬ (j : Int) < 0 := by omega
                      have HK := Lib.hid (fun W => (show Calls Try.prog 37 #[.int .u64 base, .int .i64 ((j : Int) + 1)] W fun e w' => e = .returned (.int .u64 (kA base (j + 1))) ∧ W = w' from kt_any hbse (i := j + 1) (by omega) W))
                      have HPt := Lib.hid (fun W => (show Calls Try.prog 38 #[.int .u64 base, .int .i64 ((j : Int) + 1)] W fun e w' => e = .returned (.int .u64 (pA base (j + 1))) ∧ W = w' from pt_any hbse (i := j + 1) (by omega) W))
                      have HST := Lib.hid (show upN base n p (j + 1 - p) = [(pA base (j + 1), n.ptr j), (kA base (j + 1), n.key j)] ++ upN base n p (j - p) by rw [show j + 1 - p = (j - p) + 1 by omega, upN, show p + (j - p) = j by omega] <;> rfl)
                      have hN := fun W' (hb : Below Wa.heap.size Wa W') => And.intro (ndAt_key (HRR.out W' hb) (i := j) (by omega)) (ndAt_ptr (HRR.out W' hb) (i := j) (by omega))
                      obtain ⟨y, hy⟩ : ∃ y, y = n.key j := ⟨_, rfl⟩
                      obtain ⟨z, hz⟩ : ∃ z, z = n.ptr j := ⟨_, rfl⟩
                      rw [← hy, ← hz] at HST hN
                      have STAY := Lib.hid (fun W' (hb : Below Wa.heap.size Wa W') => And.intro (hN W' hb).1 (And.intro (hN W' hb).2 hb))
                      clear hy hz hN
                      go_wp2_with fail
                      refine wp_region_held_drew (S := fun W' => W'.cell? ⟨w.heap.size, 5 + j, none⟩ = some (.int .u64 y) ∧ W'.cell? ⟨w.heap.size, 13 + j, none⟩ = some (.int .u64 z) ∧ Below Wa.heap.size Wa W') (by kernel_rfl) (STAY.out _ (low_and hb (drew_low9 _))) (fun hHeld => ?_)
                      refine wpAnyH_take (i := 0) (oi := ⟨some 73, _, _, _, _, _⟩) (v := u12) rfl (by kernel_rfl) (by kernel_rfl) (by kernel_rfl) (fun _ _ _ h => h) (Or.inl ⟨by rfl, by intro WW hSw; (try dsimp only at hSw); go_simp⟩) (by assumption) ?_
                      (try simp only [Act.put, List.setIfInBounds_toArray, List.set_cons_zero, List.set_cons_succ])
                      refine wpAnyH_take (i := 1) (oi := ⟨some 74, _, _, _, _, _⟩) (v := .int .u64 base) rfl (by kernel_rfl) (by kernel_rfl) (by kernel_rfl) (fun _ _ _ h => h) (Or.inl ⟨by rfl, by intro WW hSw; (try dsimp only at hSw); go_simp⟩) (by assumption) ?_
                      (try simp only [Act.put, List.setIfInBounds_toArray, List.set_cons_zero, List.set_cons_succ])
                      refine wpAnyH_take (i := 2) (oi := ⟨some 75, _, _, _, _, _⟩) (v := .int .i64 ((j : Int) + 1)) rfl (by kernel_rfl) (by kernel_rfl) (by kernel_rfl) (fun _ _ _ h => h) (Or.inl ⟨by rfl, by intro WW hSw; (try dsimp only at hSw); go_simp⟩) (by assumption) ?_
                      (try simp only [Act.put, List.setIfInBounds_toArray, List.set_cons_zero, List.set_cons_succ])
                      refine wpAnyH_take (i := 4) (oi := ⟨some 77, _, _, _, _, _⟩) (v := .int .i64 ((j : Int) + 1)) rfl (by kernel_rfl) (by kernel_rfl) (by kernel_rfl) (fun _ _ _ h => h) (Or.inl ⟨by rfl, by intro WW hSw; (try dsimp only at hSw); go_simp⟩) (by assumption) ?_
                      (try simp only [Act.put, List.setIfInBounds_toArray, List.set_cons_zero, List.set_cons_succ])
                      refine wpAnyH_take (i := 5) (oi := ⟨some 78, _, _, _, _, _⟩) (v := .int .i64 (j : Int)) rfl (by kernel_rfl) (by kernel_rfl) (by kernel_rfl) (fun _ _ _ h => h) (Or.inl ⟨by rfl, by intro WW hSw; (try dsimp only at hSw); go_simp⟩) (by assumption) ?_
                      (try simp only [Act.put, List.setIfInBounds_toArray, List.set_cons_zero, List.set_cons_succ])
                      refine wpAnyH_take (i := 6) (oi := ⟨some 79, _, _, _, _, _⟩) (v := .pointer (some ⟨w.heap.size, 13, none⟩)) rfl (by kernel_rfl) (by kernel_rfl) (by kernel_rfl) (fun _ _ _ h => h) (Or.inl ⟨by rfl, by intro WW hSw; (try dsimp only at hSw); go_simp⟩) (by assumption) ?_
                      (try simp only [Act.put, List.setIfInBounds_toArray, List.set_cons_zero, List.set_cons_succ])
                      refine wpAnyH_take (i := 7) (oi := ⟨some 80, _, _, _, _, _⟩) (v := .pointer (some ⟨w.heap.size, 13 + j, none⟩)) rfl (by kernel_rfl) (by kernel_rfl) (by kernel_rfl) (fun _ _ _ h => h) (Or.inl ⟨by rfl, by intro WW hSw; (try dsimp only at hSw); go_simp⟩) (by assumption) ?_
                      (try simp only [Act.put, List.setIfInBounds_toArray, List.set_cons_zero, List.set_cons_succ])
                      refine wpAnyH_take (i := 8) (oi := ⟨some 81, _, _, _, _, _⟩) (v := .int .u64 z) rfl (by kernel_rfl) (by kernel_rfl) (by kernel_rfl) (fun _ _ _ h => h) (Or.inl ⟨by rfl, by intro WW hSw; (try dsimp only at hSw); go_simp⟩) (by assumption) ?_
                      (try simp only [Act.put, List.setIfInBounds_toArray, List.set_cons_zero, List.set_cons_succ])
                      refine wpAnyH_take (i := 10) (oi := ⟨some 83, _, _, _, _, _⟩) (v := .int .u64 base) rfl (by kernel_rfl) (by kernel_rfl) (by kernel_rfl) (fun _ _ _ h => h) (Or.inl ⟨by rfl, by intro WW hSw; (try dsimp only at hSw); go_simp⟩) (by assumption) ?_
                      (try simp only [Act.put, List.setIfInBounds_toArray, List.set_cons_zero, List.set_cons_succ])
                      refine wpAnyH_take (i := 11) (oi := ⟨some 84, _, _, _, _, _⟩) (v := .int .i64 ((j : Int) + 1)) rfl (by kernel_rfl) (by kernel_rfl) (by kernel_rfl) (fun _ _ _ h => h) (Or.inl ⟨by rfl, by intro WW hSw; (try dsimp only at hSw); go_simp⟩) (by assumption) ?_
                      (try simp only [Act.put, List.setIfInBounds_toArray, List.set_cons_zero, List.set_cons_succ])
                      refine wpAnyH_take (i := 13) (oi := ⟨some 86, _, _, _, _, _⟩) (v := .int .i64 ((j : Int) + 1)) rfl (by kernel_rfl) (by kernel_rfl) (by kernel_rfl) (fun _ _ _ h => h) (Or.inl ⟨by rfl, by intro WW hSw; (try dsimp only at hSw); go_simp⟩) (by assumption) ?_
                      (try simp only [Act.put, List.setIfInBounds_toArray, List.set_cons_zero, List.set_cons_succ])
                      refine wpAnyH_take (i := 14) (oi := ⟨some 87, _, _, _, _, _⟩) (v := .int .i64 (j : Int)) rfl (by kernel_rfl) (by kernel_rfl) (by kernel_rfl) (fun _ _ _ h => h) (Or.inl ⟨by rfl, by intro WW hSw; (try dsimp only at hSw); go_simp⟩) (by assumption) ?_
                      (try simp only [Act.put, List.setIfInBounds_toArray, List.set_cons_zero, List.set_cons_succ])
                      refine wpAnyH_take (i := 15) (oi := ⟨some 88, _, _, _, _, _⟩) (v := .pointer (some ⟨w.heap.size, 5, none⟩)) rfl (by kernel_rfl) (by kernel_rfl) (by kernel_rfl) (fun _ _ _ h => h) (Or.inl ⟨by rfl, by intro WW hSw; (try dsimp only at hSw); go_simp⟩) (by assumption) ?_
                      (try simp only [Act.put, List.setIfInBounds_toArray, List.set_cons_zero, List.set_cons_succ])
                      refine wpAnyH_take (i := 16) (oi := ⟨some 89, _, _, _, _, _⟩) (v := .pointer (some ⟨w.heap.size, 5 + j, none⟩)) rfl (by kernel_rfl) (by kernel_rfl) (by kernel_rfl) (fun _ _ _ h => h) (Or.inl ⟨by rfl, by intro WW hSw; (try dsimp only at hSw); go_simp⟩) (by assumption) ?_
                      (try simp only [Act.put, List.setIfInBounds_toArray, List.set_cons_zero, List.set_cons_succ])
                      refine wpAnyH_take (i := 17) (oi := ⟨some 90, _, _, _, _, _⟩) (v := .int .u64 y) rfl (by kernel_rfl) (by kernel_rfl) (by kernel_rfl) (fun _ _ _ h => h) (Or.inl ⟨by rfl, by intro WW hSw; (try dsimp only at hSw); go_simp⟩) (by assumption) ?_
                      (try simp only [Act.put, List.setIfInBounds_toArray, List.set_cons_zero, List.set_cons_succ])
                      refine wpAnyH_one (i := 3) (oi := ⟨some 76, _, _, _, _, _⟩) rfl (by kernel_rfl) (fun K hK => ?_)
                      refine step_calls (by rfl) 38 EGp.out [.tmp 74, .tmp 75] _ rfl [.int .u64 base, .int .i64 ((j : Int) + 1)] rfl (HPt.out _) ?_
                      rintro e w5 ⟨rfl, rfl⟩
                      refine ⟨_, rfl, hK _ _ (hHeld) (fun hSn => ?_)⟩
                      clear hK K
                      (try simp only [Act.put, List.setIfInBounds_toArray, List.set_cons_zero, List.set_cons_succ])
                      refine wpAnyH_take (i := 9) (oi := ⟨some 82, _, _, _, _, _⟩) (v := .agg #[.int .u64 (pA base (j + 1)), .int .u64 z]) rfl (by kernel_rfl) (by kernel_rfl) (by kernel_rfl) (fun _ _ _ h => h) (Or.inl ⟨by rfl, by intro WW hSw; (try dsimp only at hSw); go_simp⟩) (by assumption) ?_
                      (try simp only [Act.put, List.setIfInBounds_toArray, List.set_cons_zero, List.set_cons_succ])
                      refine wpAnyH_one (i := 12) (oi := ⟨some 85, _, _, _, _, _⟩) rfl (by kernel_rfl) (fun K hK => ?_)
                      refine step_calls (by rfl) 37 EGk.out [.tmp 83, .tmp 84] _ rfl [.int .u64 base, .int .i64 ((j : Int) + 1)] rfl (HK.out _) ?_
                      rintro e w6 ⟨rfl, rfl⟩
                      refine ⟨_, rfl, hK _ _ (hHeld) (fun hSn => ?_)⟩
                      clear hK K
                      (try simp only [Act.put, List.setIfInBounds_toArray, List.set_cons_zero, List.set_cons_succ])
                      refine wpAnyH_take (i := 18) (oi := ⟨some 91, _, _, _, _, _⟩) (v := .agg #[.int .u64 (kA base (j + 1)), .int .u64 y]) rfl (by kernel_rfl) (by kernel_rfl) (by kernel_rfl) (fun _ _ _ h => h) (Or.inl ⟨by rfl, by intro WW hSw; (try dsimp only at hSw); go_simp⟩) (by assumption) ?_
                      (try simp only [Act.put, List.setIfInBounds_toArray, List.set_cons_zero, List.set_cons_succ])
                      refine wpAnyH_one (i := 19) (oi := ⟨some 92, _, _, _, _, _⟩) rfl (by kernel_rfl) (fun K hK => ?_)
                      rw [if_pos (by rfl)]
                      unfold Oper.wp
                      go_simp
                      refine hK _ _ (STAY.out _ (low_and hb (low_and (alloc_low _ _) (drew_low9 _)))) (fun hSn => ?_)
                      clear hK K
                      (try simp only [Act.put, List.setIfInBounds_toArray, List.set_cons_zero, List.set_cons_succ])
                      refine wpAnyH_one (i := 20) (oi := ⟨some 93, _, _, _, _, _⟩) rfl (by kernel_rfl) (fun K hK => ?_)
                      refine step_append_lies _ (by rfl) (.tmp 73) (.tmp 92) _ (by rfl) Wa.heap.size 45 i0 (.agg #[.int .u64 0, .int .u64 0]) 2 16 rfl hi hz0 hz1 hz2 rfl (by decide) _ _ _ (by rfl) (ownS_low HO.out (low_and (alloc_low _ _) (drew_low9 _))) ⟨wr.heap.size, 0, none⟩ 2 2 [.int .u64 (pA base (j + 1)), .int .u64 z, .int .u64 (kA base (j + 1)), .int .u64 y] (by rfl) (by rfl) (World.news_of_block (cs := #[.int .u64 (pA base (j + 1)), .int .u64 z, .int .u64 (kA base (j + 1)), .int .u64 y]) (t := 45) (fr := (0, 0)) (heap_alloc_new9 _ _)) (by intro u hu; simp at hu; rcases hu with rfl | rfl | rfl | rfl <;> rfl) (by decide) (by unfold maxLen; omega) (by omega) (by simp; have := hb.size; omega) (wr.heap.size + 1) (by simp) ?_
                      intro g4 cap4 w4 hown hgrow hsm hlt4
                      have HO4 := Lib.hid hown
                      have HB4 := Lib.hid (show Below Wa.heap.size Wa w4 from (low_and hb (low_and (alloc_low _ _) (drew_low9 _))).grown hgrow (by have := hb.size; simp; omega) (fun j hj => (ownS_from HO.out j hj).1))
                      clear hown hgrow hsm hlt4
                      refine hK _ _ (STAY.out _ HB4.out) (fun hSn => ?_)
                      clear hK K
                      (try simp only [Act.put, List.setIfInBounds_toArray, List.set_cons_zero, List.set_cons_succ])
                      refine wpAnyH_take (i := 21) (oi := ⟨some 12, _, _, _, _, _⟩) (v := .slice (some ⟨g4, 0, none⟩) (m.length + 2) cap4) rfl (by kernel_rfl) (by kernel_rfl) (by kernel_rfl) (fun _ _ _ h => h) (Or.inl ⟨by rfl, by intro WW hSw; (try dsimp only at hSw); go_simp⟩) (by assumption) ?_
                      (try simp only [Act.put, List.setIfInBounds_toArray, List.set_cons_zero, List.set_cons_succ])
                      refine wpAnyH_done (by kernel_rfl) ?_ _
                      go_wp2
                      refine ⟨⟨j, by omega, by omega, by go_num, m ++ [(pA base (j + 1), z), (kA base (j + 1), y)], by rw [← HM.out, HST.out, List.append_assoc], ?_, by rw [List.length_append]; simp; omega, HB4.out⟩, by simp [intOf]⟩
                      rw [flatE_two, List.length_append]
                      exact HO4.out

                    · obtain rfl : k = p := by omega
                      have hki : ¬ (k : Int) < (k : Int) := by omega
                      have HK := Lib.hid (fun W => kt_any hbse (i := k) (by omega) W)
                      have HPt := Lib.hid (fun W => pt_any hbse (i := k) (by omega) W)
                      have HAh := Lib.hid (fun W' => r9ahead_any n (p := k) (by omega) W')
                      have HE := Lib.hid (show m = [(pA base (q + 1), 0)] ++ upN base n k (q - k) by rw [← HM.out, Nat.sub_self]; simp [upN])
                      generalize n.ahd k = ah at HAh HR
                      go_wp2_with fail
                      refine wp_region_held_drew (S := fun W' => Below Wa.heap.size Wa W') (by kernel_rfl) (low_and hb (drew_low9 _)) (fun hHeld => ?_)
                      refine wpAnyH_take (i := 0) (oi := ⟨some 94, _, _, _, _, _⟩) (v := u12) rfl (by kernel_rfl) (by kernel_rfl) (by kernel_rfl) (fun _ _ _ h => h) (Or.inl ⟨by rfl, by intro WW hSw; (try dsimp only at hSw); go_simp⟩) (by assumption) ?_
                      (try simp only [Act.put, List.setIfInBounds_toArray, List.set_cons_zero, List.set_cons_succ])
                      refine wpAnyH_take (i := 1) (oi := ⟨some 95, _, _, _, _, _⟩) (v := .int .u64 base) rfl (by kernel_rfl) (by kernel_rfl) (by kernel_rfl) (fun _ _ _ h => h) (Or.inl ⟨by rfl, by intro WW hSw; (try dsimp only at hSw); go_simp⟩) (by assumption) ?_
                      (try simp only [Act.put, List.setIfInBounds_toArray, List.set_cons_zero, List.set_cons_succ])
                      refine wpAnyH_take (i := 2) (oi := ⟨some 96, _, _, _, _, _⟩) (v := .int .i64 (k : Int)) rfl (by kernel_rfl) (by kernel_rfl) (by kernel_rfl) (fun _ _ _ h => h) (Or.inl ⟨by rfl, by intro WW hSw; (try dsimp only at hSw); go_simp⟩) (by assumption) ?_
                      (try simp only [Act.put, List.setIfInBounds_toArray, List.set_cons_zero, List.set_cons_succ])
                      refine wpAnyH_take (i := 4) (oi := ⟨some 98, _, _, _, _, _⟩) (v := .agg n.cl.toArray) rfl (by kernel_rfl) (by kernel_rfl) (by kernel_rfl) (fun _ _ _ h => h) (yieldsIf_load_mid (by rfl) _ _ rfl w.heap.size 0 rfl n.cl _ (fun w' hw' => ndR (HRR.out _ hw')) Try.underlying27 rfl ndI) (by assumption) ?_
                      (try simp only [Act.put, List.setIfInBounds_toArray, List.set_cons_zero, List.set_cons_succ])
                      refine wpAnyH_take (i := 5) (oi := ⟨some 99, _, _, _, _, _⟩) (v := .int .i64 (k : Int)) rfl (by kernel_rfl) (by kernel_rfl) (by kernel_rfl) (fun _ _ _ h => h) (Or.inl ⟨by rfl, by intro WW hSw; (try dsimp only at hSw); go_simp⟩) (by assumption) ?_
                      (try simp only [Act.put, List.setIfInBounds_toArray, List.set_cons_zero, List.set_cons_succ])
                      refine wpAnyH_take (i := 8) (oi := ⟨some 102, _, _, _, _, _⟩) (v := .int .u64 base) rfl (by kernel_rfl) (by kernel_rfl) (by kernel_rfl) (fun _ _ _ h => h) (Or.inl ⟨by rfl, by intro WW hSw; (try dsimp only at hSw); go_simp⟩) (by assumption) ?_
                      (try simp only [Act.put, List.setIfInBounds_toArray, List.set_cons_zero, List.set_cons_succ])
                      refine wpAnyH_take (i := 9) (oi := ⟨some 103, _, _, _, _, _⟩) (v := .int .i64 (k : Int)) rfl (by kernel_rfl) (by kernel_rfl) (by kernel_rfl) (fun _ _ _ h => h) (Or.inl ⟨by rfl, by intro WW hSw; (try dsimp only at hSw); go_simp⟩) (by assumption) ?_
                      (try simp only [Act.put, List.setIfInBounds_toArray, List.set_cons_zero, List.set_cons_succ])
                      refine wpAnyH_take (i := 11) (oi := ⟨some 105, _, _, _, _, _⟩) (v := .int .u64 key) rfl (by kernel_rfl) (by kernel_rfl) (by kernel_rfl) (fun _ _ _ h => h) (Or.inl ⟨by rfl, by intro WW hSw; (try dsimp only at hSw); go_simp⟩) (by assumption) ?_
                      (try simp only [Act.put, List.setIfInBounds_toArray, List.set_cons_zero, List.set_cons_succ])
                      refine wpAnyH_take (i := 13) (oi := ⟨some 107, _, _, _, _, _⟩) (v := .int .u64 base) rfl (by kernel_rfl) (by kernel_rfl) (by kernel_rfl) (fun _ _ _ h => h) (Or.inl ⟨by rfl, by intro WW hSw; (try dsimp only at hSw); go_simp⟩) (by assumption) ?_
                      (try simp only [Act.put, List.setIfInBounds_toArray, List.set_cons_zero, List.set_cons_succ])
                      refine wpAnyH_take (i := 14) (oi := ⟨some 108, _, _, _, _, _⟩) (v := .int .i64 (k : Int)) rfl (by kernel_rfl) (by kernel_rfl) (by kernel_rfl) (fun _ _ _ h => h) (Or.inl ⟨by rfl, by intro WW hSw; (try dsimp only at hSw); go_simp⟩) (by assumption) ?_
                      (try simp only [Act.put, List.setIfInBounds_toArray, List.set_cons_zero, List.set_cons_succ])
                      refine wpAnyH_take (i := 16) (oi := ⟨some 110, _, _, _, _, _⟩) (v := .int .u64 ptr) rfl (by kernel_rfl) (by kernel_rfl) (by kernel_rfl) (fun _ _ _ h => h) (Or.inl ⟨by rfl, by intro WW hSw; (try dsimp only at hSw); go_simp⟩) (by assumption) ?_
                      (try simp only [Act.put, List.setIfInBounds_toArray, List.set_cons_zero, List.set_cons_succ])
                      refine wpAnyH_one (i := 3) (oi := ⟨some 97, _, _, _, _, _⟩) rfl (by kernel_rfl) (fun K hK => ?_)
                      refine step_calls (by rfl) 38 EGp.out [.tmp 95, .tmp 96] _ rfl [.int .u64 base, .int .i64 (k : Int)] rfl (HPt.out _) ?_
                      rintro e w5 ⟨rfl, rfl⟩
                      refine ⟨_, rfl, hK _ _ (hHeld) (fun hSn => ?_)⟩
                      clear hK K
                      (try simp only [Act.put, List.setIfInBounds_toArray, List.set_cons_zero, List.set_cons_succ])
                      refine wpAnyH_one (i := 6) (oi := ⟨some 100, _, _, _, _, _⟩) rfl (by kernel_rfl) (fun K hK => ?_)
                      refine step_calls (by rfl) 64 EGa.out [.tmp 98, .tmp 99] _ rfl [n.V, .int .i64 (k : Int)] rfl (HAh.out _) ?_
                      rintro e w5 ⟨rfl, h5⟩
                      have g5 := low_and hHeld h5
                      have HO5 := Lib.hid (ownS_low HO.out (low_and (drew_low9 _) h5))
                      refine ⟨_, rfl, hK _ _ (g5) (fun hSn => ?_)⟩
                      clear hK K
                      (try simp only [Act.put, List.setIfInBounds_toArray, List.set_cons_zero, List.set_cons_succ])
                      refine wpAnyH_take (i := 7) (oi := ⟨some 101, _, _, _, _, _⟩) (v := .agg #[.int .u64 (pA base k), .int .u64 ah]) rfl (by kernel_rfl) (by kernel_rfl) (by kernel_rfl) (fun _ _ _ h => h) (Or.inl ⟨by rfl, by intro WW hSw; (try dsimp only at hSw); go_simp⟩) (by assumption) ?_
                      (try simp only [Act.put, List.setIfInBounds_toArray, List.set_cons_zero, List.set_cons_succ])
                      refine wpAnyH_one (i := 10) (oi := ⟨some 104, _, _, _, _, _⟩) rfl (by kernel_rfl) (fun K hK => ?_)
                      refine step_calls (by rfl) 37 EGk.out [.tmp 102, .tmp 103] _ rfl [.int .u64 base, .int .i64 (k : Int)] rfl (HK.out _) ?_
                      rintro e w6 ⟨rfl, rfl⟩
                      refine ⟨_, rfl, hK _ _ (g5) (fun hSn => ?_)⟩
                      clear hK K
                      (try simp only [Act.put, List.setIfInBounds_toArray, List.set_cons_zero, List.set_cons_succ])
                      refine wpAnyH_take (i := 12) (oi := ⟨some 106, _, _, _, _, _⟩) (v := .agg #[.int .u64 (kA base k), .int .u64 key]) rfl (by kernel_rfl) (by kernel_rfl) (by kernel_rfl) (fun _ _ _ h => h) (Or.inl ⟨by rfl, by intro WW hSw; (try dsimp only at hSw); go_simp⟩) (by assumption) ?_
                      (try simp only [Act.put, List.setIfInBounds_toArray, List.set_cons_zero, List.set_cons_succ])
                      refine wpAnyH_one (i := 15) (oi := ⟨some 109, _, _, _, _, _⟩) rfl (by kernel_rfl) (fun K hK => ?_)
                      refine step_calls (by rfl) 38 EGp.out [.tmp 107, .tmp 108] _ rfl [.int .u64 base, .int .i64 (k : Int)] rfl (HPt.out _) ?_
                      rintro e w6 ⟨rfl, rfl⟩
                      refine ⟨_, rfl, hK _ _ (g5) (fun hSn => ?_)⟩
                      clear hK K
                      (try simp only [Act.put, List.setIfInBounds_toArray, List.set_cons_zero, List.set_cons_succ])
                      refine wpAnyH_take (i := 17) (oi := ⟨some 111, _, _, _, _, _⟩) (v := .agg #[.int .u64 (pA base k), .int .u64 ptr]) rfl (by kernel_rfl) (by kernel_rfl) (by kernel_rfl) (fun _ _ _ h => h) (Or.inl ⟨by rfl, by intro WW hSw; (try dsimp only at hSw); go_simp⟩) (by assumption) ?_
                      (try simp only [Act.put, List.setIfInBounds_toArray, List.set_cons_zero, List.set_cons_succ])
                      refine wpAnyH_one (i := 18) (oi := ⟨some 112, _, _, _, _, _⟩) rfl (by kernel_rfl) (fun K hK => ?_)
                      rw [if_pos (by rfl)]
                      unfold Oper.wp
                      go_simp
                      refine hK _ _ (low_and g5 (alloc_low _ _)) (fun hSn => ?_)
                      clear hK K
                      (try simp only [Act.put, List.setIfInBounds_toArray, List.set_cons_zero, List.set_cons_succ])
                      refine wpAnyH_one (i := 19) (oi := ⟨some 113, _, _, _, _, _⟩) rfl (by kernel_rfl) (fun K hK => ?_)
                      refine step_append_lies _ (by rfl) (.tmp 94) (.tmp 112) _ (by rfl) Wa.heap.size 45 i0 (.agg #[.int .u64 0, .int .u64 0]) 2 16 rfl hi hz0 hz1 hz2 rfl (by decide) _ _ _ (by rfl) (ownS_low HO5.out (alloc_low _ _)) ⟨w5.heap.size, 0, none⟩ 3 3 [.int .u64 (pA base k), .int .u64 ah, .int .u64 (kA base k), .int .u64 key, .int .u64 (pA base k), .int .u64 ptr] (by rfl) (by rfl) (World.news_of_block (cs := #[.int .u64 (pA base k), .int .u64 ah, .int .u64 (kA base k), .int .u64 key, .int .u64 (pA base k), .int .u64 ptr]) (t := 45) (fr := (0, 0)) (heap_alloc_new9 _ _)) (by intro u hu; simp at hu; rcases hu with rfl | rfl | rfl | rfl | rfl | rfl <;> rfl) (by decide) (by unfold maxLen; omega) (by omega) (by simp; have := g5.size; omega) (w5.heap.size + 1) (by simp) ?_
                      intro g4 cap4 w4 hown hgrow hsm hlt4
                      have HB4 := Lib.hid (show Below Wa.heap.size Wa w4 from (low_and g5 (alloc_low _ _)).grown hgrow (by have := g5.size; simp; omega) (fun j hj => (ownS_from HO5.out j hj).1))
                      have h6 : w4.ownsRow Wa.heap.size 45 2 (.slice (some ⟨g4, 0, none⟩) (m.length + 3) cap4) (m ++ [(pA base k, ah), (kA base k, key), (pA base k, ptr)]).length (flatE (m ++ [(pA base k, ah), (kA base k, key), (pA base k, ptr)])) := by
                        rw [List.length_append, flatE_app]
                        exact hown
                      have HE6 := Lib.hid (ent_ownG h6)
                      clear hown hgrow hsm hlt4 h6
                      refine hK _ _ (HB4.out) (fun hSn => ?_)
                      clear hK K
                      (try simp only [Act.put, List.setIfInBounds_toArray, List.set_cons_zero, List.set_cons_succ])
                      refine wpAnyH_take (i := 20) (oi := ⟨some 12, _, _, _, _, _⟩) (v := .slice (some ⟨g4, 0, none⟩) (m.length + 3) cap4) rfl (by kernel_rfl) (by kernel_rfl) (by kernel_rfl) (fun _ _ _ h => h) (Or.inl ⟨by rfl, by intro WW hSw; (try dsimp only at hSw); go_simp⟩) (by assumption) ?_
                      (try simp only [Act.put, List.setIfInBounds_toArray, List.set_cons_zero, List.set_cons_succ])
                      refine wpAnyH_done (by kernel_rfl) ?_ _
                      have hb4 := HB4.out
                      have HWh := Lib.hid (whole_any hbse n HE6.out (by simp) (by simp; omega))
                      go_wp2_with ((with_reducible refine show_load ?_); refine wpList_load_mid rfl 27 _ rfl w.heap.size 0 rfl n.cl _ (ndR (HRR.out _ (by assumption))) Try.underlying27 rfl ndI ?_)
                      go_at_call 65
                      refine HWh.out.mono ?_
                      rintro e w7 ⟨⟨v7, rfl, ho7⟩, h7⟩
                      have g7 := low_and hb4 h7
                      have HO7 := Lib.hid (ownS_mono ho7 (show w.heap.size ≤ w4.heap.size from Nat.le_trans HWs.out hb4.size))
                      clear ho7
                      go_wp2
                      go_ret2
                      rw [HR.out, show ([(pA base (q + 1), 0)] ++ (upN base n k (q - k) ++ [(pA base k, ah)]) ++ [(kA base k, key), (pA base k, ptr)]) = m ++ [(pA base k, ah), (kA base k, key), (pA base k, ptr)] by rw [HE.out]; simp]
                      exact ⟨⟨_, rfl, HO7.out⟩, low_and HB0.out g7⟩
                · skip
                  have HPt1 := Lib.hid (fun W => pt_any hbse (i := q + 1) (by omega) W)
                  have hwq : IntKind.i64.wrap ((q : Int) + 1) = ((q + 1 : Nat) : Int) := by rw [IntKind.wrap_i64]; omega
                  have hq7 : ¬ (q : Int) < 7 := by omega
                  have HR := Lib.hid (show R = (wholeL base n (([] : List (Int × Int)) ++ (upN base n p (q - p) ++ [(pA base p, n.ahd p)]) ++ [(kA base p, key), (pA base p, ptr)]), 0) by rw [HP.out, HMk.out]; simp [hq7n])
                  go_enter Try.func29, Try.ntmps29
                  go_wp2_with (first
                        | (rw [← HWa.out]; (refine wpList_load_mid rfl 27 _ rfl w.heap.size 0 rfl n.cl _ (ndR (HRR.out _ (by assumption))) Try.underlying27 rfl ndI ?_))
                        | (refine wpList_load_mid rfl 27 _ rfl w.heap.size 0 rfl n.cl _ (ndR (HRR.out _ (by assumption))) Try.underlying27 rfl ndI ?_)
                        | (go_at_call 60; refine (HMy.out _).mono ?_; rintro e w1 ⟨rfl, h1⟩; have h1 := low_and hr0 h1)
                        | (refine wpList_load_midg (by rfl) 27 _ rfl w.heap.size 0 rfl n.cl _ (ndR (HRR.out _ (by assumption))) Try.underlying27 rfl ndI ?_)
                        | (go_at_call 61; refine (HHd.out _).mono ?_; rintro e wh ⟨rfl, hh⟩; have h1 := low_and h1 hh))
                  go_at_call 62
                  refine (HFd.out _).mono ?_
                  rintro e w2 ⟨rfl, h2⟩
                  have h2 := low_and h1 h2
                  have c0 := HC0.out _ h2
                  have c1 := HC1.out _ h2
                  go_wp2_with ((with_reducible refine show_load ?_); refine wpList_load_mid rfl 27 _ rfl w.heap.size 0 rfl n.cl _ (ndR (HRR.out _ (by assumption))) Try.underlying27 rfl ndI ?_)
                  go_at_call 39
                  refine (HL.out _).mono ?_
                  rintro e w3 ⟨rfl, h3⟩
                  have h3 := low_and h2 h3
                  go_wp2_with ((with_reducible refine show_load ?_); refine wpList_load_mid rfl 27 _ rfl w.heap.size 0 rfl n.cl _ (ndR (HRR.out _ (by assumption))) Try.underlying27 rfl ndI ?_)
                  go_at_call 63
                  refine (HLa.out _).mono ?_
                  rintro e wl ⟨rfl, hl⟩
                  have HLW := hl
                  have hl := low_and h3 hl
                  go_wp2_with ((with_reducible refine show_load ?_); refine wpList_load_mid rfl 27 _ rfl w.heap.size 0 rfl n.cl _ (ndR (HRR.out _ (by assumption))) Try.underlying27 rfl ndI ?_)
                  go_loopw [12, 14] (fun o i wr => ∃ k : Nat, p ≤ k ∧ k ≤ q ∧ i = .int .i64 (k : Int) ∧ ∃ m : List (Int × Int), m ++ upN base n p (k - p) = ([] : List (Int × Int)) ++ upN base n p (q - p) ∧ wr.ownsRow Wa.heap.size 45 2 o m.length (flatE m) ∧ m.length ≤ 1 + 2 * (q - k) ∧ Below Wa.heap.size Wa wr) (fun _ i _ => (intOf i).toNat)
                  case atStart => exact ⟨q, hpq, Nat.le_refl _, rfl, [], rfl, World.ownsRow_nil _ _ _ _, by simp, hl⟩
                  case round =>
                    rename World => wr
                    obtain ⟨k, hpk, hkq, rfl, m, hm, ho, hml, hb⟩ := hrel
                    have HM := Lib.hid hm
                    have HO := Lib.hid ho
                    clear hm ho
                    by_cases hlt : p < k
                    · obtain ⟨j, rfl⟩ : ∃ j, k = j + 1 := ⟨k - 1, by omega⟩
                      have hki : (p : Int) < ((j + 1 : Nat) : Int) := by omega
                      have hwk : IntKind.i64.wrap (((j + 1 : Nat) : Int) - 1) = (j : Int) := by rw [IntKind.wrap_i64]; omega
                      have hwj : IntKind.i64.wrap (j : Int) = (j : Int) := by rw [IntKind.wrap_i64]; omega
                      have hwj1 : IntKind.i64.wrap ((j : Int) + 1 - 1) = (j : Int) := by rw [IntKind.wrap_i64]; omega
                      have hj8 : (j : Int) < 8 := by omega
                      have hj0 : ¬ (j : Int) < 0 := by omega
                      have HK := Lib.hid (fun W => (show Calls Try.prog 37 #[.int .u64 base, .int .i64 ((j : Int) + 1)] W fun e w' => e = .returned (.int .u64 (kA base (j + 1))) ∧ W = w' from kt_any hbse (i := j + 1) (by omega) W))
                      have HPt := Lib.hid (fun W => (show Calls Try.prog 38 #[.int .u64 base, .int .i64 ((j : Int) + 1)] W fun e w' => e = .returned (.int .u64 (pA base (j + 1))) ∧ W = w' from pt_any hbse (i := j + 1) (by omega) W))
                      have HST := Lib.hid (show upN base n p (j + 1 - p) = [(pA base (j + 1), n.ptr j), (kA base (j + 1), n.key j)] ++ upN base n p (j - p) by rw [show j + 1 - p = (j - p) + 1 by omega, upN, show p + (j - p) = j by omega] <;> rfl)
                      have hN := fun W' (hb : Below Wa.heap.size Wa W') => And.intro (ndAt_key (HRR.out W' hb) (i := j) (by omega)) (ndAt_ptr (HRR.out W' hb) (i := j) (by omega))
                      obtain ⟨y, hy⟩ : ∃ y, y = n.key j := ⟨_, rfl⟩
                      obtain ⟨z, hz⟩ : ∃ z, z = n.ptr j := ⟨_, rfl⟩
                      rw [← hy, ← hz] at HST hN
                      have STAY := Lib.hid (fun W' (hb : Below Wa.heap.size Wa W') => And.intro (hN W' hb).1 (And.intro (hN W' hb).2 hb))
                      clear hy hz hN
                      go_wp2_with fail
                      refine wp_region_held_drew (S := fun W' => W'.cell? ⟨w.heap.size, 5 + j, none⟩ = some (.int .u64 y) ∧ W'.cell? ⟨w.heap.size, 13 + j, none⟩ = some (.int .u64 z) ∧ Below Wa.heap.size Wa W') (by kernel_rfl) (STAY.out _ (low_and hb (drew_low9 _))) (fun hHeld => ?_)
                      refine wpAnyH_take (i := 0) (oi := ⟨some 73, _, _, _, _, _⟩) (v := u12) rfl (by kernel_rfl) (by kernel_rfl) (by kernel_rfl) (fun _ _ _ h => h) (Or.inl ⟨by rfl, by intro WW hSw; (try dsimp only at hSw); go_simp⟩) (by assumption) ?_
                      (try simp only [Act.put, List.setIfInBounds_toArray, List.set_cons_zero, List.set_cons_succ])
                      refine wpAnyH_take (i := 1) (oi := ⟨some 74, _, _, _, _, _⟩) (v := .int .u64 base) rfl (by kernel_rfl) (by kernel_rfl) (by kernel_rfl) (fun _ _ _ h => h) (Or.inl ⟨by rfl, by intro WW hSw; (try dsimp only at hSw); go_simp⟩) (by assumption) ?_
                      (try simp only [Act.put, List.setIfInBounds_toArray, List.set_cons_zero, List.set_cons_succ])
                      refine wpAnyH_take (i := 2) (oi := ⟨some 75, _, _, _, _, _⟩) (v := .int .i64 ((j : Int) + 1)) rfl (by kernel_rfl) (by kernel_rfl) (by kernel_rfl) (fun _ _ _ h => h) (Or.inl ⟨by rfl, by intro WW hSw; (try dsimp only at hSw); go_simp⟩) (by assumption) ?_
                      (try simp only [Act.put, List.setIfInBounds_toArray, List.set_cons_zero, List.set_cons_succ])
                      refine wpAnyH_take (i := 4) (oi := ⟨some 77, _, _, _, _, _⟩) (v := .int .i64 ((j : Int) + 1)) rfl (by kernel_rfl) (by kernel_rfl) (by kernel_rfl) (fun _ _ _ h => h) (Or.inl ⟨by rfl, by intro WW hSw; (try dsimp only at hSw); go_simp⟩) (by assumption) ?_
                      (try simp only [Act.put, List.setIfInBounds_toArray, List.set_cons_zero, List.set_cons_succ])
                      refine wpAnyH_take (i := 5) (oi := ⟨some 78, _, _, _, _, _⟩) (v := .int .i64 (j : Int)) rfl (by kernel_rfl) (by kernel_rfl) (by kernel_rfl) (fun _ _ _ h => h) (Or.inl ⟨by rfl, by intro WW hSw; (try dsimp only at hSw); go_simp⟩) (by assumption) ?_
                      (try simp only [Act.put, List.setIfInBounds_toArray, List.set_cons_zero, List.set_cons_succ])
                      refine wpAnyH_take (i := 6) (oi := ⟨some 79, _, _, _, _, _⟩) (v := .pointer (some ⟨w.heap.size, 13, none⟩)) rfl (by kernel_rfl) (by kernel_rfl) (by kernel_rfl) (fun _ _ _ h => h) (Or.inl ⟨by rfl, by intro WW hSw; (try dsimp only at hSw); go_simp⟩) (by assumption) ?_
                      (try simp only [Act.put, List.setIfInBounds_toArray, List.set_cons_zero, List.set_cons_succ])
                      refine wpAnyH_take (i := 7) (oi := ⟨some 80, _, _, _, _, _⟩) (v := .pointer (some ⟨w.heap.size, 13 + j, none⟩)) rfl (by kernel_rfl) (by kernel_rfl) (by kernel_rfl) (fun _ _ _ h => h) (Or.inl ⟨by rfl, by intro WW hSw; (try dsimp only at hSw); go_simp⟩) (by assumption) ?_
                      (try simp only [Act.put, List.setIfInBounds_toArray, List.set_cons_zero, List.set_cons_succ])
                      refine wpAnyH_take (i := 8) (oi := ⟨some 81, _, _, _, _, _⟩) (v := .int .u64 z) rfl (by kernel_rfl) (by kernel_rfl) (by kernel_rfl) (fun _ _ _ h => h) (Or.inl ⟨by rfl, by intro WW hSw; (try dsimp only at hSw); go_simp⟩) (by assumption) ?_
                      (try simp only [Act.put, List.setIfInBounds_toArray, List.set_cons_zero, List.set_cons_succ])
                      refine wpAnyH_take (i := 10) (oi := ⟨some 83, _, _, _, _, _⟩) (v := .int .u64 base) rfl (by kernel_rfl) (by kernel_rfl) (by kernel_rfl) (fun _ _ _ h => h) (Or.inl ⟨by rfl, by intro WW hSw; (try dsimp only at hSw); go_simp⟩) (by assumption) ?_
                      (try simp only [Act.put, List.setIfInBounds_toArray, List.set_cons_zero, List.set_cons_succ])
                      refine wpAnyH_take (i := 11) (oi := ⟨some 84, _, _, _, _, _⟩) (v := .int .i64 ((j : Int) + 1)) rfl (by kernel_rfl) (by kernel_rfl) (by kernel_rfl) (fun _ _ _ h => h) (Or.inl ⟨by rfl, by intro WW hSw; (try dsimp only at hSw); go_simp⟩) (by assumption) ?_
                      (try simp only [Act.put, List.setIfInBounds_toArray, List.set_cons_zero, List.set_cons_succ])
                      refine wpAnyH_take (i := 13) (oi := ⟨some 86, _, _, _, _, _⟩) (v := .int .i64 ((j : Int) + 1)) rfl (by kernel_rfl) (by kernel_rfl) (by kernel_rfl) (fun _ _ _ h => h) (Or.inl ⟨by rfl, by intro WW hSw; (try dsimp only at hSw); go_simp⟩) (by assumption) ?_
                      (try simp only [Act.put, List.setIfInBounds_toArray, List.set_cons_zero, List.set_cons_succ])
                      refine wpAnyH_take (i := 14) (oi := ⟨some 87, _, _, _, _, _⟩) (v := .int .i64 (j : Int)) rfl (by kernel_rfl) (by kernel_rfl) (by kernel_rfl) (fun _ _ _ h => h) (Or.inl ⟨by rfl, by intro WW hSw; (try dsimp only at hSw); go_simp⟩) (by assumption) ?_
                      (try simp only [Act.put, List.setIfInBounds_toArray, List.set_cons_zero, List.set_cons_succ])
                      refine wpAnyH_take (i := 15) (oi := ⟨some 88, _, _, _, _, _⟩) (v := .pointer (some ⟨w.heap.size, 5, none⟩)) rfl (by kernel_rfl) (by kernel_rfl) (by kernel_rfl) (fun _ _ _ h => h) (Or.inl ⟨by rfl, by intro WW hSw; (try dsimp only at hSw); go_simp⟩) (by assumption) ?_
                      (try simp only [Act.put, List.setIfInBounds_toArray, List.set_cons_zero, List.set_cons_succ])
                      refine wpAnyH_take (i := 16) (oi := ⟨some 89, _, _, _, _, _⟩) (v := .pointer (some ⟨w.heap.size, 5 + j, none⟩)) rfl (by kernel_rfl) (by kernel_rfl) (by kernel_rfl) (fun _ _ _ h => h) (Or.inl ⟨by rfl, by intro WW hSw; (try dsimp only at hSw); go_simp⟩) (by assumption) ?_
                      (try simp only [Act.put, List.setIfInBounds_toArray, List.set_cons_zero, List.set_cons_succ])
                      refine wpAnyH_take (i := 17) (oi := ⟨some 90, _, _, _, _, _⟩) (v := .int .u64 y) rfl (by kernel_rfl) (by kernel_rfl) (by kernel_rfl) (fun _ _ _ h => h) (Or.inl ⟨by rfl, by intro WW hSw; (try dsimp only at hSw); go_simp⟩) (by assumption) ?_
                      (try simp only [Act.put, List.setIfInBounds_toArray, List.set_cons_zero, List.set_cons_succ])
                      refine wpAnyH_one (i := 3) (oi := ⟨some 76, _, _, _, _, _⟩) rfl (by kernel_rfl) (fun K hK => ?_)
                      refine step_calls (by rfl) 38 EGp.out [.tmp 74, .tmp 75] _ rfl [.int .u64 base, .int .i64 ((j : Int) + 1)] rfl (HPt.out _) ?_
                      rintro e w5 ⟨rfl, rfl⟩
                      refine ⟨_, rfl, hK _ _ (hHeld) (fun hSn => ?_)⟩
                      clear hK K
                      (try simp only [Act.put, List.setIfInBounds_toArray, List.set_cons_zero, List.set_cons_succ])
                      refine wpAnyH_take (i := 9) (oi := ⟨some 82, _, _, _, _, _⟩) (v := .agg #[.int .u64 (pA base (j + 1)), .int .u64 z]) rfl (by kernel_rfl) (by kernel_rfl) (by kernel_rfl) (fun _ _ _ h => h) (Or.inl ⟨by rfl, by intro WW hSw; (try dsimp only at hSw); go_simp⟩) (by assumption) ?_
                      (try simp only [Act.put, List.setIfInBounds_toArray, List.set_cons_zero, List.set_cons_succ])
                      refine wpAnyH_one (i := 12) (oi := ⟨some 85, _, _, _, _, _⟩) rfl (by kernel_rfl) (fun K hK => ?_)
                      refine step_calls (by rfl) 37 EGk.out [.tmp 83, .tmp 84] _ rfl [.int .u64 base, .int .i64 ((j : Int) + 1)] rfl (HK.out _) ?_
                      rintro e w6 ⟨rfl, rfl⟩
                      refine ⟨_, rfl, hK _ _ (hHeld) (fun hSn => ?_)⟩
                      clear hK K
                      (try simp only [Act.put, List.setIfInBounds_toArray, List.set_cons_zero, List.set_cons_succ])
                      refine wpAnyH_take (i := 18) (oi := ⟨some 91, _, _, _, _, _⟩) (v := .agg #[.int .u64 (kA base (j + 1)), .int .u64 y]) rfl (by kernel_rfl) (by kernel_rfl) (by kernel_rfl) (fun _ _ _ h => h) (Or.inl ⟨by rfl, by intro WW hSw; (try dsimp only at hSw); go_simp⟩) (by assumption) ?_
                      (try simp only [Act.put, List.setIfInBounds_toArray, List.set_cons_zero, List.set_cons_succ])
                      refine wpAnyH_one (i := 19) (oi := ⟨some 92, _, _, _, _, _⟩) rfl (by kernel_rfl) (fun K hK => ?_)
                      rw [if_pos (by rfl)]
                      unfold Oper.wp
                      go_simp
                      refine hK _ _ (STAY.out _ (low_and hb (low_and (alloc_low _ _) (drew_low9 _)))) (fun hSn => ?_)
                      clear hK K
                      (try simp only [Act.put, List.setIfInBounds_toArray, List.set_cons_zero, List.set_cons_succ])
                      refine wpAnyH_one (i := 20) (oi := ⟨some 93, _, _, _, _, _⟩) rfl (by kernel_rfl) (fun K hK => ?_)
                      refine step_append_lies _ (by rfl) (.tmp 73) (.tmp 92) _ (by rfl) Wa.heap.size 45 i0 (.agg #[.int .u64 0, .int .u64 0]) 2 16 rfl hi hz0 hz1 hz2 rfl (by decide) _ _ _ (by rfl) (ownS_low HO.out (low_and (alloc_low _ _) (drew_low9 _))) ⟨wr.heap.size, 0, none⟩ 2 2 [.int .u64 (pA base (j + 1)), .int .u64 z, .int .u64 (kA base (j + 1)), .int .u64 y] (by rfl) (by rfl) (World.news_of_block (cs := #[.int .u64 (pA base (j + 1)), .int .u64 z, .int .u64 (kA base (j + 1)), .int .u64 y]) (t := 45) (fr := (0, 0)) (heap_alloc_new9 _ _)) (by intro u hu; simp at hu; rcases hu with rfl | rfl | rfl | rfl <;> rfl) (by decide) (by unfold maxLen; omega) (by omega) (by simp; have := hb.size; omega) (wr.heap.size + 1) (by simp) ?_
                      intro g4 cap4 w4 hown hgrow hsm hlt4
                      have HO4 := Lib.hid hown
                      have HB4 := Lib.hid (show Below Wa.heap.size Wa w4 from (low_and hb (low_and (alloc_low _ _) (drew_low9 _))).grown hgrow (by have := hb.size; simp; omega) (fun j hj => (ownS_from HO.out j hj).1))
                      clear hown hgrow hsm hlt4
                      refine hK _ _ (STAY.out _ HB4.out) (fun hSn => ?_)
                      clear hK K
                      (try simp only [Act.put, List.setIfInBounds_toArray, List.set_cons_zero, List.set_cons_succ])
                      refine wpAnyH_take (i := 21) (oi := ⟨some 12, _, _, _, _, _⟩) (v := .slice (some ⟨g4, 0, none⟩) (m.length + 2) cap4) rfl (by kernel_rfl) (by kernel_rfl) (by kernel_rfl) (fun _ _ _ h => h) (Or.inl ⟨by rfl, by intro WW hSw; (try dsimp only at hSw); go_simp⟩) (by assumption) ?_
                      (try simp only [Act.put, List.setIfInBounds_toArray, List.set_cons_zero, List.set_cons_succ])
                      refine wpAnyH_done (by kernel_rfl) ?_ _
                      go_wp2
                      refine ⟨⟨j, by omega, by omega, by go_num, m ++ [(pA base (j + 1), z), (kA base (j + 1), y)], by rw [← HM.out, HST.out, List.append_assoc], ?_, by rw [List.length_append]; simp; omega, HB4.out⟩, by simp [intOf]⟩
                      rw [flatE_two, List.length_append]
                      exact HO4.out

                    · obtain rfl : k = p := by omega
                      have hki : ¬ (k : Int) < (k : Int) := by omega
                      have HK := Lib.hid (fun W => kt_any hbse (i := k) (by omega) W)
                      have HPt := Lib.hid (fun W => pt_any hbse (i := k) (by omega) W)
                      have HAh := Lib.hid (fun W' => r9ahead_any n (p := k) (by omega) W')
                      have HE := Lib.hid (show m = ([] : List (Int × Int)) ++ upN base n k (q - k) by rw [← HM.out, Nat.sub_self]; simp [upN])
                      generalize n.ahd k = ah at HAh HR
                      go_wp2_with fail
                      refine wp_region_held_drew (S := fun W' => Below Wa.heap.size Wa W') (by kernel_rfl) (low_and hb (drew_low9 _)) (fun hHeld => ?_)
                      refine wpAnyH_take (i := 0) (oi := ⟨some 94, _, _, _, _, _⟩) (v := u12) rfl (by kernel_rfl) (by kernel_rfl) (by kernel_rfl) (fun _ _ _ h => h) (Or.inl ⟨by rfl, by intro WW hSw; (try dsimp only at hSw); go_simp⟩) (by assumption) ?_
                      (try simp only [Act.put, List.setIfInBounds_toArray, List.set_cons_zero, List.set_cons_succ])
                      refine wpAnyH_take (i := 1) (oi := ⟨some 95, _, _, _, _, _⟩) (v := .int .u64 base) rfl (by kernel_rfl) (by kernel_rfl) (by kernel_rfl) (fun _ _ _ h => h) (Or.inl ⟨by rfl, by intro WW hSw; (try dsimp only at hSw); go_simp⟩) (by assumption) ?_
                      (try simp only [Act.put, List.setIfInBounds_toArray, List.set_cons_zero, List.set_cons_succ])
                      refine wpAnyH_take (i := 2) (oi := ⟨some 96, _, _, _, _, _⟩) (v := .int .i64 (k : Int)) rfl (by kernel_rfl) (by kernel_rfl) (by kernel_rfl) (fun _ _ _ h => h) (Or.inl ⟨by rfl, by intro WW hSw; (try dsimp only at hSw); go_simp⟩) (by assumption) ?_
                      (try simp only [Act.put, List.setIfInBounds_toArray, List.set_cons_zero, List.set_cons_succ])
                      refine wpAnyH_take (i := 4) (oi := ⟨some 98, _, _, _, _, _⟩) (v := .agg n.cl.toArray) rfl (by kernel_rfl) (by kernel_rfl) (by kernel_rfl) (fun _ _ _ h => h) (yieldsIf_load_mid (by rfl) _ _ rfl w.heap.size 0 rfl n.cl _ (fun w' hw' => ndR (HRR.out _ hw')) Try.underlying27 rfl ndI) (by assumption) ?_
                      (try simp only [Act.put, List.setIfInBounds_toArray, List.set_cons_zero, List.set_cons_succ])
                      refine wpAnyH_take (i := 5) (oi := ⟨some 99, _, _, _, _, _⟩) (v := .int .i64 (k : Int)) rfl (by kernel_rfl) (by kernel_rfl) (by kernel_rfl) (fun _ _ _ h => h) (Or.inl ⟨by rfl, by intro WW hSw; (try dsimp only at hSw); go_simp⟩) (by assumption) ?_
                      (try simp only [Act.put, List.setIfInBounds_toArray, List.set_cons_zero, List.set_cons_succ])
                      refine wpAnyH_take (i := 8) (oi := ⟨some 102, _, _, _, _, _⟩) (v := .int .u64 base) rfl (by kernel_rfl) (by kernel_rfl) (by kernel_rfl) (fun _ _ _ h => h) (Or.inl ⟨by rfl, by intro WW hSw; (try dsimp only at hSw); go_simp⟩) (by assumption) ?_
                      (try simp only [Act.put, List.setIfInBounds_toArray, List.set_cons_zero, List.set_cons_succ])
                      refine wpAnyH_take (i := 9) (oi := ⟨some 103, _, _, _, _, _⟩) (v := .int .i64 (k : Int)) rfl (by kernel_rfl) (by kernel_rfl) (by kernel_rfl) (fun _ _ _ h => h) (Or.inl ⟨by rfl, by intro WW hSw; (try dsimp only at hSw); go_simp⟩) (by assumption) ?_
                      (try simp only [Act.put, List.setIfInBounds_toArray, List.set_cons_zero, List.set_cons_succ])
                      refine wpAnyH_take (i := 11) (oi := ⟨some 105, _, _, _, _, _⟩) (v := .int .u64 key) rfl (by kernel_rfl) (by kernel_rfl) (by kernel_rfl) (fun _ _ _ h => h) (Or.inl ⟨by rfl, by intro WW hSw; (try dsimp only at hSw); go_simp⟩) (by assumption) ?_
                      (try simp only [Act.put, List.setIfInBounds_toArray, List.set_cons_zero, List.set_cons_succ])
                      refine wpAnyH_take (i := 13) (oi := ⟨some 107, _, _, _, _, _⟩) (v := .int .u64 base) rfl (by kernel_rfl) (by kernel_rfl) (by kernel_rfl) (fun _ _ _ h => h) (Or.inl ⟨by rfl, by intro WW hSw; (try dsimp only at hSw); go_simp⟩) (by assumption) ?_
                      (try simp only [Act.put, List.setIfInBounds_toArray, List.set_cons_zero, List.set_cons_succ])
                      refine wpAnyH_take (i := 14) (oi := ⟨some 108, _, _, _, _, _⟩) (v := .int .i64 (k : Int)) rfl (by kernel_rfl) (by kernel_rfl) (by kernel_rfl) (fun _ _ _ h => h) (Or.inl ⟨by rfl, by intro WW hSw; (try dsimp only at hSw); go_simp⟩) (by assumption) ?_
                      (try simp only [Act.put, List.setIfInBounds_toArray, List.set_cons_zero, List.set_cons_succ])
                      refine wpAnyH_take (i := 16) (oi := ⟨some 110, _, _, _, _, _⟩) (v := .int .u64 ptr) rfl (by kernel_rfl) (by kernel_rfl) (by kernel_rfl) (fun _ _ _ h => h) (Or.inl ⟨by rfl, by intro WW hSw; (try dsimp only at hSw); go_simp⟩) (by assumption) ?_
                      (try simp only [Act.put, List.setIfInBounds_toArray, List.set_cons_zero, List.set_cons_succ])
                      refine wpAnyH_one (i := 3) (oi := ⟨some 97, _, _, _, _, _⟩) rfl (by kernel_rfl) (fun K hK => ?_)
                      refine step_calls (by rfl) 38 EGp.out [.tmp 95, .tmp 96] _ rfl [.int .u64 base, .int .i64 (k : Int)] rfl (HPt.out _) ?_
                      rintro e w5 ⟨rfl, rfl⟩
                      refine ⟨_, rfl, hK _ _ (hHeld) (fun hSn => ?_)⟩
                      clear hK K
                      (try simp only [Act.put, List.setIfInBounds_toArray, List.set_cons_zero, List.set_cons_succ])
                      refine wpAnyH_one (i := 6) (oi := ⟨some 100, _, _, _, _, _⟩) rfl (by kernel_rfl) (fun K hK => ?_)
                      refine step_calls (by rfl) 64 EGa.out [.tmp 98, .tmp 99] _ rfl [n.V, .int .i64 (k : Int)] rfl (HAh.out _) ?_
                      rintro e w5 ⟨rfl, h5⟩
                      have g5 := low_and hHeld h5
                      have HO5 := Lib.hid (ownS_low HO.out (low_and (drew_low9 _) h5))
                      refine ⟨_, rfl, hK _ _ (g5) (fun hSn => ?_)⟩
                      clear hK K
                      (try simp only [Act.put, List.setIfInBounds_toArray, List.set_cons_zero, List.set_cons_succ])
                      refine wpAnyH_take (i := 7) (oi := ⟨some 101, _, _, _, _, _⟩) (v := .agg #[.int .u64 (pA base k), .int .u64 ah]) rfl (by kernel_rfl) (by kernel_rfl) (by kernel_rfl) (fun _ _ _ h => h) (Or.inl ⟨by rfl, by intro WW hSw; (try dsimp only at hSw); go_simp⟩) (by assumption) ?_
                      (try simp only [Act.put, List.setIfInBounds_toArray, List.set_cons_zero, List.set_cons_succ])
                      refine wpAnyH_one (i := 10) (oi := ⟨some 104, _, _, _, _, _⟩) rfl (by kernel_rfl) (fun K hK => ?_)
                      refine step_calls (by rfl) 37 EGk.out [.tmp 102, .tmp 103] _ rfl [.int .u64 base, .int .i64 (k : Int)] rfl (HK.out _) ?_
                      rintro e w6 ⟨rfl, rfl⟩
                      refine ⟨_, rfl, hK _ _ (g5) (fun hSn => ?_)⟩
                      clear hK K
                      (try simp only [Act.put, List.setIfInBounds_toArray, List.set_cons_zero, List.set_cons_succ])
                      refine wpAnyH_take (i := 12) (oi := ⟨some 106, _, _, _, _, _⟩) (v := .agg #[.int .u64 (kA base k), .int .u64 key]) rfl (by kernel_rfl) (by kernel_rfl) (by kernel_rfl) (fun _ _ _ h => h) (Or.inl ⟨by rfl, by intro WW hSw; (try dsimp only at hSw); go_simp⟩) (by assumption) ?_
                      (try simp only [Act.put, List.setIfInBounds_toArray, List.set_cons_zero, List.set_cons_succ])
                      refine wpAnyH_one (i := 15) (oi := ⟨some 109, _, _, _, _, _⟩) rfl (by kernel_rfl) (fun K hK => ?_)
                      refine step_calls (by rfl) 38 EGp.out [.tmp 107, .tmp 108] _ rfl [.int .u64 base, .int .i64 (k : Int)] rfl (HPt.out _) ?_
                      rintro e w6 ⟨rfl, rfl⟩
                      refine ⟨_, rfl, hK _ _ (g5) (fun hSn => ?_)⟩
                      clear hK K
                      (try simp only [Act.put, List.setIfInBounds_toArray, List.set_cons_zero, List.set_cons_succ])
                      refine wpAnyH_take (i := 17) (oi := ⟨some 111, _, _, _, _, _⟩) (v := .agg #[.int .u64 (pA base k), .int .u64 ptr]) rfl (by kernel_rfl) (by kernel_rfl) (by kernel_rfl) (fun _ _ _ h => h) (Or.inl ⟨by rfl, by intro WW hSw; (try dsimp only at hSw); go_simp⟩) (by assumption) ?_
                      (try simp only [Act.put, List.setIfInBounds_toArray, List.set_cons_zero, List.set_cons_succ])
                      refine wpAnyH_one (i := 18) (oi := ⟨some 112, _, _, _, _, _⟩) rfl (by kernel_rfl) (fun K hK => ?_)
                      rw [if_pos (by rfl)]
                      unfold Oper.wp
                      go_simp
                      refine hK _ _ (low_and g5 (alloc_low _ _)) (fun hSn => ?_)
                      clear hK K
                      (try simp only [Act.put, List.setIfInBounds_toArray, List.set_cons_zero, List.set_cons_succ])
                      refine wpAnyH_one (i := 19) (oi := ⟨some 113, _, _, _, _, _⟩) rfl (by kernel_rfl) (fun K hK => ?_)
                      refine step_append_lies _ (by rfl) (.tmp 94) (.tmp 112) _ (by rfl) Wa.heap.size 45 i0 (.agg #[.int .u64 0, .int .u64 0]) 2 16 rfl hi hz0 hz1 hz2 rfl (by decide) _ _ _ (by rfl) (ownS_low HO5.out (alloc_low _ _)) ⟨w5.heap.size, 0, none⟩ 3 3 [.int .u64 (pA base k), .int .u64 ah, .int .u64 (kA base k), .int .u64 key, .int .u64 (pA base k), .int .u64 ptr] (by rfl) (by rfl) (World.news_of_block (cs := #[.int .u64 (pA base k), .int .u64 ah, .int .u64 (kA base k), .int .u64 key, .int .u64 (pA base k), .int .u64 ptr]) (t := 45) (fr := (0, 0)) (heap_alloc_new9 _ _)) (by intro u hu; simp at hu; rcases hu with rfl | rfl | rfl | rfl | rfl | rfl <;> rfl) (by decide) (by unfold maxLen; omega) (by omega) (by simp; have := g5.size; omega) (w5.heap.size + 1) (by simp) ?_
                      intro g4 cap4 w4 hown hgrow hsm hlt4
                      have HB4 := Lib.hid (show Below Wa.heap.size Wa w4 from (low_and g5 (alloc_low _ _)).grown hgrow (by have := g5.size; simp; omega) (fun j hj => (ownS_from HO5.out j hj).1))
                      have h6 : w4.ownsRow Wa.heap.size 45 2 (.slice (some ⟨g4, 0, none⟩) (m.length + 3) cap4) (m ++ [(pA base k, ah), (kA base k, key), (pA base k, ptr)]).length (flatE (m ++ [(pA base k, ah), (kA base k, key), (pA base k, ptr)])) := by
                        rw [List.length_append, flatE_app]
                        exact hown
                      have HE6 := Lib.hid (ent_ownG h6)
                      clear hown hgrow hsm hlt4 h6
                      refine hK _ _ (HB4.out) (fun hSn => ?_)
                      clear hK K
                      (try simp only [Act.put, List.setIfInBounds_toArray, List.set_cons_zero, List.set_cons_succ])
                      refine wpAnyH_take (i := 20) (oi := ⟨some 12, _, _, _, _, _⟩) (v := .slice (some ⟨g4, 0, none⟩) (m.length + 3) cap4) rfl (by kernel_rfl) (by kernel_rfl) (by kernel_rfl) (fun _ _ _ h => h) (Or.inl ⟨by rfl, by intro WW hSw; (try dsimp only at hSw); go_simp⟩) (by assumption) ?_
                      (try simp only [Act.put, List.setIfInBounds_toArray, List.set_cons_zero, List.set_cons_succ])
                      refine wpAnyH_done (by kernel_rfl) ?_ _
                      have hb4 := HB4.out
                      have HWh := Lib.hid (whole_any hbse n HE6.out (by simp) (by simp; omega))
                      go_wp2_with ((with_reducible refine show_load ?_); refine wpList_load_mid rfl 27 _ rfl w.heap.size 0 rfl n.cl _ (ndR (HRR.out _ (by assumption))) Try.underlying27 rfl ndI ?_)
                      go_at_call 65
                      refine HWh.out.mono ?_
                      rintro e w7 ⟨⟨v7, rfl, ho7⟩, h7⟩
                      have g7 := low_and hb4 h7
                      have HO7 := Lib.hid (ownS_mono ho7 (show w.heap.size ≤ w4.heap.size from Nat.le_trans HWs.out hb4.size))
                      clear ho7
                      go_wp2
                      go_ret2
                      rw [HR.out, show (([] : List (Int × Int)) ++ (upN base n k (q - k) ++ [(pA base k, ah)]) ++ [(kA base k, key), (pA base k, ptr)]) = m ++ [(pA base k, ah), (kA base k, key), (pA base k, ptr)] by rw [HE.out]; simp]
                      exact ⟨⟨_, rfl, HO7.out⟩, low_and HB0.out g7⟩
            · have hV3 := hV
              obtain hq8 | hq8 : q = 8 ∨ q < 8 := by omega
              · subst hq8
                have HR := Lib.hid (show R = ([], 4) by rw [HP0.out]; rfl)
                go_enter Try.func29, Try.ntmps29
                go_wp2_with (first
                      | (rw [← HWa.out]; (refine wpList_load_mid rfl 27 _ rfl w.heap.size 0 rfl n.cl _ (ndR (HRR.out _ (by assumption))) Try.underlying27 rfl ndI ?_))
                      | (refine wpList_load_mid rfl 27 _ rfl w.heap.size 0 rfl n.cl _ (ndR (HRR.out _ (by assumption))) Try.underlying27 rfl ndI ?_)
                      | (go_at_call 60; refine (HMy.out _).mono ?_; rintro e w1 ⟨rfl, h1⟩; have h1 := low_and hr0 h1)
                      | (refine wpList_load_midg (by rfl) 27 _ rfl w.heap.size 0 rfl n.cl _ (ndR (HRR.out _ (by assumption))) Try.underlying27 rfl ndI ?_)
                      | (go_at_call 61; refine (HHd.out _).mono ?_; rintro e wh ⟨rfl, hh⟩; have h1 := low_and h1 hh))
                go_at_call 62
                refine (HFd.out _).mono ?_
                rintro e w2 ⟨rfl, h2⟩
                have h2 := low_and h1 h2
                have c0 := HC0.out _ h2
                have c1 := HC1.out _ h2
                go_wp2_with ((with_reducible refine show_load ?_); refine wpList_load_mid rfl 27 _ rfl w.heap.size 0 rfl n.cl _ (ndR (HRR.out _ (by assumption))) Try.underlying27 rfl ndI ?_)
                go_at_call 39
                refine (HL.out _).mono ?_
                rintro e w3 ⟨rfl, h3⟩
                have h3 := low_and h2 h3
                go_wp2_with ((with_reducible refine show_load ?_); refine wpList_load_mid rfl 27 _ rfl w.heap.size 0 rfl n.cl _ (ndR (HRR.out _ (by assumption))) Try.underlying27 rfl ndI ?_)
                go_ret2
                rw [HR.out]
                exact ⟨⟨_, rfl, World.ownsRow_nil _ _ _ _⟩, low_and HB0.out h3⟩
              · have HP := Lib.hid (show R = (IL, 0) by rw [HP0.out, if_neg (by omega)])
                have hpq : p ≤ q := hal
                have hq8n : ¬ (q : Int) = 8 := by omega
                have hq8b : ((q : Int) == 8) = false := by simpa using hq8n
                have HLa := HLa0
                obtain hq7n | hq7n : q < 7 ∨ ¬ q < 7 := by omega
                · skip
                  have HPt1 := Lib.hid (fun W => pt_any hbse (i := q + 1) (by omega) W)
                  have hwq : IntKind.i64.wrap ((q : Int) + 1) = ((q + 1 : Nat) : Int) := by rw [IntKind.wrap_i64]; omega
                  have hq7 : (q : Int) < 7 := by omega
                  have HR := Lib.hid (show R = (wholeL base n ([(pA base (q + 1), 0)] ++ (upN base n p (q - p) ++ [(pA base p, n.ahd p)]) ++ [(kA base p, key), (pA base p, ptr)]), 0) by rw [HP.out, HMk.out]; simp [hq7n])
                  go_enter Try.func29, Try.ntmps29
                  go_wp2_with (first
                        | (rw [← HWa.out]; (refine wpList_load_mid rfl 27 _ rfl w.heap.size 0 rfl n.cl _ (ndR (HRR.out _ (by assumption))) Try.underlying27 rfl ndI ?_))
                        | (refine wpList_load_mid rfl 27 _ rfl w.heap.size 0 rfl n.cl _ (ndR (HRR.out _ (by assumption))) Try.underlying27 rfl ndI ?_)
                        | (go_at_call 60; refine (HMy.out _).mono ?_; rintro e w1 ⟨rfl, h1⟩; have h1 := low_and hr0 h1)
                        | (refine wpList_load_midg (by rfl) 27 _ rfl w.heap.size 0 rfl n.cl _ (ndR (HRR.out _ (by assumption))) Try.underlying27 rfl ndI ?_)
                        | (go_at_call 61; refine (HHd.out _).mono ?_; rintro e wh ⟨rfl, hh⟩; have h1 := low_and h1 hh))
                  go_at_call 62
                  refine (HFd.out _).mono ?_
                  rintro e w2 ⟨rfl, h2⟩
                  have h2 := low_and h1 h2
                  have c0 := HC0.out _ h2
                  have c1 := HC1.out _ h2
                  go_wp2_with ((with_reducible refine show_load ?_); refine wpList_load_mid rfl 27 _ rfl w.heap.size 0 rfl n.cl _ (ndR (HRR.out _ (by assumption))) Try.underlying27 rfl ndI ?_)
                  go_at_call 39
                  refine (HL.out _).mono ?_
                  rintro e w3 ⟨rfl, h3⟩
                  have h3 := low_and h2 h3
                  go_wp2_with ((with_reducible refine show_load ?_); refine wpList_load_mid rfl 27 _ rfl w.heap.size 0 rfl n.cl _ (ndR (HRR.out _ (by assumption))) Try.underlying27 rfl ndI ?_)
                  go_at_call 38
                  refine (HPt1.out _).mono ?_
                  rintro e w5 ⟨rfl, rfl⟩
                  go_wp2_with (first
                    | ((with_reducible refine show_load ?_); refine wpList_load_mid rfl 27 _ rfl w.heap.size 0 rfl n.cl _ (ndR (HRR.out _ (by assumption))) Try.underlying27 rfl ndI ?_)
                    | (at_builtin; refine wpList_append_own _ rfl _ _ 30 rfl Wa.heap.size 45 i0 (.agg #[.int .u64 0, .int .u64 0]) 2 16 Try.underlying30 hi hz0 hz1 hz2 rfl (by decide) _ 0 _ rfl (World.ownsRow_nil _ _ _ _) ⟨w3.heap.size, 0, none⟩ 1 1 [.int .u64 (pA base (q + 1)), .int .u64 0] rfl rfl ?q1 ?q2 ?q3 ?q4 ?q5 ?_))
                  case q1 =>
                    have hr := Row.new w3 45 #[.int .u64 (pA base (q + 1)), .int .u64 0]
                    intro j u hj
                    rw [Addr.add_lit, hr.cell, Nat.zero_add]
                    simpa using hj
                  case q2 => simp [Value.oneCell']
                  case q3 => unfold maxLen; omega
                  case q4 => omega
                  case q5 => have := h3.size; simp; omega
                  intro v' w4 hown hgrow hnil
                  have HO4 := Lib.hid hown
                  have HHH : Below Wa.heap.size Wa w4 := (low_and h3 (alloc_low _ _)).grown hgrow (by have := h3.size; simp; omega) (fun j hj => by cases hj)
                  clear hown hgrow hnil
                  go_wp2_with ((with_reducible refine show_load ?_); refine wpList_load_mid rfl 27 _ rfl w.heap.size 0 rfl n.cl _ (ndR (HRR.out _ (by assumption))) Try.underlying27 rfl ndI ?_)
                  go_at_call 63
                  refine (HLa.out _).mono ?_
                  rintro e wl ⟨rfl, hl⟩
                  have HLW := hl
                  have hl := low_and HHH hl
                  go_wp2_with ((with_reducible refine show_load ?_); refine wpList_load_mid rfl 27 _ rfl w.heap.size 0 rfl n.cl _ (ndR (HRR.out _ (by assumption))) Try.underlying27 rfl ndI ?_)
                  go_loopw [12, 14] (fun o i wr => ∃ k : Nat, p ≤ k ∧ k ≤ q ∧ i = .int .i64 (k : Int) ∧ ∃ m : List (Int × Int), m ++ upN base n p (k - p) = [(pA base (q + 1), 0)] ++ upN base n p (q - p) ∧ wr.ownsRow Wa.heap.size 45 2 o m.length (flatE m) ∧ m.length ≤ 1 + 2 * (q - k) ∧ Below Wa.heap.size Wa wr) (fun _ i _ => (intOf i).toNat)
                  case atStart => exact ⟨q, hpq, Nat.le_refl _, rfl, [(pA base (q + 1), 0)], rfl, ownS_low HO4.out HLW, by simp, hl⟩
                  case round =>
                    rename World => wr
                    obtain ⟨k, hpk, hkq, rfl, m, hm, ho, hml, hb⟩ := hrel
                    have HM := Lib.hid hm
                    have HO := Lib.hid ho
                    clear hm ho
                    by_cases hlt : p < k
                    · obtain ⟨j, rfl⟩ : ∃ j, k = j + 1 := ⟨k - 1, by omega⟩
                      have hki : (p : Int) < ((j + 1 : Nat) : Int) := by omega
                      have hwk : IntKind.i64.wrap (((j + 1 : Nat) : Int) - 1) = (j : Int) := by rw [IntKind.wrap_i64]; omega
                      have hwj : IntKind.i64.wrap (j : Int) = (j : Int) := by rw [IntKind.wrap_i64]; omega
                      have hwj1 : IntKind.i64.wrap ((j : Int) + 1 - 1) = (j : Int) := by rw [IntKind.wrap_i64]; omega
                      have hj8 : (j : Int) < 8 := by omega
                      have hj0 : ¬ (j : Int) < 0 := by omega
                      have HK := Lib.hid (fun W => (show Calls Try.prog 37 #[.int .u64 base, .int .i64 ((j : Int) + 1)] W fun e w' => e = .returned (.int .u64 (kA base (j + 1))) ∧ W = w' from kt_any hbse (i := j + 1) (by omega) W))
                      have HPt := Lib.hid (fun W => (show Calls Try.prog 38 #[.int .u64 base, .int .i64 ((j : Int) + 1)] W fun e w' => e = .returned (.int .u64 (pA base (j + 1))) ∧ W = w' from pt_any hbse (i := j + 1) (by omega) W))
                      have HST := Lib.hid (show upN base n p (j + 1 - p) = [(pA base (j + 1), n.ptr j), (kA base (j + 1), n.key j)] ++ upN base n p (j - p) by rw [show j + 1 - p = (j - p) + 1 by omega, upN, show p + (j - p) = j by omega] <;> rfl)
                      have hN := fun W' (hb : Below Wa.heap.size Wa W') => And.intro (ndAt_key (HRR.out W' hb) (i := j) (by omega)) (ndAt_ptr (HRR.out W' hb) (i := j) (by omega))
                      obtain ⟨y, hy⟩ : ∃ y, y = n.key j := ⟨_, rfl⟩
                      obtain ⟨z, hz⟩ : ∃ z, z = n.ptr j := ⟨_, rfl⟩
                      rw [← hy, ← hz] at HST hN
                      have STAY := Lib.hid (fun W' (hb : Below Wa.heap.size Wa W') => And.intro (hN W' hb).1 (And.intro (hN W' hb).2 hb))
                      clear hy hz hN
                      go_wp2_with fail
                      refine wp_region_held_drew (S := fun W' => W'.cell? ⟨w.heap.size, 5 + j, none⟩ = some (.int .u64 y) ∧ W'.cell? ⟨w.heap.size, 13 + j, none⟩ = some (.int .u64 z) ∧ Below Wa.heap.size Wa W') (by kernel_rfl) (STAY.out _ (low_and hb (drew_low9 _))) (fun hHeld => ?_)
                      refine wpAnyH_take (i := 0) (oi := ⟨some 73, _, _, _, _, _⟩) (v := u12) rfl (by kernel_rfl) (by kernel_rfl) (by kernel_rfl) (fun _ _ _ h => h) (Or.inl ⟨by rfl, by intro WW hSw; (try dsimp only at hSw); go_simp⟩) (by assumption) ?_
                      (try simp only [Act.put, List.setIfInBounds_toArray, List.set_cons_zero, List.set_cons_succ])
                      refine wpAnyH_take (i := 1) (oi := ⟨some 74, _, _, _, _, _⟩) (v := .int .u64 base) rfl (by kernel_rfl) (by kernel_rfl) (by kernel_rfl) (fun _ _ _ h => h) (Or.inl ⟨by rfl, by intro WW hSw; (try dsimp only at hSw); go_simp⟩) (by assumption) ?_
                      (try simp only [Act.put, List.setIfInBounds_toArray, List.set_cons_zero, List.set_cons_succ])
                      refine wpAnyH_take (i := 2) (oi := ⟨some 75, _, _, _, _, _⟩) (v := .int .i64 ((j : Int) + 1)) rfl (by kernel_rfl) (by kernel_rfl) (by kernel_rfl) (fun _ _ _ h => h) (Or.inl ⟨by rfl, by intro WW hSw; (try dsimp only at hSw); go_simp⟩) (by assumption) ?_
                      (try simp only [Act.put, List.setIfInBounds_toArray, List.set_cons_zero, List.set_cons_succ])
                      refine wpAnyH_take (i := 4) (oi := ⟨some 77, _, _, _, _, _⟩) (v := .int .i64 ((j : Int) + 1)) rfl (by kernel_rfl) (by kernel_rfl) (by kernel_rfl) (fun _ _ _ h => h) (Or.inl ⟨by rfl, by intro WW hSw; (try dsimp only at hSw); go_simp⟩) (by assumption) ?_
                      (try simp only [Act.put, List.setIfInBounds_toArray, List.set_cons_zero, List.set_cons_succ])
                      refine wpAnyH_take (i := 5) (oi := ⟨some 78, _, _, _, _, _⟩) (v := .int .i64 (j : Int)) rfl (by kernel_rfl) (by kernel_rfl) (by kernel_rfl) (fun _ _ _ h => h) (Or.inl ⟨by rfl, by intro WW hSw; (try dsimp only at hSw); go_simp⟩) (by assumption) ?_
                      (try simp only [Act.put, List.setIfInBounds_toArray, List.set_cons_zero, List.set_cons_succ])
                      refine wpAnyH_take (i := 6) (oi := ⟨some 79, _, _, _, _, _⟩) (v := .pointer (some ⟨w.heap.size, 13, none⟩)) rfl (by kernel_rfl) (by kernel_rfl) (by kernel_rfl) (fun _ _ _ h => h) (Or.inl ⟨by rfl, by intro WW hSw; (try dsimp only at hSw); go_simp⟩) (by assumption) ?_
                      (try simp only [Act.put, List.setIfInBounds_toArray, List.set_cons_zero, List.set_cons_succ])
                      refine wpAnyH_take (i := 7) (oi := ⟨some 80, _, _, _, _, _⟩) (v := .pointer (some ⟨w.heap.size, 13 + j, none⟩)) rfl (by kernel_rfl) (by kernel_rfl) (by kernel_rfl) (fun _ _ _ h => h) (Or.inl ⟨by rfl, by intro WW hSw; (try dsimp only at hSw); go_simp⟩) (by assumption) ?_
                      (try simp only [Act.put, List.setIfInBounds_toArray, List.set_cons_zero, List.set_cons_succ])
                      refine wpAnyH_take (i := 8) (oi := ⟨some 81, _, _, _, _, _⟩) (v := .int .u64 z) rfl (by kernel_rfl) (by kernel_rfl) (by kernel_rfl) (fun _ _ _ h => h) (Or.inl ⟨by rfl, by intro WW hSw; (try dsimp only at hSw); go_simp⟩) (by assumption) ?_
                      (try simp only [Act.put, List.setIfInBounds_toArray, List.set_cons_zero, List.set_cons_succ])
                      refine wpAnyH_take (i := 10) (oi := ⟨some 83, _, _, _, _, _⟩) (v := .int .u64 base) rfl (by kernel_rfl) (by kernel_rfl) (by kernel_rfl) (fun _ _ _ h => h) (Or.inl ⟨by rfl, by intro WW hSw; (try dsimp only at hSw); go_simp⟩) (by assumption) ?_
                      (try simp only [Act.put, List.setIfInBounds_toArray, List.set_cons_zero, List.set_cons_succ])
                      refine wpAnyH_take (i := 11) (oi := ⟨some 84, _, _, _, _, _⟩) (v := .int .i64 ((j : Int) + 1)) rfl (by kernel_rfl) (by kernel_rfl) (by kernel_rfl) (fun _ _ _ h => h) (Or.inl ⟨by rfl, by intro WW hSw; (try dsimp only at hSw); go_simp⟩) (by assumption) ?_
                      (try simp only [Act.put, List.setIfInBounds_toArray, List.set_cons_zero, List.set_cons_succ])
                      refine wpAnyH_take (i := 13) (oi := ⟨some 86, _, _, _, _, _⟩) (v := .int .i64 ((j : Int) + 1)) rfl (by kernel_rfl) (by kernel_rfl) (by kernel_rfl) (fun _ _ _ h => h) (Or.inl ⟨by rfl, by intro WW hSw; (try dsimp only at hSw); go_simp⟩) (by assumption) ?_
                      (try simp only [Act.put, List.setIfInBounds_toArray, List.set_cons_zero, List.set_cons_succ])
                      refine wpAnyH_take (i := 14) (oi := ⟨some 87, _, _, _, _, _⟩) (v := .int .i64 (j : Int)) rfl (by kernel_rfl) (by kernel_rfl) (by kernel_rfl) (fun _ _ _ h => h) (Or.inl ⟨by rfl, by intro WW hSw; (try dsimp only at hSw); go_simp⟩) (by assumption) ?_
                      (try simp only [Act.put, List.setIfInBounds_toArray, List.set_cons_zero, List.set_cons_succ])
                      refine wpAnyH_take (i := 15) (oi := ⟨some 88, _, _, _, _, _⟩) (v := .pointer (some ⟨w.heap.size, 5, none⟩)) rfl (by kernel_rfl) (by kernel_rfl) (by kernel_rfl) (fun _ _ _ h => h) (Or.inl ⟨by rfl, by intro WW hSw; (try dsimp only at hSw); go_simp⟩) (by assumption) ?_
                      (try simp only [Act.put, List.setIfInBounds_toArray, List.set_cons_zero, List.set_cons_succ])
                      refine wpAnyH_take (i := 16) (oi := ⟨some 89, _, _, _, _, _⟩) (v := .pointer (some ⟨w.heap.size, 5 + j, none⟩)) rfl (by kernel_rfl) (by kernel_rfl) (by kernel_rfl) (fun _ _ _ h => h) (Or.inl ⟨by rfl, by intro WW hSw; (try dsimp only at hSw); go_simp⟩) (by assumption) ?_
                      (try simp only [Act.put, List.setIfInBounds_toArray, List.set_cons_zero, List.set_cons_succ])
                      refine wpAnyH_take (i := 17) (oi := ⟨some 90, _, _, _, _, _⟩) (v := .int .u64 y) rfl (by kernel_rfl) (by kernel_rfl) (by kernel_rfl) (fun _ _ _ h => h) (Or.inl ⟨by rfl, by intro WW hSw; (try dsimp only at hSw); go_simp⟩) (by assumption) ?_
                      (try simp only [Act.put, List.setIfInBounds_toArray, List.set_cons_zero, List.set_cons_succ])
                      refine wpAnyH_one (i := 3) (oi := ⟨some 76, _, _, _, _, _⟩) rfl (by kernel_rfl) (fun K hK => ?_)
                      refine step_calls (by rfl) 38 EGp.out [.tmp 74, .tmp 75] _ rfl [.int .u64 base, .int .i64 ((j : Int) + 1)] rfl (HPt.out _) ?_
                      rintro e w5 ⟨rfl, rfl⟩
                      refine ⟨_, rfl, hK _ _ (hHeld) (fun hSn => ?_)⟩
                      clear hK K
                      (try simp only [Act.put, List.setIfInBounds_toArray, List.set_cons_zero, List.set_cons_succ])
                      refine wpAnyH_take (i := 9) (oi := ⟨some 82, _, _, _, _, _⟩) (v := .agg #[.int .u64 (pA base (j + 1)), .int .u64 z]) rfl (by kernel_rfl) (by kernel_rfl) (by kernel_rfl) (fun _ _ _ h => h) (Or.inl ⟨by rfl, by intro WW hSw; (try dsimp only at hSw); go_simp⟩) (by assumption) ?_
                      (try simp only [Act.put, List.setIfInBounds_toArray, List.set_cons_zero, List.set_cons_succ])
                      refine wpAnyH_one (i := 12) (oi := ⟨some 85, _, _, _, _, _⟩) rfl (by kernel_rfl) (fun K hK => ?_)
                      refine step_calls (by rfl) 37 EGk.out [.tmp 83, .tmp 84] _ rfl [.int .u64 base, .int .i64 ((j : Int) + 1)] rfl (HK.out _) ?_
                      rintro e w6 ⟨rfl, rfl⟩
                      refine ⟨_, rfl, hK _ _ (hHeld) (fun hSn => ?_)⟩
                      clear hK K
                      (try simp only [Act.put, List.setIfInBounds_toArray, List.set_cons_zero, List.set_cons_succ])
                      refine wpAnyH_take (i := 18) (oi := ⟨some 91, _, _, _, _, _⟩) (v := .agg #[.int .u64 (kA base (j + 1)), .int .u64 y]) rfl (by kernel_rfl) (by kernel_rfl) (by kernel_rfl) (fun _ _ _ h => h) (Or.inl ⟨by rfl, by intro WW hSw; (try dsimp only at hSw); go_simp⟩) (by assumption) ?_
                      (try simp only [Act.put, List.setIfInBounds_toArray, List.set_cons_zero, List.set_cons_succ])
                      refine wpAnyH_one (i := 19) (oi := ⟨some 92, _, _, _, _, _⟩) rfl (by kernel_rfl) (fun K hK => ?_)
                      rw [if_pos (by rfl)]
                      unfold Oper.wp
                      go_simp
                      refine hK _ _ (STAY.out _ (low_and hb (low_and (alloc_low _ _) (drew_low9 _)))) (fun hSn => ?_)
                      clear hK K
                      (try simp only [Act.put, List.setIfInBounds_toArray, List.set_cons_zero, List.set_cons_succ])
                      refine wpAnyH_one (i := 20) (oi := ⟨some 93, _, _, _, _, _⟩) rfl (by kernel_rfl) (fun K hK => ?_)
                      refine step_append_lies _ (by rfl) (.tmp 73) (.tmp 92) _ (by rfl) Wa.heap.size 45 i0 (.agg #[.int .u64 0, .int .u64 0]) 2 16 rfl hi hz0 hz1 hz2 rfl (by decide) _ _ _ (by rfl) (ownS_low HO.out (low_and (alloc_low _ _) (drew_low9 _))) ⟨wr.heap.size, 0, none⟩ 2 2 [.int .u64 (pA base (j + 1)), .int .u64 z, .int .u64 (kA base (j + 1)), .int .u64 y] (by rfl) (by rfl) (World.news_of_block (cs := #[.int .u64 (pA base (j + 1)), .int .u64 z, .int .u64 (kA base (j + 1)), .int .u64 y]) (t := 45) (fr := (0, 0)) (heap_alloc_new9 _ _)) (by intro u hu; simp at hu; rcases hu with rfl | rfl | rfl | rfl <;> rfl) (by decide) (by unfold maxLen; omega) (by omega) (by simp; have := hb.size; omega) (wr.heap.size + 1) (by simp) ?_
                      intro g4 cap4 w4 hown hgrow hsm hlt4
                      have HO4 := Lib.hid hown
                      have HB4 := Lib.hid (show Below Wa.heap.size Wa w4 from (low_and hb (low_and (alloc_low _ _) (drew_low9 _))).grown hgrow (by have := hb.size; simp; omega) (fun j hj => (ownS_from HO.out j hj).1))
                      clear hown hgrow hsm hlt4
                      refine hK _ _ (STAY.out _ HB4.out) (fun hSn => ?_)
                      clear hK K
                      (try simp only [Act.put, List.setIfInBounds_toArray, List.set_cons_zero, List.set_cons_succ])
                      refine wpAnyH_take (i := 21) (oi := ⟨some 12, _, _, _, _, _⟩) (v := .slice (some ⟨g4, 0, none⟩) (m.length + 2) cap4) rfl (by kernel_rfl) (by kernel_rfl) (by kernel_rfl) (fun _ _ _ h => h) (Or.inl ⟨by rfl, by intro WW hSw; (try dsimp only at hSw); go_simp⟩) (by assumption) ?_
                      (try simp only [Act.put, List.setIfInBounds_toArray, List.set_cons_zero, List.set_cons_succ])
                      refine wpAnyH_done (by kernel_rfl) ?_ _
                      go_wp2
                      refine ⟨⟨j, by omega, by omega, by go_num, m ++ [(pA base (j + 1), z), (kA base (j + 1), y)], by rw [← HM.out, HST.out, List.append_assoc], ?_, by rw [List.length_append]; simp; omega, HB4.out⟩, by simp [intOf]⟩
                      rw [flatE_two, List.length_append]
                      exact HO4.out

                    · obtain rfl : k = p := by omega
                      have hki : ¬ (k : Int) < (k : Int) := by omega
                      have HK := Lib.hid (fun W => kt_any hbse (i := k) (by omega) W)
                      have HPt := Lib.hid (fun W => pt_any hbse (i := k) (by omega) W)
                      have HAh := Lib.hid (fun W' => r9ahead_any n (p := k) (by omega) W')
                      have HE := Lib.hid (show m = [(pA base (q + 1), 0)] ++ upN base n k (q - k) by rw [← HM.out, Nat.sub_self]; simp [upN])
                      generalize n.ahd k = ah at HAh HR
                      go_wp2_with fail
                      refine wp_region_held_drew (S := fun W' => Below Wa.heap.size Wa W') (by kernel_rfl) (low_and hb (drew_low9 _)) (fun hHeld => ?_)
                      refine wpAnyH_take (i := 0) (oi := ⟨some 94, _, _, _, _, _⟩) (v := u12) rfl (by kernel_rfl) (by kernel_rfl) (by kernel_rfl) (fun _ _ _ h => h) (Or.inl ⟨by rfl, by intro WW hSw; (try dsimp only at hSw); go_simp⟩) (by assumption) ?_
                      (try simp only [Act.put, List.setIfInBounds_toArray, List.set_cons_zero, List.set_cons_succ])
                      refine wpAnyH_take (i := 1) (oi := ⟨some 95, _, _, _, _, _⟩) (v := .int .u64 base) rfl (by kernel_rfl) (by kernel_rfl) (by kernel_rfl) (fun _ _ _ h => h) (Or.inl ⟨by rfl, by intro WW hSw; (try dsimp only at hSw); go_simp⟩) (by assumption) ?_
                      (try simp only [Act.put, List.setIfInBounds_toArray, List.set_cons_zero, List.set_cons_succ])
                      refine wpAnyH_take (i := 2) (oi := ⟨some 96, _, _, _, _, _⟩) (v := .int .i64 (k : Int)) rfl (by kernel_rfl) (by kernel_rfl) (by kernel_rfl) (fun _ _ _ h => h) (Or.inl ⟨by rfl, by intro WW hSw; (try dsimp only at hSw); go_simp⟩) (by assumption) ?_
                      (try simp only [Act.put, List.setIfInBounds_toArray, List.set_cons_zero, List.set_cons_succ])
                      refine wpAnyH_take (i := 4) (oi := ⟨some 98, _, _, _, _, _⟩) (v := .agg n.cl.toArray) rfl (by kernel_rfl) (by kernel_rfl) (by kernel_rfl) (fun _ _ _ h => h) (yieldsIf_load_mid (by rfl) _ _ rfl w.heap.size 0 rfl n.cl _ (fun w' hw' => ndR (HRR.out _ hw')) Try.underlying27 rfl ndI) (by assumption) ?_
                      (try simp only [Act.put, List.setIfInBounds_toArray, List.set_cons_zero, List.set_cons_succ])
                      refine wpAnyH_take (i := 5) (oi := ⟨some 99, _, _, _, _, _⟩) (v := .int .i64 (k : Int)) rfl (by kernel_rfl) (by kernel_rfl) (by kernel_rfl) (fun _ _ _ h => h) (Or.inl ⟨by rfl, by intro WW hSw; (try dsimp only at hSw); go_simp⟩) (by assumption) ?_
                      (try simp only [Act.put, List.setIfInBounds_toArray, List.set_cons_zero, List.set_cons_succ])
                      refine wpAnyH_take (i := 8) (oi := ⟨some 102, _, _, _, _, _⟩) (v := .int .u64 base) rfl (by kernel_rfl) (by kernel_rfl) (by kernel_rfl) (fun _ _ _ h => h) (Or.inl ⟨by rfl, by intro WW hSw; (try dsimp only at hSw); go_simp⟩) (by assumption) ?_
                      (try simp only [Act.put, List.setIfInBounds_toArray, List.set_cons_zero, List.set_cons_succ])
                      refine wpAnyH_take (i := 9) (oi := ⟨some 103, _, _, _, _, _⟩) (v := .int .i64 (k : Int)) rfl (by kernel_rfl) (by kernel_rfl) (by kernel_rfl) (fun _ _ _ h => h) (Or.inl ⟨by rfl, by intro WW hSw; (try dsimp only at hSw); go_simp⟩) (by assumption) ?_
                      (try simp only [Act.put, List.setIfInBounds_toArray, List.set_cons_zero, List.set_cons_succ])
                      refine wpAnyH_take (i := 11) (oi := ⟨some 105, _, _, _, _, _⟩) (v := .int .u64 key) rfl (by kernel_rfl) (by kernel_rfl) (by kernel_rfl) (fun _ _ _ h => h) (Or.inl ⟨by rfl, by intro WW hSw; (try dsimp only at hSw); go_simp⟩) (by assumption) ?_
                      (try simp only [Act.put, List.setIfInBounds_toArray, List.set_cons_zero, List.set_cons_succ])
                      refine wpAnyH_take (i := 13) (oi := ⟨some 107, _, _, _, _, _⟩) (v := .int .u64 base) rfl (by kernel_rfl) (by kernel_rfl) (by kernel_rfl) (fun _ _ _ h => h) (Or.inl ⟨by rfl, by intro WW hSw; (try dsimp only at hSw); go_simp⟩) (by assumption) ?_
                      (try simp only [Act.put, List.setIfInBounds_toArray, List.set_cons_zero, List.set_cons_succ])
                      refine wpAnyH_take (i := 14) (oi := ⟨some 108, _, _, _, _, _⟩) (v := .int .i64 (k : Int)) rfl (by kernel_rfl) (by kernel_rfl) (by kernel_rfl) (fun _ _ _ h => h) (Or.inl ⟨by rfl, by intro WW hSw; (try dsimp only at hSw); go_simp⟩) (by assumption) ?_
                      (try simp only [Act.put, List.setIfInBounds_toArray, List.set_cons_zero, List.set_cons_succ])
                      refine wpAnyH_take (i := 16) (oi := ⟨some 110, _, _, _, _, _⟩) (v := .int .u64 ptr) rfl (by kernel_rfl) (by kernel_rfl) (by kernel_rfl) (fun _ _ _ h => h) (Or.inl ⟨by rfl, by intro WW hSw; (try dsimp only at hSw); go_simp⟩) (by assumption) ?_
                      (try simp only [Act.put, List.setIfInBounds_toArray, List.set_cons_zero, List.set_cons_succ])
                      refine wpAnyH_one (i := 3) (oi := ⟨some 97, _, _, _, _, _⟩) rfl (by kernel_rfl) (fun K hK => ?_)
                      refine step_calls (by rfl) 38 EGp.out [.tmp 95, .tmp 96] _ rfl [.int .u64 base, .int .i64 (k : Int)] rfl (HPt.out _) ?_
                      rintro e w5 ⟨rfl, rfl⟩
                      refine ⟨_, rfl, hK _ _ (hHeld) (fun hSn => ?_)⟩
                      clear hK K
                      (try simp only [Act.put, List.setIfInBounds_toArray, List.set_cons_zero, List.set_cons_succ])
                      refine wpAnyH_one (i := 6) (oi := ⟨some 100, _, _, _, _, _⟩) rfl (by kernel_rfl) (fun K hK => ?_)
                      refine step_calls (by rfl) 64 EGa.out [.tmp 98, .tmp 99] _ rfl [n.V, .int .i64 (k : Int)] rfl (HAh.out _) ?_
                      rintro e w5 ⟨rfl, h5⟩
                      have g5 := low_and hHeld h5
                      have HO5 := Lib.hid (ownS_low HO.out (low_and (drew_low9 _) h5))
                      refine ⟨_, rfl, hK _ _ (g5) (fun hSn => ?_)⟩
                      clear hK K
                      (try simp only [Act.put, List.setIfInBounds_toArray, List.set_cons_zero, List.set_cons_succ])
                      refine wpAnyH_take (i := 7) (oi := ⟨some 101, _, _, _, _, _⟩) (v := .agg #[.int .u64 (pA base k), .int .u64 ah]) rfl (by kernel_rfl) (by kernel_rfl) (by kernel_rfl) (fun _ _ _ h => h) (Or.inl ⟨by rfl, by intro WW hSw; (try dsimp only at hSw); go_simp⟩) (by assumption) ?_
                      (try simp only [Act.put, List.setIfInBounds_toArray, List.set_cons_zero, List.set_cons_succ])
                      refine wpAnyH_one (i := 10) (oi := ⟨some 104, _, _, _, _, _⟩) rfl (by kernel_rfl) (fun K hK => ?_)
                      refine step_calls (by rfl) 37 EGk.out [.tmp 102, .tmp 103] _ rfl [.int .u64 base, .int .i64 (k : Int)] rfl (HK.out _) ?_
                      rintro e w6 ⟨rfl, rfl⟩
                      refine ⟨_, rfl, hK _ _ (g5) (fun hSn => ?_)⟩
                      clear hK K
                      (try simp only [Act.put, List.setIfInBounds_toArray, List.set_cons_zero, List.set_cons_succ])
                      refine wpAnyH_take (i := 12) (oi := ⟨some 106, _, _, _, _, _⟩) (v := .agg #[.int .u64 (kA base k), .int .u64 key]) rfl (by kernel_rfl) (by kernel_rfl) (by kernel_rfl) (fun _ _ _ h => h) (Or.inl ⟨by rfl, by intro WW hSw; (try dsimp only at hSw); go_simp⟩) (by assumption) ?_
                      (try simp only [Act.put, List.setIfInBounds_toArray, List.set_cons_zero, List.set_cons_succ])
                      refine wpAnyH_one (i := 15) (oi := ⟨some 109, _, _, _, _, _⟩) rfl (by kernel_rfl) (fun K hK => ?_)
                      refine step_calls (by rfl) 38 EGp.out [.tmp 107, .tmp 108] _ rfl [.int .u64 base, .int .i64 (k : Int)] rfl (HPt.out _) ?_
                      rintro e w6 ⟨rfl, rfl⟩
                      refine ⟨_, rfl, hK _ _ (g5) (fun hSn => ?_)⟩
                      clear hK K
                      (try simp only [Act.put, List.setIfInBounds_toArray, List.set_cons_zero, List.set_cons_succ])
                      refine wpAnyH_take (i := 17) (oi := ⟨some 111, _, _, _, _, _⟩) (v := .agg #[.int .u64 (pA base k), .int .u64 ptr]) rfl (by kernel_rfl) (by kernel_rfl) (by kernel_rfl) (fun _ _ _ h => h) (Or.inl ⟨by rfl, by intro WW hSw; (try dsimp only at hSw); go_simp⟩) (by assumption) ?_
                      (try simp only [Act.put, List.setIfInBounds_toArray, List.set_cons_zero, List.set_cons_succ])
                      refine wpAnyH_one (i := 18) (oi := ⟨some 112, _, _, _, _, _⟩) rfl (by kernel_rfl) (fun K hK => ?_)
                      rw [if_pos (by rfl)]
                      unfold Oper.wp
                      go_simp
                      refine hK _ _ (low_and g5 (alloc_low _ _)) (fun hSn => ?_)
                      clear hK K
                      (try simp only [Act.put, List.setIfInBounds_toArray, List.set_cons_zero, List.set_cons_succ])
                      refine wpAnyH_one (i := 19) (oi := ⟨some 113, _, _, _, _, _⟩) rfl (by kernel_rfl) (fun K hK => ?_)
                      refine step_append_lies _ (by rfl) (.tmp 94) (.tmp 112) _ (by rfl) Wa.heap.size 45 i0 (.agg #[.int .u64 0, .int .u64 0]) 2 16 rfl hi hz0 hz1 hz2 rfl (by decide) _ _ _ (by rfl) (ownS_low HO5.out (alloc_low _ _)) ⟨w5.heap.size, 0, none⟩ 3 3 [.int .u64 (pA base k), .int .u64 ah, .int .u64 (kA base k), .int .u64 key, .int .u64 (pA base k), .int .u64 ptr] (by rfl) (by rfl) (World.news_of_block (cs := #[.int .u64 (pA base k), .int .u64 ah, .int .u64 (kA base k), .int .u64 key, .int .u64 (pA base k), .int .u64 ptr]) (t := 45) (fr := (0, 0)) (heap_alloc_new9 _ _)) (by intro u hu; simp at hu; rcases hu with rfl | rfl | rfl | rfl | rfl | rfl <;> rfl) (by decide) (by unfold maxLen; omega) (by omega) (by simp; have := g5.size; omega) (w5.heap.size + 1) (by simp) ?_
                      intro g4 cap4 w4 hown hgrow hsm hlt4
                      have HB4 := Lib.hid (show Below Wa.heap.size Wa w4 from (low_and g5 (alloc_low _ _)).grown hgrow (by have := g5.size; simp; omega) (fun j hj => (ownS_from HO5.out j hj).1))
                      have h6 : w4.ownsRow Wa.heap.size 45 2 (.slice (some ⟨g4, 0, none⟩) (m.length + 3) cap4) (m ++ [(pA base k, ah), (kA base k, key), (pA base k, ptr)]).length (flatE (m ++ [(pA base k, ah), (kA base k, key), (pA base k, ptr)])) := by
                        rw [List.length_append, flatE_app]
                        exact hown
                      have HE6 := Lib.hid (ent_ownG h6)
                      clear hown hgrow hsm hlt4 h6
                      refine hK _ _ (HB4.out) (fun hSn => ?_)
                      clear hK K
                      (try simp only [Act.put, List.setIfInBounds_toArray, List.set_cons_zero, List.set_cons_succ])
                      refine wpAnyH_take (i := 20) (oi := ⟨some 12, _, _, _, _, _⟩) (v := .slice (some ⟨g4, 0, none⟩) (m.length + 3) cap4) rfl (by kernel_rfl) (by kernel_rfl) (by kernel_rfl) (fun _ _ _ h => h) (Or.inl ⟨by rfl, by intro WW hSw; (try dsimp only at hSw); go_simp⟩) (by assumption) ?_
                      (try simp only [Act.put, List.setIfInBounds_toArray, List.set_cons_zero, List.set_cons_succ])
                      refine wpAnyH_done (by kernel_rfl) ?_ _
                      have hb4 := HB4.out
                      have HWh := Lib.hid (whole_any hbse n HE6.out (by simp) (by simp; omega))
                      go_wp2_with ((with_reducible refine show_load ?_); refine wpList_load_mid rfl 27 _ rfl w.heap.size 0 rfl n.cl _ (ndR (HRR.out _ (by assumption))) Try.underlying27 rfl ndI ?_)
                      go_at_call 65
                      refine HWh.out.mono ?_
                      rintro e w7 ⟨⟨v7, rfl, ho7⟩, h7⟩
                      have g7 := low_and hb4 h7
                      have HO7 := Lib.hid (ownS_mono ho7 (show w.heap.size ≤ w4.heap.size from Nat.le_trans HWs.out hb4.size))
                      clear ho7
                      go_wp2
                      go_ret2
                      rw [HR.out, show ([(pA base (q + 1), 0)] ++ (upN base n k (q - k) ++ [(pA base k, ah)]) ++ [(kA base k, key), (pA base k, ptr)]) = m ++ [(pA base k, ah), (kA base k, key), (pA base k, ptr)] by rw [HE.out]; simp]
                      exact ⟨⟨_, rfl, HO7.out⟩, low_and HB0.out g7⟩
                · skip
                  have HPt1 := Lib.hid (fun W => pt_any hbse (i := q + 1) (by omega) W)
                  have hwq : IntKind.i64.wrap ((q : Int) + 1) = ((q + 1 : Nat) : Int) := by rw [IntKind.wrap_i64]; omega
                  have hq7 : ¬ (q : Int) < 7 := by omega
                  have HR := Lib.hid (show R = (wholeL base n (([] : List (Int × Int)) ++ (upN base n p (q - p) ++ [(pA base p, n.ahd p)]) ++ [(kA base p, key), (pA base p, ptr)]), 0) by rw [HP.out, HMk.out]; simp [hq7n])
                  go_enter Try.func29, Try.ntmps29
                  go_wp2_with (first
                        | (rw [← HWa.out]; (refine wpList_load_mid rfl 27 _ rfl w.heap.size 0 rfl n.cl _ (ndR (HRR.out _ (by assumption))) Try.underlying27 rfl ndI ?_))
                        | (refine wpList_load_mid rfl 27 _ rfl w.heap.size 0 rfl n.cl _ (ndR (HRR.out _ (by assumption))) Try.underlying27 rfl ndI ?_)
                        | (go_at_call 60; refine (HMy.out _).mono ?_; rintro e w1 ⟨rfl, h1⟩; have h1 := low_and hr0 h1)
                        | (refine wpList_load_midg (by rfl) 27 _ rfl w.heap.size 0 rfl n.cl _ (ndR (HRR.out _ (by assumption))) Try.underlying27 rfl ndI ?_)
                        | (go_at_call 61; refine (HHd.out _).mono ?_; rintro e wh ⟨rfl, hh⟩; have h1 := low_and h1 hh))
                  go_at_call 62
                  refine (HFd.out _).mono ?_
                  rintro e w2 ⟨rfl, h2⟩
                  have h2 := low_and h1 h2
                  have c0 := HC0.out _ h2
                  have c1 := HC1.out _ h2
                  go_wp2_with ((with_reducible refine show_load ?_); refine wpList_load_mid rfl 27 _ rfl w.heap.size 0 rfl n.cl _ (ndR (HRR.out _ (by assumption))) Try.underlying27 rfl ndI ?_)
                  go_at_call 39
                  refine (HL.out _).mono ?_
                  rintro e w3 ⟨rfl, h3⟩
                  have h3 := low_and h2 h3
                  go_wp2_with ((with_reducible refine show_load ?_); refine wpList_load_mid rfl 27 _ rfl w.heap.size 0 rfl n.cl _ (ndR (HRR.out _ (by assumption))) Try.underlying27 rfl ndI ?_)
                  go_at_call 63
                  refine (HLa.out _).mono ?_
                  rintro e wl ⟨rfl, hl⟩
                  have HLW := hl
                  have hl := low_and h3 hl
                  go_wp2_with ((with_reducible refine show_load ?_); refine wpList_load_mid rfl 27 _ rfl w.heap.size 0 rfl n.cl _ (ndR (HRR.out _ (by assumption))) Try.underlying27 rfl ndI ?_)
                  go_loopw [12, 14] (fun o i wr => ∃ k : Nat, p ≤ k ∧ k ≤ q ∧ i = .int .i64 (k : Int) ∧ ∃ m : List (Int × Int), m ++ upN base n p (k - p) = ([] : List (Int × Int)) ++ upN base n p (q - p) ∧ wr.ownsRow Wa.heap.size 45 2 o m.length (flatE m) ∧ m.length ≤ 1 + 2 * (q - k) ∧ Below Wa.heap.size Wa wr) (fun _ i _ => (intOf i).toNat)
                  case atStart => exact ⟨q, hpq, Nat.le_refl _, rfl, [], rfl, World.ownsRow_nil _ _ _ _, by simp, hl⟩
                  case round =>
                    rename World => wr
                    obtain ⟨k, hpk, hkq, rfl, m, hm, ho, hml, hb⟩ := hrel
                    have HM := Lib.hid hm
                    have HO := Lib.hid ho
                    clear hm ho
                    by_cases hlt : p < k
                    · obtain ⟨j, rfl⟩ : ∃ j, k = j + 1 := ⟨k - 1, by omega⟩
                      have hki : (p : Int) < ((j + 1 : Nat) : Int) := by omega
                      have hwk : IntKind.i64.wrap (((j + 1 : Nat) : Int) - 1) = (j : Int) := by rw [IntKind.wrap_i64]; omega
                      have hwj : IntKind.i64.wrap (j : Int) = (j : Int) := by rw [IntKind.wrap_i64]; omega
                      have hwj1 : IntKind.i64.wrap ((j : Int) + 1 - 1) = (j : Int) := by rw [IntKind.wrap_i64]; omega
                      have hj8 : (j : Int) < 8 := by omega
                      have hj0 : ¬ (j : Int) < 0 := by omega
                      have HK := Lib.hid (fun W => (show Calls Try.prog 37 #[.int .u64 base, .int .i64 ((j : Int) + 1)] W fun e w' => e = .returned (.int .u64 (kA base (j + 1))) ∧ W = w' from kt_any hbse (i := j + 1) (by omega) W))
                      have HPt := Lib.hid (fun W => (show Calls Try.prog 38 #[.int .u64 base, .int .i64 ((j : Int) + 1)] W fun e w' => e = .returned (.int .u64 (pA base (j + 1))) ∧ W = w' from pt_any hbse (i := j + 1) (by omega) W))
                      have HST := Lib.hid (show upN base n p (j + 1 - p) = [(pA base (j + 1), n.ptr j), (kA base (j + 1), n.key j)] ++ upN base n p (j - p) by rw [show j + 1 - p = (j - p) + 1 by omega, upN, show p + (j - p) = j by omega] <;> rfl)
                      have hN := fun W' (hb : Below Wa.heap.size Wa W') => And.intro (ndAt_key (HRR.out W' hb) (i := j) (by omega)) (ndAt_ptr (HRR.out W' hb) (i := j) (by omega))
                      obtain ⟨y, hy⟩ : ∃ y, y = n.key j := ⟨_, rfl⟩
                      obtain ⟨z, hz⟩ : ∃ z, z = n.ptr j := ⟨_, rfl⟩
                      rw [← hy, ← hz] at HST hN
                      have STAY := Lib.hid (fun W' (hb : Below Wa.heap.size Wa W') => And.intro (hN W' hb).1 (And.intro (hN W' hb).2 hb))
                      clear hy hz hN
                      go_wp2_with fail
                      refine wp_region_held_drew (S := fun W' => W'.cell? ⟨w.heap.size, 5 + j, none⟩ = some (.int .u64 y) ∧ W'.cell? ⟨w.heap.size, 13 + j, none⟩ = some (.int .u64 z) ∧ Below Wa.heap.size Wa W') (by kernel_rfl) (STAY.out _ (low_and hb (drew_low9 _))) (fun hHeld => ?_)
                      refine wpAnyH_take (i := 0) (oi := ⟨some 73, _, _, _, _, _⟩) (v := u12) rfl (by kernel_rfl) (by kernel_rfl) (by kernel_rfl) (fun _ _ _ h => h) (Or.inl ⟨by rfl, by intro WW hSw; (try dsimp only at hSw); go_simp⟩) (by assumption) ?_
                      (try simp only [Act.put, List.setIfInBounds_toArray, List.set_cons_zero, List.set_cons_succ])
                      refine wpAnyH_take (i := 1) (oi := ⟨some 74, _, _, _, _, _⟩) (v := .int .u64 base) rfl (by kernel_rfl) (by kernel_rfl) (by kernel_rfl) (fun _ _ _ h => h) (Or.inl ⟨by rfl, by intro WW hSw; (try dsimp only at hSw); go_simp⟩) (by assumption) ?_
                      (try simp only [Act.put, List.setIfInBounds_toArray, List.set_cons_zero, List.set_cons_succ])
                      refine wpAnyH_take (i := 2) (oi := ⟨some 75, _, _, _, _, _⟩) (v := .int .i64 ((j : Int) + 1)) rfl (by kernel_rfl) (by kernel_rfl) (by kernel_rfl) (fun _ _ _ h => h) (Or.inl ⟨by rfl, by intro WW hSw; (try dsimp only at hSw); go_simp⟩) (by assumption) ?_
                      (try simp only [Act.put, List.setIfInBounds_toArray, List.set_cons_zero, List.set_cons_succ])
                      refine wpAnyH_take (i := 4) (oi := ⟨some 77, _, _, _, _, _⟩) (v := .int .i64 ((j : Int) + 1)) rfl (by kernel_rfl) (by kernel_rfl) (by kernel_rfl) (fun _ _ _ h => h) (Or.inl ⟨by rfl, by intro WW hSw; (try dsimp only at hSw); go_simp⟩) (by assumption) ?_
                      (try simp only [Act.put, List.setIfInBounds_toArray, List.set_cons_zero, List.set_cons_succ])
                      refine wpAnyH_take (i := 5) (oi := ⟨some 78, _, _, _, _, _⟩) (v := .int .i64 (j : Int)) rfl (by kernel_rfl) (by kernel_rfl) (by kernel_rfl) (fun _ _ _ h => h) (Or.inl ⟨by rfl, by intro WW hSw; (try dsimp only at hSw); go_simp⟩) (by assumption) ?_
                      (try simp only [Act.put, List.setIfInBounds_toArray, List.set_cons_zero, List.set_cons_succ])
                      refine wpAnyH_take (i := 6) (oi := ⟨some 79, _, _, _, _, _⟩) (v := .pointer (some ⟨w.heap.size, 13, none⟩)) rfl (by kernel_rfl) (by kernel_rfl) (by kernel_rfl) (fun _ _ _ h => h) (Or.inl ⟨by rfl, by intro WW hSw; (try dsimp only at hSw); go_simp⟩) (by assumption) ?_
                      (try simp only [Act.put, List.setIfInBounds_toArray, List.set_cons_zero, List.set_cons_succ])
                      refine wpAnyH_take (i := 7) (oi := ⟨some 80, _, _, _, _, _⟩) (v := .pointer (some ⟨w.heap.size, 13 + j, none⟩)) rfl (by kernel_rfl) (by kernel_rfl) (by kernel_rfl) (fun _ _ _ h => h) (Or.inl ⟨by rfl, by intro WW hSw; (try dsimp only at hSw); go_simp⟩) (by assumption) ?_
                      (try simp only [Act.put, List.setIfInBounds_toArray, List.set_cons_zero, List.set_cons_succ])
                      refine wpAnyH_take (i := 8) (oi := ⟨some 81, _, _, _, _, _⟩) (v := .int .u64 z) rfl (by kernel_rfl) (by kernel_rfl) (by kernel_rfl) (fun _ _ _ h => h) (Or.inl ⟨by rfl, by intro WW hSw; (try dsimp only at hSw); go_simp⟩) (by assumption) ?_
                      (try simp only [Act.put, List.setIfInBounds_toArray, List.set_cons_zero, List.set_cons_succ])
                      refine wpAnyH_take (i := 10) (oi := ⟨some 83, _, _, _, _, _⟩) (v := .int .u64 base) rfl (by kernel_rfl) (by kernel_rfl) (by kernel_rfl) (fun _ _ _ h => h) (Or.inl ⟨by rfl, by intro WW hSw; (try dsimp only at hSw); go_simp⟩) (by assumption) ?_
                      (try simp only [Act.put, List.setIfInBounds_toArray, List.set_cons_zero, List.set_cons_succ])
                      refine wpAnyH_take (i := 11) (oi := ⟨some 84, _, _, _, _, _⟩) (v := .int .i64 ((j : Int) + 1)) rfl (by kernel_rfl) (by kernel_rfl) (by kernel_rfl) (fun _ _ _ h => h) (Or.inl ⟨by rfl, by intro WW hSw; (try dsimp only at hSw); go_simp⟩) (by assumption) ?_
                      (try simp only [Act.put, List.setIfInBounds_toArray, List.set_cons_zero, List.set_cons_succ])
                      refine wpAnyH_take (i := 13) (oi := ⟨some 86, _, _, _, _, _⟩) (v := .int .i64 ((j : Int) + 1)) rfl (by kernel_rfl) (by kernel_rfl) (by kernel_rfl) (fun _ _ _ h => h) (Or.inl ⟨by rfl, by intro WW hSw; (try dsimp only at hSw); go_simp⟩) (by assumption) ?_
                      (try simp only [Act.put, List.setIfInBounds_toArray, List.set_cons_zero, List.set_cons_succ])
                      refine wpAnyH_take (i := 14) (oi := ⟨some 87, _, _, _, _, _⟩) (v := .int .i64 (j : Int)) rfl (by kernel_rfl) (by kernel_rfl) (by kernel_rfl) (fun _ _ _ h => h) (Or.inl ⟨by rfl, by intro WW hSw; (try dsimp only at hSw); go_simp⟩) (by assumption) ?_
                      (try simp only [Act.put, List.setIfInBounds_toArray, List.set_cons_zero, List.set_cons_succ])
                      refine wpAnyH_take (i := 15) (oi := ⟨some 88, _, _, _, _, _⟩) (v := .pointer (some ⟨w.heap.size, 5, none⟩)) rfl (by kernel_rfl) (by kernel_rfl) (by kernel_rfl) (fun _ _ _ h => h) (Or.inl ⟨by rfl, by intro WW hSw; (try dsimp only at hSw); go_simp⟩) (by assumption) ?_
                      (try simp only [Act.put, List.setIfInBounds_toArray, List.set_cons_zero, List.set_cons_succ])
                      refine wpAnyH_take (i := 16) (oi := ⟨some 89, _, _, _, _, _⟩) (v := .pointer (some ⟨w.heap.size, 5 + j, none⟩)) rfl (by kernel_rfl) (by kernel_rfl) (by kernel_rfl) (fun _ _ _ h => h) (Or.inl ⟨by rfl, by intro WW hSw; (try dsimp only at hSw); go_simp⟩) (by assumption) ?_
                      (try simp only [Act.put, List.setIfInBounds_toArray, List.set_cons_zero, List.set_cons_succ])
                      refine wpAnyH_take (i := 17) (oi := ⟨some 90, _, _, _, _, _⟩) (v := .int .u64 y) rfl (by kernel_rfl) (by kernel_rfl) (by kernel_rfl) (fun _ _ _ h => h) (Or.inl ⟨by rfl, by intro WW hSw; (try dsimp only at hSw); go_simp⟩) (by assumption) ?_
                      (try simp only [Act.put, List.setIfInBounds_toArray, List.set_cons_zero, List.set_cons_succ])
                      refine wpAnyH_one (i := 3) (oi := ⟨some 76, _, _, _, _, _⟩) rfl (by kernel_rfl) (fun K hK => ?_)
                      refine step_calls (by rfl) 38 EGp.out [.tmp 74, .tmp 75] _ rfl [.int .u64 base, .int .i64 ((j : Int) + 1)] rfl (HPt.out _) ?_
                      rintro e w5 ⟨rfl, rfl⟩
                      refine ⟨_, rfl, hK _ _ (hHeld) (fun hSn => ?_)⟩
                      clear hK K
                      (try simp only [Act.put, List.setIfInBounds_toArray, List.set_cons_zero, List.set_cons_succ])
                      refine wpAnyH_take (i := 9) (oi := ⟨some 82, _, _, _, _, _⟩) (v := .agg #[.int .u64 (pA base (j + 1)), .int .u64 z]) rfl (by kernel_rfl) (by kernel_rfl) (by kernel_rfl) (fun _ _ _ h => h) (Or.inl ⟨by rfl, by intro WW hSw; (try dsimp only at hSw); go_simp⟩) (by assumption) ?_
                      (try simp only [Act.put, List.setIfInBounds_toArray, List.set_cons_zero, List.set_cons_succ])
                      refine wpAnyH_one (i := 12) (oi := ⟨some 85, _, _, _, _, _⟩) rfl (by kernel_rfl) (fun K hK => ?_)
                      refine step_calls (by rfl) 37 EGk.out [.tmp 83, .tmp 84] _ rfl [.int .u64 base, .int .i64 ((j : Int) + 1)] rfl (HK.out _) ?_
                      rintro e w6 ⟨rfl, rfl⟩
                      refine ⟨_, rfl, hK _ _ (hHeld) (fun hSn => ?_)⟩
                      clear hK K
                      (try simp only [Act.put, List.setIfInBounds_toArray, List.set_cons_zero, List.set_cons_succ])
                      refine wpAnyH_take (i := 18) (oi := ⟨some 91, _, _, _, _, _⟩) (v := .agg #[.int .u64 (kA base (j + 1)), .int .u64 y]) rfl (by kernel_rfl) (by kernel_rfl) (by kernel_rfl) (fun _ _ _ h => h) (Or.inl ⟨by rfl, by intro WW hSw; (try dsimp only at hSw); go_simp⟩) (by assumption) ?_
                      (try simp only [Act.put, List.setIfInBounds_toArray, List.set_cons_zero, List.set_cons_succ])
                      refine wpAnyH_one (i := 19) (oi := ⟨some 92, _, _, _, _, _⟩) rfl (by kernel_rfl) (fun K hK => ?_)
                      rw [if_pos (by rfl)]
                      unfold Oper.wp
                      go_simp
                      refine hK _ _ (STAY.out _ (low_and hb (low_and (alloc_low _ _) (drew_low9 _)))) (fun hSn => ?_)
                      clear hK K
                      (try simp only [Act.put, List.setIfInBounds_toArray, List.set_cons_zero, List.set_cons_succ])
                      refine wpAnyH_one (i := 20) (oi := ⟨some 93, _, _, _, _, _⟩) rfl (by kernel_rfl) (fun K hK => ?_)
                      refine step_append_lies _ (by rfl) (.tmp 73) (.tmp 92) _ (by rfl) Wa.heap.size 45 i0 (.agg #[.int .u64 0, .int .u64 0]) 2 16 rfl hi hz0 hz1 hz2 rfl (by decide) _ _ _ (by rfl) (ownS_low HO.out (low_and (alloc_low _ _) (drew_low9 _))) ⟨wr.heap.size, 0, none⟩ 2 2 [.int .u64 (pA base (j + 1)), .int .u64 z, .int .u64 (kA base (j + 1)), .int .u64 y] (by rfl) (by rfl) (World.news_of_block (cs := #[.int .u64 (pA base (j + 1)), .int .u64 z, .int .u64 (kA base (j + 1)), .int .u64 y]) (t := 45) (fr := (0, 0)) (heap_alloc_new9 _ _)) (by intro u hu; simp at hu; rcases hu with rfl | rfl | rfl | rfl <;> rfl) (by decide) (by unfold maxLen; omega) (by omega) (by simp; have := hb.size; omega) (wr.heap.size + 1) (by simp) ?_
                      intro g4 cap4 w4 hown hgrow hsm hlt4
                      have HO4 := Lib.hid hown
                      have HB4 := Lib.hid (show Below Wa.heap.size Wa w4 from (low_and hb (low_and (alloc_low _ _) (drew_low9 _))).grown hgrow (by have := hb.size; simp; omega) (fun j hj => (ownS_from HO.out j hj).1))
                      clear hown hgrow hsm hlt4
                      refine hK _ _ (STAY.out _ HB4.out) (fun hSn => ?_)
                      clear hK K
                      (try simp only [Act.put, List.setIfInBounds_toArray, List.set_cons_zero, List.set_cons_succ])
                      refine wpAnyH_take (i := 21) (oi := ⟨some 12, _, _, _, _, _⟩) (v := .slice (some ⟨g4, 0, none⟩) (m.length + 2) cap4) rfl (by kernel_rfl) (by kernel_rfl) (by kernel_rfl) (fun _ _ _ h => h) (Or.inl ⟨by rfl, by intro WW hSw; (try dsimp only at hSw); go_simp⟩) (by assumption) ?_
                      (try simp only [Act.put, List.setIfInBounds_toArray, List.set_cons_zero, List.set_cons_succ])
                      refine wpAnyH_done (by kernel_rfl) ?_ _
                      go_wp2
                      refine ⟨⟨j, by omega, by omega, by go_num, m ++ [(pA base (j + 1), z), (kA base (j + 1), y)], by rw [← HM.out, HST.out, List.append_assoc], ?_, by rw [List.length_append]; simp; omega, HB4.out⟩, by simp [intOf]⟩
                      rw [flatE_two, List.length_append]
                      exact HO4.out

                    · obtain rfl : k = p := by omega
                      have hki : ¬ (k : Int) < (k : Int) := by omega
                      have HK := Lib.hid (fun W => kt_any hbse (i := k) (by omega) W)
                      have HPt := Lib.hid (fun W => pt_any hbse (i := k) (by omega) W)
                      have HAh := Lib.hid (fun W' => r9ahead_any n (p := k) (by omega) W')
                      have HE := Lib.hid (show m = ([] : List (Int × Int)) ++ upN base n k (q - k) by rw [← HM.out, Nat.sub_self]; simp [upN])
                      generalize n.ahd k = ah at HAh HR
                      go_wp2_with fail
                      refine wp_region_held_drew (S := fun W' => Below Wa.heap.size Wa W') (by kernel_rfl) (low_and hb (drew_low9 _)) (fun hHeld => ?_)
                      refine wpAnyH_take (i := 0) (oi := ⟨some 94, _, _, _, _, _⟩) (v := u12) rfl (by kernel_rfl) (by kernel_rfl) (by kernel_rfl) (fun _ _ _ h => h) (Or.inl ⟨by rfl, by intro WW hSw; (try dsimp only at hSw); go_simp⟩) (by assumption) ?_
                      (try simp only [Act.put, List.setIfInBounds_toArray, List.set_cons_zero, List.set_cons_succ])
                      refine wpAnyH_take (i := 1) (oi := ⟨some 95, _, _, _, _, _⟩) (v := .int .u64 base) rfl (by kernel_rfl) (by kernel_rfl) (by kernel_rfl) (fun _ _ _ h => h) (Or.inl ⟨by rfl, by intro WW hSw; (try dsimp only at hSw); go_simp⟩) (by assumption) ?_
                      (try simp only [Act.put, List.setIfInBounds_toArray, List.set_cons_zero, List.set_cons_succ])
                      refine wpAnyH_take (i := 2) (oi := ⟨some 96, _, _, _, _, _⟩) (v := .int .i64 (k : Int)) rfl (by kernel_rfl) (by kernel_rfl) (by kernel_rfl) (fun _ _ _ h => h) (Or.inl ⟨by rfl, by intro WW hSw; (try dsimp only at hSw); go_simp⟩) (by assumption) ?_
                      (try simp only [Act.put, List.setIfInBounds_toArray, List.set_cons_zero, List.set_cons_succ])
                      refine wpAnyH_take (i := 4) (oi := ⟨some 98, _, _, _, _, _⟩) (v := .agg n.cl.toArray) rfl (by kernel_rfl) (by kernel_rfl) (by kernel_rfl) (fun _ _ _ h => h) (yieldsIf_load_mid (by rfl) _ _ rfl w.heap.size 0 rfl n.cl _ (fun w' hw' => ndR (HRR.out _ hw')) Try.underlying27 rfl ndI) (by assumption) ?_
                      (try simp only [Act.put, List.setIfInBounds_toArray, List.set_cons_zero, List.set_cons_succ])
                      refine wpAnyH_take (i := 5) (oi := ⟨some 99, _, _, _, _, _⟩) (v := .int .i64 (k : Int)) rfl (by kernel_rfl) (by kernel_rfl) (by kernel_rfl) (fun _ _ _ h => h) (Or.inl ⟨by rfl, by intro WW hSw; (try dsimp only at hSw); go_simp⟩) (by assumption) ?_
                      (try simp only [Act.put, List.setIfInBounds_toArray, List.set_cons_zero, List.set_cons_succ])
                      refine wpAnyH_take (i := 8) (oi := ⟨some 102, _, _, _, _, _⟩) (v := .int .u64 base) rfl (by kernel_rfl) (by kernel_rfl) (by kernel_rfl) (fun _ _ _ h => h) (Or.inl ⟨by rfl, by intro WW hSw; (try dsimp only at hSw); go_simp⟩) (by assumption) ?_
                      (try simp only [Act.put, List.setIfInBounds_toArray, List.set_cons_zero, List.set_cons_succ])
                      refine wpAnyH_take (i := 9) (oi := ⟨some 103, _, _, _, _, _⟩) (v := .int .i64 (k : Int)) rfl (by kernel_rfl) (by kernel_rfl) (by kernel_rfl) (fun _ _ _ h => h) (Or.inl ⟨by rfl, by intro WW hSw; (try dsimp only at hSw); go_simp⟩) (by assumption) ?_
                      (try simp only [Act.put, List.setIfInBounds_toArray, List.set_cons_zero, List.set_cons_succ])
                      refine wpAnyH_take (i := 11) (oi := ⟨some 105, _, _, _, _, _⟩) (v := .int .u64 key) rfl (by kernel_rfl) (by kernel_rfl) (by kernel_rfl) (fun _ _ _ h => h) (Or.inl ⟨by rfl, by intro WW hSw; (try dsimp only at hSw); go_simp⟩) (by assumption) ?_
                      (try simp only [Act.put, List.setIfInBounds_toArray, List.set_cons_zero, List.set_cons_succ])
                      refine wpAnyH_take (i := 13) (oi := ⟨some 107, _, _, _, _, _⟩) (v := .int .u64 base) rfl (by kernel_rfl) (by kernel_rfl) (by kernel_rfl) (fun _ _ _ h => h) (Or.inl ⟨by rfl, by intro WW hSw; (try dsimp only at hSw); go_simp⟩) (by assumption) ?_
                      (try simp only [Act.put, List.setIfInBounds_toArray, List.set_cons_zero, List.set_cons_succ])
                      refine wpAnyH_take (i := 14) (oi := ⟨some 108, _, _, _, _, _⟩) (v := .int .i64 (k : Int)) rfl (by kernel_rfl) (by kernel_rfl) (by kernel_rfl) (fun _ _ _ h => h) (Or.inl ⟨by rfl, by intro WW hSw; (try dsimp only at hSw); go_simp⟩) (by assumption) ?_
                      (try simp only [Act.put, List.setIfInBounds_toArray, List.set_cons_zero, List.set_cons_succ])
                      refine wpAnyH_take (i := 16) (oi := ⟨some 110, _, _, _, _, _⟩) (v := .int .u64 ptr) rfl (by kernel_rfl) (by kernel_rfl) (by kernel_rfl) (fun _ _ _ h => h) (Or.inl ⟨by rfl, by intro WW hSw; (try dsimp only at hSw); go_simp⟩) (by assumption) ?_
                      (try simp only [Act.put, List.setIfInBounds_toArray, List.set_cons_zero, List.set_cons_succ])
                      refine wpAnyH_one (i := 3) (oi := ⟨some 97, _, _, _, _, _⟩) rfl (by kernel_rfl) (fun K hK => ?_)
                      refine step_calls (by rfl) 38 EGp.out [.tmp 95, .tmp 96] _ rfl [.int .u64 base, .int .i64 (k : Int)] rfl (HPt.out _) ?_
                      rintro e w5 ⟨rfl, rfl⟩
                      refine ⟨_, rfl, hK _ _ (hHeld) (fun hSn => ?_)⟩
                      clear hK K
                      (try simp only [Act.put, List.setIfInBounds_toArray, List.set_cons_zero, List.set_cons_succ])
                      refine wpAnyH_one (i := 6) (oi := ⟨some 100, _, _, _, _, _⟩) rfl (by kernel_rfl) (fun K hK => ?_)
                      refine step_calls (by rfl) 64 EGa.out [.tmp 98, .tmp 99] _ rfl [n.V, .int .i64 (k : Int)] rfl (HAh.out _) ?_
                      rintro e w5 ⟨rfl, h5⟩
                      have g5 := low_and hHeld h5
                      have HO5 := Lib.hid (ownS_low HO.out (low_and (drew_low9 _) h5))
                      refine ⟨_, rfl, hK _ _ (g5) (fun hSn => ?_)⟩
                      clear hK K
                      (try simp only [Act.put, List.setIfInBounds_toArray, List.set_cons_zero, List.set_cons_succ])
                      refine wpAnyH_take (i := 7) (oi := ⟨some 101, _, _, _, _, _⟩) (v := .agg #[.int .u64 (pA base k), .int .u64 ah]) rfl (by kernel_rfl) (by kernel_rfl) (by kernel_rfl) (fun _ _ _ h => h) (Or.inl ⟨by rfl, by intro WW hSw; (try dsimp only at hSw); go_simp⟩) (by assumption) ?_
                      (try simp only [Act.put, List.setIfInBounds_toArray, List.set_cons_zero, List.set_cons_succ])
                      refine wpAnyH_one (i := 10) (oi := ⟨some 104, _, _, _, _, _⟩) rfl (by kernel_rfl) (fun K hK => ?_)
                      refine step_calls (by rfl) 37 EGk.out [.tmp 102, .tmp 103] _ rfl [.int .u64 base, .int .i64 (k : Int)] rfl (HK.out _) ?_
                      rintro e w6 ⟨rfl, rfl⟩
                      refine ⟨_, rfl, hK _ _ (g5) (fun hSn => ?_)⟩
                      clear hK K
                      (try simp only [Act.put, List.setIfInBounds_toArray, List.set_cons_zero, List.set_cons_succ])
                      refine wpAnyH_take (i := 12) (oi := ⟨some 106, _, _, _, _, _⟩) (v := .agg #[.int .u64 (kA base k), .int .u64 key]) rfl (by kernel_rfl) (by kernel_rfl) (by kernel_rfl) (fun _ _ _ h => h) (Or.inl ⟨by rfl, by intro WW hSw; (try dsimp only at hSw); go_simp⟩) (by assumption) ?_
                      (try simp only [Act.put, List.setIfInBounds_toArray, List.set_cons_zero, List.set_cons_succ])
                      refine wpAnyH_one (i := 15) (oi := ⟨some 109, _, _, _, _, _⟩) rfl (by kernel_rfl) (fun K hK => ?_)
                      refine step_calls (by rfl) 38 EGp.out [.tmp 107, .tmp 108] _ rfl [.int .u64 base, .int .i64 (k : Int)] rfl (HPt.out _) ?_
                      rintro e w6 ⟨rfl, rfl⟩
                      refine ⟨_, rfl, hK _ _ (g5) (fun hSn => ?_)⟩
                      clear hK K
                      (try simp only [Act.put, List.setIfInBounds_toArray, List.set_cons_zero, List.set_cons_succ])
                      refine wpAnyH_take (i := 17) (oi := ⟨some 111, _, _, _, _, _⟩) (v := .agg #[.int .u64 (pA base k), .int .u64 ptr]) rfl (by kernel_rfl) (by kernel_rfl) (by kernel_rfl) (fun _ _ _ h => h) (Or.inl ⟨by rfl, by intro WW hSw; (try dsimp only at hSw); go_simp⟩) (by assumption) ?_
                      (try simp only [Act.put, List.setIfInBounds_toArray, List.set_cons_zero, List.set_cons_succ])
                      refine wpAnyH_one (i := 18) (oi := ⟨some 112, _, _, _, _, _⟩) rfl (by kernel_rfl) (fun K hK => ?_)
                      rw [if_pos (by rfl)]
                      unfold Oper.wp
                      go_simp
                      refine hK _ _ (low_and g5 (alloc_low _ _)) (fun hSn => ?_)
                      clear hK K
                      (try simp only [Act.put, List.setIfInBounds_toArray, List.set_cons_zero, List.set_cons_succ])
                      refine wpAnyH_one (i := 19) (oi := ⟨some 113, _, _, _, _, _⟩) rfl (by kernel_rfl) (fun K hK => ?_)
                      refine step_append_lies _ (by rfl) (.tmp 94) (.tmp 112) _ (by rfl) Wa.heap.size 45 i0 (.agg #[.int .u64 0, .int .u64 0]) 2 16 rfl hi hz0 hz1 hz2 rfl (by decide) _ _ _ (by rfl) (ownS_low HO5.out (alloc_low _ _)) ⟨w5.heap.size, 0, none⟩ 3 3 [.int .u64 (pA base k), .int .u64 ah, .int .u64 (kA base k), .int .u64 key, .int .u64 (pA base k), .int .u64 ptr] (by rfl) (by rfl) (World.news_of_block (cs := #[.int .u64 (pA base k), .int .u64 ah, .int .u64 (kA base k), .int .u64 key, .int .u64 (pA base k), .int .u64 ptr]) (t := 45) (fr := (0, 0)) (heap_alloc_new9 _ _)) (by intro u hu; simp at hu; rcases hu with rfl | rfl | rfl | rfl | rfl | rfl <;> rfl) (by decide) (by unfold maxLen; omega) (by omega) (by simp; have := g5.size; omega) (w5.heap.size + 1) (by simp) ?_
                      intro g4 cap4 w4 hown hgrow hsm hlt4
                      have HB4 := Lib.hid (show Below Wa.heap.size Wa w4 from (low_and g5 (alloc_low _ _)).grown hgrow (by have := g5.size; simp; omega) (fun j hj => (ownS_from HO5.out j hj).1))
                      have h6 : w4.ownsRow Wa.heap.size 45 2 (.slice (some ⟨g4, 0, none⟩) (m.length + 3) cap4) (m ++ [(pA base k, ah), (kA base k, key), (pA base k, ptr)]).length (flatE (m ++ [(pA base k, ah), (kA base k, key), (pA base k, ptr)])) := by
                        rw [List.length_append, flatE_app]
                        exact hown
                      have HE6 := Lib.hid (ent_ownG h6)
                      clear hown hgrow hsm hlt4 h6
                      refine hK _ _ (HB4.out) (fun hSn => ?_)
                      clear hK K
                      (try simp only [Act.put, List.setIfInBounds_toArray, List.set_cons_zero, List.set_cons_succ])
                      refine wpAnyH_take (i := 20) (oi := ⟨some 12, _, _, _, _, _⟩) (v := .slice (some ⟨g4, 0, none⟩) (m.length + 3) cap4) rfl (by kernel_rfl) (by kernel_rfl) (by kernel_rfl) (fun _ _ _ h => h) (Or.inl ⟨by rfl, by intro WW hSw; (try dsimp only at hSw); go_simp⟩) (by assumption) ?_
                      (try simp only [Act.put, List.setIfInBounds_toArray, List.set_cons_zero, List.set_cons_succ])
                      refine wpAnyH_done (by kernel_rfl) ?_ _
                      have hb4 := HB4.out
                      have HWh := Lib.hid (whole_any hbse n HE6.out (by simp) (by simp; omega))
                      go_wp2_with ((with_reducible refine show_load ?_); refine wpList_load_mid rfl 27 _ rfl w.heap.size 0 rfl n.cl _ (ndR (HRR.out _ (by assumption))) Try.underlying27 rfl ndI ?_)
                      go_at_call 65
                      refine HWh.out.mono ?_
                      rintro e w7 ⟨⟨v7, rfl, ho7⟩, h7⟩
                      have g7 := low_and hb4 h7
                      have HO7 := Lib.hid (ownS_mono ho7 (show w.heap.size ≤ w4.heap.size from Nat.le_trans HWs.out hb4.size))
                      clear ho7
                      go_wp2
                      go_ret2
                      rw [HR.out, show (([] : List (Int × Int)) ++ (upN base n k (q - k) ++ [(pA base k, ah)]) ++ [(kA base k, key), (pA base k, ptr)]) = m ++ [(pA base k, ah), (kA base k, key), (pA base k, ptr)] by rw [HE.out]; simp]
                      exact ⟨⟨_, rfl, HO7.out⟩, low_and HB0.out g7⟩
  · have HR := Lib.hid (show R = ([], 2) by rw [hP]; simp)
    clear hP hbb hzz
    go_enter Try.func29, Try.ntmps29
    go_wp2_with (first
      | (rw [← HWa.out]; (refine wpList_load_mid rfl 27 _ rfl w.heap.size 0 rfl n.cl _ (ndR (HRR.out _ (by assumption))) Try.underlying27 rfl ndI ?_))
      | (refine wpList_load_mid rfl 27 _ rfl w.heap.size 0 rfl n.cl _ (ndR (HRR.out _ (by assumption))) Try.underlying27 rfl ndI ?_)
      | (go_at_call 60; refine (HMy.out _).mono ?_; rintro e w1 ⟨rfl, h1⟩; have h1 := low_and hr0 h1))
    go_ret2
    rw [HR.out]
    exact ⟨⟨_, rfl, World.ownsRow_nil _ _ _ _⟩, low_and HB0.out h1⟩
  · cases hd with
    | true =>
      have HR := Lib.hid (show R = ([], 2) by rw [hP]; simp)
      clear hP hbb hzz
      go_enter Try.func29, Try.ntmps29
      go_wp2_with (first
            | (rw [← HWa.out]; (refine wpList_load_mid rfl 27 _ rfl w.heap.size 0 rfl n.cl _ (ndR (HRR.out _ (by assumption))) Try.underlying27 rfl ndI ?_))
            | (refine wpList_load_mid rfl 27 _ rfl w.heap.size 0 rfl n.cl _ (ndR (HRR.out _ (by assumption))) Try.underlying27 rfl ndI ?_)
            | (go_at_call 60; refine (HMy.out _).mono ?_; rintro e w1 ⟨rfl, h1⟩; have h1 := low_and hr0 h1)
            | (refine wpList_load_midg (by rfl) 27 _ rfl w.heap.size 0 rfl n.cl _ (ndR (HRR.out _ (by assumption))) Try.underlying27 rfl ndI ?_)
            | (go_at_call 61; refine (HHd.out _).mono ?_; rintro e wh ⟨rfl, hh⟩; have h1 := low_and h1 hh))
      go_ret2
      rw [HR.out]
      exact ⟨⟨_, rfl, World.ownsRow_nil _ _ _ _⟩, low_and HB0.out h1⟩
    | false =>
      have HR := Lib.hid (show R = ([], 7) by rw [hP]; simp)
      clear hP hbb hzz
      go_enter Try.func29, Try.ntmps29
      go_wp2_with (first
            | (rw [← HWa.out]; (refine wpList_load_mid rfl 27 _ rfl w.heap.size 0 rfl n.cl _ (ndR (HRR.out _ (by assumption))) Try.underlying27 rfl ndI ?_))
            | (refine wpList_load_mid rfl 27 _ rfl w.heap.size 0 rfl n.cl _ (ndR (HRR.out _ (by assumption))) Try.underlying27 rfl ndI ?_)
            | (go_at_call 60; refine (HMy.out _).mono ?_; rintro e w1 ⟨rfl, h1⟩; have h1 := low_and hr0 h1)
            | (refine wpList_load_midg (by rfl) 27 _ rfl w.heap.size 0 rfl n.cl _ (ndR (HRR.out _ (by assumption))) Try.underlying27 rfl ndI ?_)
            | (go_at_call 61; refine (HHd.out _).mono ?_; rintro e wh ⟨rfl, hh⟩; have h1 := low_and h1 hh))
      go_ret2
      rw [HR.out]
      exact ⟨⟨_, rfl, World.ownsRow_nil _ _ _ _⟩, low_and HB0.out h1⟩
end Go.Proofs.Ytbadlmicbbjkaaa
