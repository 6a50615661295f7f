/- Texts of this claim, packed: R2Crs, R2Sam, R2Gam. -/
import Derived.Test.YtkeajfedlhgejaaPc26
import Derived.Test.YtkeajfedlhgejaaPc23
import Derived.Test.YtkeajfedlhgejaaPc15
/- Crash of the document's memory: some fronts last, what was pending is lost; for at most a thousand that are kept. -/
namespace Go.Proofs.Ytkeajfedlhgejaa
open Go Go.RowKit
set_option linter.unusedVariables false
theorem crashTo_nil (r : Rf) (xs : List (Nat × Nat)) : r.crashTo [] xs = r := by
  induction xs generalizing r with
  | nil => rfl
  | cons x t ih =>
    show (r.crash1 [] x).crashTo [] t = r
    have e : r.crash1 [] x = r := by simp [Rf.crash1, keptN, Rf.evict, ev_zero]
    rw [e, ih]
theorem crashTo_keep (r : Rf) (keep : List Int) (xs : List (Nat × Nat)) : (r.crashTo keep xs).nl = r.nl ∧ (r.crashTo keep xs).F = r.F ∧ (∀ x ∈ (r.crashTo keep xs).L, ∃ y ∈ r.L, x.a = y.a ∧ x.w = y.w) ∧ (r.crashTo keep xs).L.length = r.L.length := by
  induction xs generalizing r with
  | nil => exact ⟨rfl, rfl, fun x hx => ⟨x, hx, rfl, rfl⟩, rfl⟩
  | cons x t ih =>
    obtain ⟨h1, h2, h3, h4⟩ := ih (r.crash1 keep x)
    refine ⟨h1, h2, ?_, ?_⟩
    · intro z hz
      obtain ⟨y, hy, e1, e2⟩ := h3 z hz
      obtain ⟨u, hu, e3, e4⟩ := ev_mem (show y ∈ ev x.2 _ r.L from hy)
      exact ⟨u, hu, e1.trans e3, e2.trans e4⟩
    · show ((r.crash1 keep x).crashTo keep t).L.length = _
      rw [h4]
      exact ev_length _ _ _
/-- A new First, no stores: what is left behind a crash. -/
theorem R2At.fin {w : World} {g : Nat} {r : Rf} {vF vL vN : Value} {ms : List Value} (h : R2At w g r vF vL ms) (B : Nat) (hN : w.ownsRow B 5 1 vN (64 * r.nl) ((bytesL (lastW r.F (prs (las r.L)))).map bv)) :
    R2At ((w.setCell ⟨g, 0, none⟩ vN).setCell ⟨g, 1, none⟩ (.slice none 0 0)) g r.fin vN (.slice none 0 0) [] := by
  have hr := (h.row.set 0 vN).set 1 (.slice none 0 0)
  refine ⟨hr, ?_, World.ownsRow_nil _ _ _ _, rfl, fun i v x hi _ => by simp at hi⟩
  refine own2_same (own_weak hN) fun k hk => ?_
  have hne : k ≠ g := by
    obtain ⟨cs, hc⟩ := own2_tg hN hk
    exact tag_ne hc h.row (by decide)
  rw [heap_setCell_other _ _ _ _ (by show k ≠ g; exact hne), heap_setCell_other _ _ _ _ (by show k ≠ g; exact hne)]
set_option maxRecDepth 100000 in
set_option maxHeartbeats 8000000 in
theorem r2Crash_any {w : World} {g : Nat} {r : Rf} {vF vL : Value} {ms : List Value} (h : R2At w g r vF vL ms) (hnl : 0 < r.nl ∧ r.nl ≤ 16384) (hF : r.F.length = 8 * r.nl) (had : ∀ x ∈ r.L, x.a % 8 = 0 ∧ x.a < 64 * r.nl ∧ x.w < 18446744073709551616) (hLn : r.L.length ≤ 1000000)
    (keep : List Int) (A : Option Addr) (cap : Nat) (hs : Sl w A (keep.map iv)) (hA : ∀ a, A = some a → keep ≠ [] → ¬ fp2 g vF vL ms a.block) (hl : keep.length ≤ 1000) (hw : ∀ z ∈ keep, (Lit.int .i64 z).wf = true)
    (xs : List (Nat × Nat)) (hx1 : linesU r r.nl = xs.map fun x => 64 * x.2) (hx2 : ∀ (i : Nat) (x : Nat × Nat), xs[i]? = some x → x.1 = i ∧ x.2 < r.nl) :
    Calls Try.prog 43 #[.pointer (some ⟨g, 0, none⟩), .slice A keep.length cap] w fun e w' => e = .returned (.tuple #[]) ∧ P2 w g vF vL ms (r.crash keep xs) w' := by
  have mixed : Try.prog.follows .mixedOrders = true := by kernel_rfl
  have EGP := Lib.hid (enters_of Try.func35 (by kernel_rfl) rfl)
  have EGE := Lib.hid (enters_of Try.func42 (by kernel_rfl) rfl)
  have HLN := Lib.hid (r2Lines_any h hnl.2 (fun x hx => by have := (had x hx).2.1; omega))
  obtain ⟨q, hq⟩ : ∃ q, q = xs.length := ⟨_, rfl⟩
  have hq2 : (linesU r r.nl).length = q := by rw [hx1, List.length_map, hq]
  have hqn : q ≤ r.nl := by rw [← hq2]; exact linesU_len _ _
  have HX1 := Lib.hid hx1
  have HX2 := Lib.hid hx2
  have HH := Lib.hid h
  have HAD := Lib.hid had
  have HF := Lib.hid hF
  have HS := Lib.hid hs
  have HA := Lib.hid hA
  have HW := Lib.hid hw
  have HQ := Lib.hid hq
  have HLL := Lib.hid hLn
  obtain ⟨m, hm⟩ : ∃ m, m = keep.length := ⟨_, rfl⟩
  have HM := Lib.hid hm
  rw [hq2] at HLN
  rw [← hm] at hl ⊢
  obtain ⟨n, hn⟩ : ∃ n, n = r.nl := ⟨_, rfl⟩
  have HN := Lib.hid hn
  rw [← hn] at hnl hqn
  have hgl := h.row.lt
  clear hx1 hx2 h had hF hs hA hw hq hLn hm hq2 hn
  go_enter Try.func43, Try.ntmps43
  go_wp2_with fail
  refine HLN.out.mono ?_
  rintro e W1 ⟨⟨v0, rfl, hown⟩, hb1⟩
  obtain ⟨Al, cl, rfl, _⟩ := own4_sl hown
  have HO := Lib.hid hown
  have HB := Lib.hid hb1
  have HR1 := Lib.hid (HH.out.below hb1)
  have hgl1 : g < W1.heap.size := Nat.lt_of_lt_of_le hgl hb1.size
  clear hown hb1 HLN
  go_wp2
  go_loopg [5] q (fun k v wr => ∃ i : Nat, v = .int .i64 (i : Int) ∧ i ≤ q ∧ q - i ≤ k ∧ ∃ vF' vL' ms', R2At wr g (r.crashTo keep (xs.take i)) vF' vL' ms' ∧ Tn2 W1 wr g vF vL ms vF' vL' ms')
  case atStart => exact ⟨0, rfl, by omega, by omega, vF, vL, ms, by rw [List.take_zero]; exact HR1.out, Tn2.refl _ _ _ _ _⟩
  case round =>
    obtain ⟨i, rfl, hiq, hk, vF', vL', ms', hr, ht⟩ := hrel
    rename World => wr
    have ck := crashTo_keep r keep (xs.take i)
    have had2 : ∀ x ∈ (r.crashTo keep (xs.take i)).L, x.a % 8 = 0 ∧ x.a < 64 * n ∧ x.w < 18446744073709551616 := fun x hx => by
      obtain ⟨y, hy, e1, e2⟩ := ck.2.2.1 x hx
      have := HAD.out y hy
      rw [e1, e2, HN.out]
      exact this
    have hnl2 : (r.crashTo keep (xs.take i)).nl = n := by rw [ck.1, HN.out]
    have hll2 : (r.crashTo keep (xs.take i)).L.length ≤ 1000000 := by rw [ck.2.2.2]; exact HLL.out
    have hf2 : (r.crashTo keep (xs.take i)).F.length = 8 * n := by rw [ck.2.1, HF.out, HN.out]
    have stop : (i = q ∨ keep = []) → r.crashTo keep (xs.take i) = r.crashTo keep xs := fun e => by
      rcases e with e | e
      · rw [e, HQ.out, List.take_length]
      · rw [e, crashTo_nil, crashTo_nil]
    by_cases hgo : i < q ∧ 0 < m
    · obtain ⟨hlt, hm0⟩ := hgo
      have hkn : keep ≠ [] := fun e => by have := HM.out; rw [e] at this; simp at this; omega
      obtain ⟨x, hx⟩ : ∃ x, xs[i]? = some x := ⟨_, List.getElem?_eq_getElem (by rw [← HQ.out]; exact hlt)⟩
      obtain ⟨hxi, hxn⟩ := HX2.out i x hx
      rw [← HN.out] at hxn
      have hxe := (List.getElem?_eq_some_iff.1 hx).2
      have hnext : r.crashTo keep (xs.take (i + 1)) = (r.crashTo keep (xs.take i)).crash1 keep x := by
        rw [List.take_succ_eq_append_getElem (by rw [← HQ.out]; exact hlt), rcrashTo_snoc, hxe]
      have hmm : i % m < keep.length := by rw [← HM.out]; exact Nat.mod_lt _ hm0
      obtain ⟨ad, rfl, hc⟩ := HS.out.at_ (i := i % m) (by simpa using hmm)
      rw [List.getElem_map] at hc
      obtain ⟨K, hK⟩ : ∃ K, K = keep[i % m] := ⟨_, rfl⟩
      have hwK := HW.out K (by rw [hK]; exact List.getElem_mem _)
      have hwk : -9223372036854775808 ≤ K ∧ K ≤ 9223372036854775807 := by
        simp only [Lit.wf, Bool.and_eq_true, decide_eq_true_eq] at hwK
        exact hwK
      rw [← hK] at hc
      have eK : ∀ t, keptN keep i t = (max 0 K).toNat % (t + 1) := fun t => by
        unfold keptN
        rw [if_neg hkn, ← HM.out, List.getD_eq_getElem?_getD, List.getElem?_eq_getElem hmm, Option.getD_some, ← hK]
      unfold iv at hc
      have hcW1 : W1.cell? (ad.add (i % m)) = some (.int .i64 K) := (HB.out.cell (p := ad.add (i % m)) (w.block_lt_of_cell? _ hc)).trans hc
      have hcr : wr.cell? (ad.add (i % m)) = some (.int .i64 K) := ht.but.cell hcW1 (by rw [add_block]; exact HA.out ad rfl hkn)
      obtain ⟨gl, cl', cu, hAl, _, _, hrl, hcl⟩ := own4_shape HO.out (by omega)
      obtain ⟨rfl, rfl⟩ : Al = some ⟨gl, 0, none⟩ ∧ cl = cl' := by injection hAl with e1 e2 e3; exact ⟨e1, e3⟩
      have hglw : w.heap.size ≤ gl := own_fromI HO.out gl rfl
      have hnf : ¬ fp2 g vF vL ms gl := fun e => by have := HH.out.lt gl e; omega
      have hxl : W1.cell? ⟨gl, i, none⟩ = some (.int .u64 ((64 * x.2 : Nat) : Int)) := by
        rw [hrl.cell]
        exact hcl i _ (by rw [HX1.out, List.map_map, List.getElem?_map, hx]; rfl)
      have hxr : wr.cell? ⟨gl, i, none⟩ = some (.int .u64 ((64 * x.2 : Nat) : Int)) := ht.but.cell hxl hnf
      have hj : ((i : Int) % (m : Int)).toNat = i % m := by omega
      have hL0 : ((m : Int) == 0) = false := by rw [Bool.eq_false_iff]; intro hh; have := beq_iff_eq.1 hh; omega
      have hb1 : (0 : Int) ≤ (i : Int) % (m : Int) := by omega
      have hb2 : (i : Int) % (m : Int) < (m : Int) := Int.emod_lt_of_pos (i : Int) (show (0 : Int) < (m : Int) by omega)
      have hiI : (i : Int) < (q : Int) := by omega
      have hmd : decide ((0 : Int) < (m : Int)) = true := by simp; omega
      by_cases hK0 : 0 < K
      · have hKd : decide (0 < K) = true := by simpa using hK0
        obtain ⟨a, ha⟩ : ∃ a, a = 64 * x.2 := ⟨_, rfl⟩
        rw [← ha] at hxr
        have haw : a % 8 = 0 ∧ a < 64 * (r.crashTo keep (xs.take i)).nl := by rw [hnl2]; omega
        have ha64 : a / 64 = x.2 := by omega
        have ep : pcnt (r.crashTo keep (xs.take i)) a = (pen x.2 (r.crashTo keep (xs.take i)).L).length := by unfold pcnt; rw [if_pos haw, ha64]
        obtain ⟨p, hp⟩ : ∃ p, p = (pen x.2 (r.crashTo keep (xs.take i)).L).length := ⟨_, rfl⟩
        have hpm : p ≤ 1000000 := by rw [hp]; exact Nat.le_trans (List.length_filter_le _ _) hll2
        obtain ⟨t, htt⟩ : ∃ t : Nat, t = K.toNat % (p + 1) := ⟨_, rfl⟩
        have etK : keptN keep x.1 p = t := by rw [hxi, eK, htt, show max 0 K = K from by omega]
        have eev : (r.crashTo keep (xs.take i)).evict (a / 64) t = r.crashTo keep (xs.take (i + 1)) := by
          rw [hnext]
          show _ = (r.crashTo keep (xs.take i)).evict x.2 (keptN keep x.1 (pen x.2 (r.crashTo keep (xs.take i)).L).length)
          rw [← hp, etK, ha64]
        have HEV := Lib.hid (fun (W : World) (hR : R2At W g (r.crashTo keep (xs.take i)) vF' vL' ms') => by
          have := r2Evict_yes hR a t (by rw [hnl2]; exact hnl.2) (by omega) haw (fun y hy => by have := (had2 y hy).2.1; omega)
          rw [eev] at this
          exact this)
        have hKt : K % ((p : Int) + 1) = (t : Int) := by
          rw [htt]
          obtain ⟨kn, rfl⟩ : ∃ kn : Nat, K = (kn : Int) := ⟨K.toNat, by omega⟩
          simp
        have hPd : Calls Try.prog 35 #[.pointer (some ⟨g, 0, none⟩), .int .u64 (a : Int)] wr.drew fun e w' => e = .returned (.int .i64 (p : Int)) ∧ wr.drew = w' := by
          have := r2Pending_any (hr.below (drew_below wr)) a (by rw [hnl2]; exact hnl.2) (by omega) (fun y hy => by have := (had2 y hy).2.1; omega)
          rw [ep, ← hp] at this
          exact this
        have HR := Lib.hid hr
        have HT := Lib.hid ht
        have hgx : (gl : Nat) < wr.heap.size := wr.block_lt_of_cell? _ hxr
        have haI : (a : Int) < 1048576 := by omega
        have hwp : IntKind.i64.wrap ((p : Int) + 1) = (p : Int) + 1 := by rw [IntKind.wrap_i64]; omega
        have hpn : ¬ ((p : Int) + 1 = 0) := by omega
        have hKm : K.tmod ((p : Int) + 1) = (t : Int) := by rw [Int.tmod_eq_emod_of_nonneg (by omega)]; exact hKt
        have hp1 : (((p : Int) + 1) == 0) = false := by rw [Bool.eq_false_iff]; intro hh; have := beq_iff_eq.1 hh; omega
        clear hr ht ck had2 hnl2 hll2 hf2 stop hx hxi hxn hxe hnext hmm hc hcW1 hwK hwk eK hAl hrl hcl hxl hnf haw ha64 ep hp htt etK eev hkn hK ha
        go_wp2_with fail
        refine wp_region_noPanic ?_
        refine wp_region_any (by kernel_rfl) ?_
        change wpAny _ _ _ _ _ _ _ (World.drew _)
        have HP := Lib.hid hPd
        clear hPd
        refine wpAny_take (i := 0) (oi := ⟨some 29, _, _, _, _, _⟩) (v := .pointer (some ⟨g, 0, none⟩)) rfl (by kernel_rfl) (by kernel_rfl) (by kernel_rfl) (fun _ _ _ h => h) (Or.inl ⟨by kernel_rfl, by intro w; go_simp⟩) ?_
        simp only [Act.put, List.setIfInBounds_toArray, List.set_cons_zero, List.set_cons_succ]
        refine wpAny_take (i := 1) (oi := ⟨some 30, _, _, _, _, _⟩) (v := .slice (some ⟨gl, 0, none⟩) q cl) rfl (by kernel_rfl) (by kernel_rfl) (by kernel_rfl) (fun _ _ _ h => h) (Or.inl ⟨by kernel_rfl, by intro w; go_simp⟩) ?_
        simp only [Act.put, List.setIfInBounds_toArray, List.set_cons_zero, List.set_cons_succ]
        refine wpAny_take (i := 2) (oi := ⟨some 31, _, _, _, _, _⟩) (v := .int .i64 (i : Int)) rfl (by kernel_rfl) (by kernel_rfl) (by kernel_rfl) (fun _ _ _ h => h) (Or.inl ⟨by kernel_rfl, by intro w; go_simp⟩) ?_
        simp only [Act.put, List.setIfInBounds_toArray, List.set_cons_zero, List.set_cons_succ]
        refine wpAny_take (i := 3) (oi := ⟨some 32, _, _, _, _, _⟩) (v := .pointer (some ⟨gl, i, none⟩)) rfl (by kernel_rfl) (by kernel_rfl) (by kernel_rfl) (fun _ _ _ h => h) (Or.inl ⟨by kernel_rfl, by intro w; go_simp⟩) ?_
        simp only [Act.put, List.setIfInBounds_toArray, List.set_cons_zero, List.set_cons_succ]
        refine wpAny_take (i := 5) (oi := ⟨some 34, _, _, _, _, _⟩) (v := .int .i64 K) rfl (by kernel_rfl) (by kernel_rfl) (by kernel_rfl) (fun _ _ _ h => h) (Or.inl ⟨by kernel_rfl, by intro w; go_simp⟩) ?_
        simp only [Act.put, List.setIfInBounds_toArray, List.set_cons_zero, List.set_cons_succ]
        refine wpAny_take (i := 6) (oi := ⟨some 35, _, _, _, _, _⟩) (v := .pointer (some ⟨g, 0, none⟩)) rfl (by kernel_rfl) (by kernel_rfl) (by kernel_rfl) (fun _ _ _ h => h) (Or.inl ⟨by kernel_rfl, by intro w; go_simp⟩) ?_
        simp only [Act.put, List.setIfInBounds_toArray, List.set_cons_zero, List.set_cons_succ]
        refine wpAny_take (i := 7) (oi := ⟨some 36, _, _, _, _, _⟩) (v := .slice (some ⟨gl, 0, none⟩) q cl) rfl (by kernel_rfl) (by kernel_rfl) (by kernel_rfl) (fun _ _ _ h => h) (Or.inl ⟨by kernel_rfl, by intro w; go_simp⟩) ?_
        simp only [Act.put, List.setIfInBounds_toArray, List.set_cons_zero, List.set_cons_succ]
        refine wpAny_take (i := 8) (oi := ⟨some 37, _, _, _, _, _⟩) (v := .int .i64 (i : Int)) rfl (by kernel_rfl) (by kernel_rfl) (by kernel_rfl) (fun _ _ _ h => h) (Or.inl ⟨by kernel_rfl, by intro w; go_simp⟩) ?_
        simp only [Act.put, List.setIfInBounds_toArray, List.set_cons_zero, List.set_cons_succ]
        refine wpAny_take (i := 9) (oi := ⟨some 38, _, _, _, _, _⟩) (v := .pointer (some ⟨gl, i, none⟩)) rfl (by kernel_rfl) (by kernel_rfl) (by kernel_rfl) (fun _ _ _ h => h) (Or.inl ⟨by kernel_rfl, by intro w; go_simp⟩) ?_
        simp only [Act.put, List.setIfInBounds_toArray, List.set_cons_zero, List.set_cons_succ]
        refine wpAny_ready (rs := [4, 10]) (by kernel_rfl) (by simp) ?_
        refine AllReady.cons rfl (fun K hK => ?_) (AllReady.cons rfl (fun K hK => ?_) AllReady.nil)
        · skip
          go_simp
          refine hK _ _ ?_
          clear hK K
          (try simp only [Act.put, List.setIfInBounds_toArray, List.set_cons_zero, List.set_cons_succ])
          refine wpAny_ready (rs := [10]) (by kernel_rfl) (by simp) ?_
          refine AllReady.cons rfl (fun K hK => ?_) AllReady.nil
          go_simp
          refine hK _ _ ?_
          clear hK K
          (try simp only [Act.put, List.setIfInBounds_toArray, List.set_cons_zero, List.set_cons_succ])
          refine wpAny_ready (rs := [11]) (by kernel_rfl) (by simp) ?_
          refine AllReady.cons rfl (fun K hK => ?_) AllReady.nil
          go_simp
          refine HP.out.mono ?_
          rintro e w3 ⟨rfl, rfl⟩
          refine hK _ _ ?_
          clear hK K
          (try simp only [Act.put, List.setIfInBounds_toArray, List.set_cons_zero, List.set_cons_succ])
          refine wpAny_take (i := 12) (oi := ⟨some 41, _, _, _, _, _⟩) (v := .int .i64 ((p : Int) + 1)) rfl (by kernel_rfl) (by kernel_rfl) (by kernel_rfl) (fun _ _ _ h => h) (Or.inl ⟨by kernel_rfl, by intro w; go_simp⟩) ?_
          simp only [Act.put, List.setIfInBounds_toArray, List.set_cons_zero, List.set_cons_succ]
          refine wpAny_take (i := 13) (oi := ⟨some 42, _, _, _, _, _⟩) (v := .int .i64 (t : Int)) rfl (by kernel_rfl) (by kernel_rfl) (by kernel_rfl) (fun _ _ _ h => h) (Or.inl ⟨by kernel_rfl, by intro w; go_simp⟩) ?_
          simp only [Act.put, List.setIfInBounds_toArray, List.set_cons_zero, List.set_cons_succ]
          refine wpAny_ready (rs := [14]) (by kernel_rfl) (by simp) ?_
          refine AllReady.cons rfl (fun K hK => ?_) AllReady.nil
          go_simp
          refine (HEV.out _ (HR.out.below (drew_below wr))).mono ?_
          rintro e w2 ⟨rfl, hP2⟩
          refine hK _ _ ?_
          clear hK K
          (try simp only [Act.put, List.setIfInBounds_toArray, List.set_cons_zero, List.set_cons_succ])
          refine wpAny_done (by kernel_rfl) ?_ _
          unfold NoPanic
          have HP2 := Lib.hid hP2
          clear hP2
          go_wp2
          go_roundg (q - (i + 1))
          case measure => omega
          case rel =>
            obtain ⟨vF2, vL2, ms2, hr2, ht2⟩ := HP2.out
            exact ⟨i + 1, by go_num, by omega, by omega, vF2, vL2, ms2, hr2, (HT.out.trans (Tn2.of_below (drew_below wr))).trans ht2⟩
        · skip
          go_simp
          refine hK _ _ ?_
          clear hK K
          (try simp only [Act.put, List.setIfInBounds_toArray, List.set_cons_zero, List.set_cons_succ])
          refine wpAny_ready (rs := [4, 11]) (by kernel_rfl) (by simp) ?_
          refine AllReady.cons rfl (fun K hK => ?_) (AllReady.cons rfl (fun K hK => ?_) AllReady.nil)
          · skip
            go_simp
            refine hK _ _ ?_
            clear hK K
            (try simp only [Act.put, List.setIfInBounds_toArray, List.set_cons_zero, List.set_cons_succ])
            refine wpAny_ready (rs := [11]) (by kernel_rfl) (by simp) ?_
            refine AllReady.cons rfl (fun K hK => ?_) AllReady.nil
            go_simp
            refine HP.out.mono ?_
            rintro e w3 ⟨rfl, rfl⟩
            refine hK _ _ ?_
            clear hK K
            (try simp only [Act.put, List.setIfInBounds_toArray, List.set_cons_zero, List.set_cons_succ])
            refine wpAny_take (i := 12) (oi := ⟨some 41, _, _, _, _, _⟩) (v := .int .i64 ((p : Int) + 1)) rfl (by kernel_rfl) (by kernel_rfl) (by kernel_rfl) (fun _ _ _ h => h) (Or.inl ⟨by kernel_rfl, by intro w; go_simp⟩) ?_
            simp only [Act.put, List.setIfInBounds_toArray, List.set_cons_zero, List.set_cons_succ]
            refine wpAny_take (i := 13) (oi := ⟨some 42, _, _, _, _, _⟩) (v := .int .i64 (t : Int)) rfl (by kernel_rfl) (by kernel_rfl) (by kernel_rfl) (fun _ _ _ h => h) (Or.inl ⟨by kernel_rfl, by intro w; go_simp⟩) ?_
            simp only [Act.put, List.setIfInBounds_toArray, List.set_cons_zero, List.set_cons_succ]
            refine wpAny_ready (rs := [14]) (by kernel_rfl) (by simp) ?_
            refine AllReady.cons rfl (fun K hK => ?_) AllReady.nil
            go_simp
            refine (HEV.out _ (HR.out.below (drew_below wr))).mono ?_
            rintro e w2 ⟨rfl, hP2⟩
            refine hK _ _ ?_
            clear hK K
            (try simp only [Act.put, List.setIfInBounds_toArray, List.set_cons_zero, List.set_cons_succ])
            refine wpAny_done (by kernel_rfl) ?_ _
            unfold NoPanic
            have HP2 := Lib.hid hP2
            clear hP2
            go_wp2
            go_roundg (q - (i + 1))
            case measure => omega
            case rel =>
              obtain ⟨vF2, vL2, ms2, hr2, ht2⟩ := HP2.out
              exact ⟨i + 1, by go_num, by omega, by omega, vF2, vL2, ms2, hr2, (HT.out.trans (Tn2.of_below (drew_below wr))).trans ht2⟩
          · skip
            go_simp
            refine HP.out.mono ?_
            rintro e w3 ⟨rfl, rfl⟩
            refine hK _ _ ?_
            clear hK K
            (try simp only [Act.put, List.setIfInBounds_toArray, List.set_cons_zero, List.set_cons_succ])
            refine wpAny_take (i := 12) (oi := ⟨some 41, _, _, _, _, _⟩) (v := .int .i64 ((p : Int) + 1)) rfl (by kernel_rfl) (by kernel_rfl) (by kernel_rfl) (fun _ _ _ h => h) (Or.inl ⟨by kernel_rfl, by intro w; go_simp⟩) ?_
            simp only [Act.put, List.setIfInBounds_toArray, List.set_cons_zero, List.set_cons_succ]
            refine wpAny_take (i := 13) (oi := ⟨some 42, _, _, _, _, _⟩) (v := .int .i64 (t : Int)) rfl (by kernel_rfl) (by kernel_rfl) (by kernel_rfl) (fun _ _ _ h => h) (Or.inl ⟨by kernel_rfl, by intro w; go_simp⟩) ?_
            simp only [Act.put, List.setIfInBounds_toArray, List.set_cons_zero, List.set_cons_succ]
            refine wpAny_ready (rs := [4]) (by kernel_rfl) (by simp) ?_
            refine AllReady.cons rfl (fun K hK => ?_) AllReady.nil
            go_simp
            refine hK _ _ ?_
            clear hK K
            (try simp only [Act.put, List.setIfInBounds_toArray, List.set_cons_zero, List.set_cons_succ])
            refine wpAny_ready (rs := [14]) (by kernel_rfl) (by simp) ?_
            refine AllReady.cons rfl (fun K hK => ?_) AllReady.nil
            go_simp
            refine (HEV.out _ (HR.out.below (drew_below wr))).mono ?_
            rintro e w2 ⟨rfl, hP2⟩
            refine hK _ _ ?_
            clear hK K
            (try simp only [Act.put, List.setIfInBounds_toArray, List.set_cons_zero, List.set_cons_succ])
            refine wpAny_done (by kernel_rfl) ?_ _
            unfold NoPanic
            have HP2 := Lib.hid hP2
            clear hP2
            go_wp2
            go_roundg (q - (i + 1))
            case measure => omega
            case rel =>
              obtain ⟨vF2, vL2, ms2, hr2, ht2⟩ := HP2.out
              exact ⟨i + 1, by go_num, by omega, by omega, vF2, vL2, ms2, hr2, (HT.out.trans (Tn2.of_below (drew_below wr))).trans ht2⟩
      · have hKd : decide (0 < K) = false := by simpa using hK0
        have eR : r.crashTo keep (xs.take (i + 1)) = r.crashTo keep (xs.take i) := by
          rw [hnext]
          show (r.crashTo keep (xs.take i)).evict x.2 (keptN keep x.1 _) = _
          rw [hxi, eK, show max 0 K = 0 from by omega]
          simp [Rf.evict, ev_zero]
        have HR : Hid (R2At wr g (r.crashTo keep (xs.take (i + 1))) vF' vL' ms') := Lib.hid (by rw [eR]; exact hr)
        have HT := Lib.hid ht
        clear hr ht ck had2 hnl2 hll2 hf2 stop hx hxi hxn hxe hnext hmm hc hcW1 hwK hwk eK hAl hrl hcl hxl hnf hkn hK eR hxr
        go_wp2
        go_roundg (q - (i + 1))
        case measure => omega
        case rel => exact ⟨i + 1, by go_num, by omega, by omega, vF', vL', ms', HR.out, HT.out⟩
    · have e2 : i = q ∨ keep = [] := by
        by_cases h1 : i = q
        · exact .inl h1
        · right
          have hm0 : m = 0 := by omega
          have := HM.out
          exact List.eq_nil_of_length_eq_zero (by omega)
      have hst := stop e2
      rw [hst] at hr hnl2 hf2 had2
      have hIm := r2Image_any hr (by rw [hnl2]; exact hnl) (by rw [hnl2]; exact hf2) (fun y hy => by rw [hnl2]; exact had2 y hy)
      have HIM := Lib.hid hIm
      have HR := Lib.hid hr
      have HT := Lib.hid ht
      clear hr ht ck had2 hnl2 hll2 hf2 stop hIm hst
      have fin : ∀ (w2 : World) (vN : Value), w2.ownsRow wr.heap.size 5 1 vN (64 * (r.crashTo keep xs).nl) ((bytesL (lastW (r.crashTo keep xs).F (prs (las (r.crashTo keep xs).L)))).map bv) → Below wr.heap.size wr w2 → P2 w g vF vL ms (r.crash keep xs) ((w2.setCell ⟨g, 0, none⟩ vN).setCell ⟨g, 1, none⟩ (.slice none 0 0)) := fun w2 vN ho hb => by
        refine ⟨vN, .slice none 0 0, [], (HR.out.below hb).fin _ ho, ?_, ?_⟩
        · refine But.set (But.set ?_ (.inl rfl) _) (.inl rfl) _
          refine (But.of_below HB.out _).trans (q := fp2 g vF vL ms) (HT.out.but.trans (But.of_below hb (fun _ => False)) (fun _ h => h.elim)) (fun _ h => .inl h)
        · rintro k (hk | hk | hk | ⟨v, hv, _⟩)
          · exact .inl (.inl hk)
          · right
            have h1 := own_fromI ho k hk
            have h2 := HT.out.but.size
            have h3 := HB.out.size
            omega
          · cases hk
          · simp at hv
      have FIN := Lib.hid fin
      have hw1 : ∀ (w2 : World), Below wr.heap.size wr w2 → Row w2 g 65 #[vF', vL', wv (r.crashTo keep xs).ld, wv (r.crashTo keep xs).st, wv (r.crashTo keep xs).fl, wv (r.crashTo keep xs).fe] := fun w2 hb => (HR.out.below hb).row
      have HW1 := Lib.hid hw1
      have hcs : (¬ i < q) ∨ (i < q ∧ m = 0) := by omega
      clear fin hw1 e2 hgo
      have hiqI : ¬ i < q → decide ((i : Int) < (q : Int)) = false := fun h => by simp; omega
      rcases hcs with hcs | ⟨hcs, rfl⟩
      have hid := hiqI hcs
      rotate_left
      have hidt : (i : Int) < (q : Int) := by omega
      rotate_left
      all_goals
        clear hiqI
        go_wp2_with fail
        refine HIM.out.mono ?_
        rintro e w2 ⟨⟨vN, rfl, ho⟩, hb⟩
        have HFN := Lib.hid (FIN.out w2 vN ho hb)
        obtain ⟨AN, cN, rfl, _⟩ := own4_sl ho
        have hrw := HW1.out w2 hb
        have d0 := hrw.cell 0
        simp only [List.getElem?_toArray, List.getElem?_cons_zero] at d0
        have d1 := hrw.cell 1
        simp only [List.getElem?_toArray, List.getElem?_cons_succ, List.getElem?_cons_zero] at d1
        have g0 := hrw.free 0
        have g1 := hrw.free 1
        clear ho hrw hb
        go_wp2
        exact bodyPost_end (results_none rfl _ _ _) rfl ⟨rfl, HFN.out⟩
end Go.Proofs.Ytkeajfedlhgejaa
/- SameAddrs of the document: of two slices that read alike; for at most 10^9 addresses. -/
namespace Go.Proofs.Ytkeajfedlhgejaa
open Go Go.RowKit
set_option linter.unusedVariables false
set_option maxRecDepth 100000 in
set_option maxHeartbeats 1600000 in
theorem r2Same_own {w : World} {B B' n : Nat} {v v' : Value} {xs : List Nat} (h : w.ownsRow B 35 1 v n (xs.map wv)) (h' : w.ownsRow B' 35 1 v' n (xs.map wv)) (hl : n ≤ 1000000000) :
    Calls Try.prog 32 #[v, v'] w fun e w' => e = .returned (.bool true) ∧ Below w.heap.size w w' := by
  obtain ⟨A, c, rfl, _⟩ := own4_sl h
  obtain ⟨A', c', rfl, _⟩ := own4_sl h'
  have hn : xs.length = n := by have := h.1; simp at this; omega
  have HX := Lib.hid (fun k (hk : k < n) => (show ∃ x g g', A = some ⟨g, 0, none⟩ ∧ A' = some ⟨g', 0, none⟩ ∧ w.cell? ⟨g, k, none⟩ = some (.int .u64 ((x : Nat) : Int)) ∧ w.cell? ⟨g', k, none⟩ = some (.int .u64 ((x : Nat) : Int)) by
    obtain ⟨g, cp, cur, hv, _, _, hr, hc⟩ := own4_shape h (by omega)
    obtain ⟨g', cp', cur', hv', _, _, hr', hc'⟩ := own4_shape h' (by omega)
    injection hv with e1 _ _
    injection hv' with e2 _ _
    have hx : (xs.map wv)[k]? = some (wv (xs[k]'(by omega))) := by rw [List.getElem?_map, List.getElem?_eq_getElem (by omega)]; rfl
    exact ⟨_, g, g', e1, e2, by rw [hr.cell]; exact hc k _ hx, by rw [hr'.cell]; exact hc' k _ hx⟩))
  have hne : ((n : Int) != (n : Int)) = false := by simp
  clear h h' hn
  go_enter Try.func32, Try.ntmps32
  go_wp2_with fail
  go_loopw [5] (fun i wr => ∃ k : Nat, k ≤ n ∧ i = .int .i64 (k : Int) ∧ ∃ q, wr = w.drewN q) (fun i _ => n - (intOf i).toNat)
  case atStart => exact ⟨0, by omega, rfl, 0, rfl⟩
  case round =>
    obtain ⟨k, hk, rfl, q, rfl⟩ := hrel
    by_cases hlt : k < n
    · obtain ⟨x, g, g', rfl, rfl, a1, b1⟩ := HX.out k hlt
      have hxx : ((x : Int) != (x : Int)) = false := by simp
      go_wp2
      go_quiet (fail)
      go_wp2
      exact ⟨⟨k + 1, by omega, by go_num, q + nq, rfl⟩, by simp [intOf]; omega⟩
    · obtain rfl : k = n := by omega
      go_wp2
      go_ret
      exact ⟨rfl, drewN_below _ _⟩
end Go.Proofs.Ytkeajfedlhgejaa
/- Both memories side by side: their lines, their blocks apart. -/
namespace Go.Proofs.Ytkeajfedlhgejaa
open Go Go.RowKit
set_option linter.unusedVariables false
theorem nz_snd : ∀ (p : List (List (Nat × Nat))) (i j : Nat), (nzFrom p i j).map (fun x => x.2) = ((List.range p.length).filter fun t => decide (0 < (p.getD t []).length)).map fun t => j + t
  | [], i, j => rfl
  | l :: t, i, j => by
    have e : (List.range (l :: t).length) = 0 :: (List.range t.length).map Nat.succ := by rw [List.length_cons, List.range_succ_eq_map]
    rw [e]
    have e2 : ((List.range t.length).map Nat.succ).filter (fun q => decide (0 < ((l :: t).getD q []).length)) = ((List.range t.length).filter fun q => decide (0 < (t.getD q []).length)).map Nat.succ := by
      rw [List.filter_map]
      rfl
    by_cases hl : l = []
    · subst hl
      have e3 : nzFrom ([] :: t) i j = nzFrom t i (j + 1) := by simp [nzFrom]
      rw [e3, List.filter_cons, if_neg (by simp), e2, nz_snd t i (j + 1), List.map_map]
      apply List.map_congr_left
      intro q _
      simp; omega
    · have e3 : nzFrom (l :: t) i j = (i, j) :: nzFrom t (i + 1) (j + 1) := by simp [nzFrom, hl]
      have hp : 0 < l.length := by cases l with
        | nil => exact absurd rfl hl
        | cons a b => simp
      rw [e3, List.filter_cons, if_pos (by simpa using hp), e2, List.map_cons, List.map_cons, nz_snd t (i + 1) (j + 1), List.map_map]
      congr 1
      apply List.map_congr_left
      intro q _
      simp; omega
theorem lines_rel {s : St} {r : Rf} (h : RelAt s r) : linesU r r.nl = (nz s.pend).map fun x => 64 * x.2 := by
  have e : (nz s.pend).map (fun x => 64 * x.2) = ((nz s.pend).map fun x => x.2).map fun t => 64 * t := by rw [List.map_map]; rfl
  rw [e]
  unfold nz
  rw [nz_snd, h.pl, h.nl, List.map_map]
  unfold linesU
  have e2 : (List.range s.nl).filter (fun t => decide (0 < (pen t r.L).length)) = (List.range s.nl).filter (fun t => decide (0 < (s.pend.getD t []).length)) := by
    apply List.filter_congr
    intro t ht
    rw [h.pcount t (by simpa using ht)]
  rw [e2]
  apply List.map_congr_left
  intro t _
  simp
theorem nz_place {s : St} {r : Rf} (h : RelAt s r) (i : Nat) (x : Nat × Nat) (hx : (nz s.pend)[i]? = some x) : x.1 = i ∧ x.2 < r.nl := by
  have h1 := nzFrom_at s.pend 0 0 i x hx
  have h2 := nzFrom_bound s.pend 0 0 x (List.mem_of_getElem? hx)
  rw [h.nl, ← h.pl]
  omega
/-- The blocks of the program's memory are none of the document's. -/
theorem apart2 {w : World} {y : Lay} {s : St} {g : Nat} {r : Rf} {vF vL : Value} {ms : List Value} (h : MemAt w y s) (h2 : R2At w g r vF vL ms) : ∀ k, y.fp k → ¬ fp2 g vF vL ms k := by
  intro k hk h3
  have t2 : ∃ (t : TypeId) (cs : Array Value), w.heap[k]? = some (.cells cs t (0, 0)) ∧ (t = 65 ∨ t = 5 ∨ t = 99 ∨ t = 3) := by
    rcases h3 with rfl | h3 | h3 | ⟨v, hv, h3⟩
    · exact ⟨_, _, h2.row, .inl rfl⟩
    · obtain ⟨cs, hc⟩ := own2_tg h2.fi h3
      exact ⟨_, cs, hc, .inr (.inl rfl)⟩
    · obtain ⟨cs, hc⟩ := own2_tg h2.li h3
      exact ⟨_, cs, hc, .inr (.inr (.inl rfl))⟩
    · obtain ⟨i, hi⟩ := List.mem_iff_getElem?.1 hv
      have hl := (List.getElem?_eq_some_iff.1 hi).1
      obtain ⟨cs, hc⟩ := own2_tg (h2.mks i v _ hi (List.getElem?_eq_getElem (by rw [← h2.ml]; exact hl))) h3
      exact ⟨_, cs, hc, .inr (.inr (.inr rfl))⟩
  obtain ⟨t, cs, hc, ht⟩ := t2
  have key : ∀ (u : TypeId) (ds : Array Value), w.heap[k]? = some (.cells ds u (0, 0)) → u ≠ 65 → u ≠ 5 → u ≠ 99 → u ≠ 3 → False := fun u ds hd n1 n2 n3 n4 => by
    rw [hc] at hd
    injection hd with hd
    injection hd with _ hd _
    subst hd
    rcases ht with e | e | e | e
    · exact n1 e
    · exact n2 e
    · exact n3 e
    · exact n4 e
  rcases hk with hk | hk | hk | hk | hk | ⟨j, v, hv, hk⟩
  · subst hk; exact key _ _ h.row (by decide) (by decide) (by decide) (by decide)
  · obtain ⟨cs, hc⟩ := own2_tg h.las (g := k) (by rw [hk]; rfl); exact key _ _ hc (by decide) (by decide) (by decide) (by decide)
  · obtain ⟨cs, hc⟩ := own2_tg h.vie (g := k) (by rw [hk]; rfl); exact key _ _ hc (by decide) (by decide) (by decide) (by decide)
  · obtain ⟨cs, hc⟩ := own2_tg h.pen (g := k) (by rw [hk]; rfl); exact key _ _ hc (by decide) (by decide) (by decide) (by decide)
  · subst hk
    obtain ⟨es, c, hm⟩ := h.marks.map
    rw [hc] at hm
    cases hm
  · have hjl : j < s.nl := by have := (List.getElem?_eq_some_iff.1 hv).1; rw [ps_len h] at this; exact this
    obtain ⟨cur, hr⟩ := ps_row h hv hk
    exact key _ _ hr (by decide) (by decide) (by decide) (by decide)
end Go.Proofs.Ytkeajfedlhgejaa
