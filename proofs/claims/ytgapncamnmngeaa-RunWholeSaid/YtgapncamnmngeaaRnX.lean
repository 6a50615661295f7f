/- RunWhole: a run does its stores, in order, and all have lasted behind it, in at most three steps a store; for any input of at most 16 lines and 60 stores. -/
import Derived.Test.YtgapncamnmngeaaRnO
import Derived.Test.YtgapncamnmngeaaRnB
import Derived.Test.YtgapncamnmngeaaRnT
import Derived.Test.YtgapncamnmngeaaPConv
namespace Go.Proofs.Ytgapncamnmngeaa
open Go.RowKit Go.Shelf
set_option linter.unusedVariables false

def RS.cost (r : RS) : Nat := 3 * r.left.length + match r.ph with
  | .fl => 2
  | .fe => 1
  | _ => 0
theorem cost_step {r : RS} {nl : Nat} (g : r.Good nl) (he : r.ph ≠ .en) : r.next.cost + 1 ≤ r.cost := by
  obtain ⟨c, left, line, ph, done, code⟩ := r
  cases ph with
  | st =>
    cases left with
    | nil => exact absurd rfl (g.lf rfl)
    | cons av q =>
      have : (RS.next ⟨c, av :: q, line, .st, done, code⟩) = ⟨c, q, av.1 / 64 * 64, if ends av.1 q then .fl else .st, done, code⟩ := rfl
      rw [this]
      unfold RS.cost
      simp only [List.length_cons]
      cases ends av.1 q <;> simp <;> omega
  | fl => exact Nat.le_refl _
  | fe => exact Nat.le_refl _
  | en => exact absurd rfl he
theorem cost_new (c : Int) (l : List (Nat × Nat)) : (RS.new c l).cost = 3 * l.length := by
  unfold RS.new RS.cost
  dsimp only
  by_cases e : l = []
  · subst e
    rfl
  · rw [if_neg e]
    rfl
theorem win_lines {size n : Nat} {l : List (Nat × Nat)} (hs : size = 64 * n) (h0 : 0 < n) (hl : ∀ p ∈ l, p.1 < 18446744073709551616 ∧ p.2 < 18446744073709551616) : ∀ p ∈ win size l, p.1 % 8 = 0 ∧ p.1 < 64 * n ∧ p.2 < 18446744073709551616 := by
  intro p hp
  obtain ⟨q, hq, rfl⟩ := List.mem_map.1 hp
  have h1 := Nat.mod_lt q.1 (show 0 < size by omega)
  refine ⟨by show q.1 % size / 8 * 8 % 8 = 0; omega, by show q.1 % size / 8 * 8 < _; omega, (hl q hq).2⟩
/-- Where the loop stands. -/
structure WH (w wr : World) (n : Nat) (l : List (Nat × Nat)) (v : Value) (g rg : Nat) (c : Int) (i : Nat) (s : St) (r : RS) (y : Lay) (V : Value) (t m L b : Nat) : Prop where
  mem : MemAt wr y s
  ok : s.Ok
  sm : Small s i
  on : RunOn wr y rg r V
  inv : Inv (fun _ => True) n l s r t m L b
  st : s.st = m
  nl : s.nl = n
  yg : y.g = g
  low : Below w.heap.size w wr
  fp : ∀ k, y.fp k → w.heap.size ≤ k
  rgn : w.heap.size ≤ rg
  ah : Ahead wr v l
  sep : ∀ b, v.ownBlock = some b → l ≠ [] → ¬ y.fp b ∧ b ≠ rg
theorem RunOn.but {w w' : World} {y : Lay} {rg : Nat} {r : RS} {V : Value} {fp : Nat → Prop} (h : RunOn w y rg r V) (hb : But w w' fp) (hr : ¬ fp rg) (hv : ∀ b, V.ownBlock = some b → r.left ≠ [] → ¬ fp b) : RunOn w' y rg r V := by
  refine ⟨⟨hb.row h.run.row hr, ?_⟩, h.sep, h.vsep⟩
  by_cases h0 : r.left = []
  · rcases h.run.ah with h1 | ⟨h1, _⟩
    · exact .inl h1
    · exact absurd h0 h1
  · exact h.run.ah.same fun b hb' => hb.block b (h.run.ah.lt h0 hb') (hv b hb' h0)
theorem WH.step {w wr w' : World} {n : Nat} {l : List (Nat × Nat)} {v : Value} {g rg : Nat} {c : Int} {i : Nat} {s : St} {r : RS} {y : Lay} {V : Value} {t m L b : Nat} (h : WH w wr n l v g rg c i s r y V t m L b) (hi : i ≤ 1000) (gd : r.Good n)
    (hp : StepPost wr y rg r.next (r.mem s) w') : ∃ y' V' t' m' L' b', WH w w' n l v g rg c (i + 1) (r.mem s) r.next y' V' t' m' L' b' := by
  obtain ⟨y', V', hm', hr', T⟩ := hp
  obtain ⟨t', m', L', b', hinv, hst⟩ := inv_step h.inv gd
  have hg : r.Good s.nl := by rw [h.nl]; exact gd
  have F := (Fresh.mk h.low h.fp h.rgn).step T
  exact ⟨y', V', t', m', L', b', { mem := hm', ok := mem_Ok h.ok h.sm hi h.mem.plen hg, sm := mem_Small h.sm, on := hr', inv := hinv, st := by have := h.st; omega, nl := by rw [mem_nl]; exact h.nl, yg := T.g.trans h.yg, low := F.low, fp := F.fp, rgn := F.rg, ah := h.ah.keep T h.sep, sep := fun q hq h0 => ⟨T.nfp (h.ah.lt h0 hq) (h.sep q hq h0).1, (h.sep q hq h0).2⟩ }⟩
theorem rbytes_out {w : World} {B : Nat} {l : List Nat} {v : Value} {n : Nat} (h : w.ownsRow B 5 1 v l.length (l.map bv)) (hl : l.length = n) (hn : 0 < n) : ∃ g c, v = .slice (some ⟨g, 0, none⟩) n c ∧ Sl w (some ⟨g, 0, none⟩) (l.map bv) := by
  rw [hl] at h
  obtain ⟨g, c, h1, _, _, h2⟩ := own_some h hn
  exact ⟨g, c, h1, h2⟩
theorem nz_all {p : List (List (Nat × Nat))} (h : ∀ j, p.getD j [] = []) (i j : Nat) : nzFrom p i j = [] := by
  induction p generalizing i j with
  | nil => rfl
  | cons a q ih =>
    have ha : a = [] := h 0
    unfold nzFrom
    rw [if_pos ha]
    exact ih (fun j' => h (j' + 1)) i (j + 1)
theorem gd_ext {a b : List Nat} (hl : a.length = b.length) (h : ∀ k, a.getD k 0 = b.getD k 0) : a = b := List.ext_getElem? fun k => gd_opt hl (h k)
theorem WH.final {w wr : World} {n : Nat} {l : List (Nat × Nat)} {v : Value} {g rg : Nat} {c : Int} {i : Nat} {s : St} {r : RS} {y : Lay} {V : Value} {t m L b : Nat} (h : WH w wr n l v g rg c i s r y V t m L b) (hd : r.done = true) :
    s.view = vw n l ∧ s.lasted = vw n l ∧ nz s.pend = [] ∧ m = l.length := by
  obtain ⟨e1, e2⟩ := h.inv.dn hd
  have hv := h.inv.view
  have hl := h.inv.las
  have hp := h.inv.pen
  rw [e1, List.take_length] at hv
  rw [e2, e1, List.take_length] at hl
  rw [e2, e1] at hp
  refine ⟨gd_ext (by rw [h.inv.lv, vw_length]) fun k => hv k trivial, gd_ext (by rw [h.inv.ll, vw_length]) fun k => hl k trivial, nz_all (fun j => ?_) 0 0, e1⟩
  rw [hp j trivial, List.take_length, List.drop_length]
  simp
-- GEN
set_option maxRecDepth 100000 in
set_option maxHeartbeats 3200000 in
theorem runWhole_pos {w : World} {V0 : Value} {l0 : List (Nat × Nat)} (hA : Reads w V0 l0) {n : Nat} {c : Int} (h0 : 0 < n) (h1 : n ≤ 16) (c0 : 0 ≤ c) (c1 : c ≤ 64) (h60 : l0.length ≤ 60) (hx : ∀ p ∈ l0, p.1 < 18446744073709551616 ∧ p.2 < 18446744073709551616) (hne : l0 ≠ []) :
    Calls Try.prog 3 #[.int .i64 (n : Int), V0, .int .i64 c] w fun e w' => e = .returned (.bool true) ∧ Below w.heap.size w w' := by
  have HM := Lib.hid (mem10_yes h0 h1 w)
  obtain ⟨i0, hi, hz0, hz1, hz2⟩ := info_parts info32
  have hA' := hA
  obtain ⟨A0, cap0, rfl, hlc0, hcm0, _⟩ := hA'
  have HA := Lib.hid hA
  obtain ⟨N, hN⟩ : ∃ N, N = l0.length := ⟨_, rfl⟩
  have HN := Lib.hid hN
  rw [← hN] at hlc0 h60 ⊢
  have HX := Lib.hid hx
  have hN0 : 0 < N := by rw [hN]; exact List.length_pos_iff.2 hne
  obtain ⟨L1, hL1⟩ : ∃ L1, L1 = win (64 * n) l0 := ⟨_, rfl⟩
  have HLN := Lib.hid (show L1.length = N by rw [hL1, win_length]; exact hN.symm)
  have HP1 := Lib.hid (show ∀ p ∈ L1, p.1 % 8 = 0 ∧ p.1 < 64 * n ∧ p.2 < 18446744073709551616 from by rw [hL1]; exact win_lines rfl h0 hx)
  have HL1 := Lib.hid hL1
  clear hA hN hx hL1
  go_enter Try.func3, Try.ntmps3
  have d1 : decide (60 < (N : Int)) = false := by rw [decide_eq_false_iff_not]; omega
  have d2 : decide (c < 0) = false := by rw [decide_eq_false_iff_not]; omega
  have d3 : decide (64 < c) = false := by rw [decide_eq_false_iff_not]; omega
  go_wp2_with fail
  refine HM.out.mono ?_
  rintro e w1 ⟨y, rfl, hm1, hfp, hb1⟩
  have q3 : IntKind.i64.wrap (64 * (n : Int)) = 64 * (n : Int) := by rw [IntKind.wrap_i64]; omega
  have HW := Lib.hid (within_any (HA.out.below hb1) (size := 64 * n) (by omega) (by omega) (by have := HN.out; omega) HX.out)
  rw [← HN.out, ← HL1.out, show ((64 * n : Nat) : Int) = 64 * (n : Int) from by omega] at HW
  have HM1 := Lib.hid hm1
  have HFP := Lib.hid hfp
  have HB1 := Lib.hid hb1
  clear hm1 hfp hb1 HM
  go_wp2_with fail
  refine HW.out.mono ?_
  rintro e w2 ⟨⟨v, rfl, ho, hnil⟩, hb2⟩
  obtain ⟨gv, cv, rfl⟩ : ∃ gv cv, v = .slice (some ⟨gv, 0, none⟩) N cv := by
    rcases ho.2 with ⟨_, h⟩ | ⟨g', cap', cur', h, _⟩
    · omega
    · exact ⟨g', cap', h⟩
  have HO := Lib.hid ho
  have hlen := HLN.out
  have hgv : w1.heap.size ≤ gv ∧ gv < w2.heap.size := ownZ_from ho gv rfl
  have HAV := Lib.hid (show Ahead w2 (.slice (some ⟨gv, 0, none⟩) N cv) L1 from (own_ahead (by rw [hlen]; exact ho)).1)
  clear ho
  have HB2 := Lib.hid hb2
  clear hb2 hnil HW
  go_wp2_with (at_builtin; refine wpList_append_own _ rfl _ _ 22 rfl w2.heap.size 32 i0 (.agg #[.int .u64 0, .int .u64 0]) 2 16 Try.underlying22 hi hz0 hz1 hz2 rfl (by decide) _ 0 [] rfl (World.ownsRow_nil _ _ _ _) ⟨gv, 0, none⟩ N cv (flat L1) rfl ?qc1 ?qc2 ?qc3 ?qc4 ?qc5 ?qc6 ?_)
  case qc1 => rw [flat_length, hlen]; omega
  case qc2 =>
    intro j u hj
    exact HO.out.cells rfl j u hj
  case qc3 => exact flat_ones L1
  case qc4 => unfold maxLen; omega
  case qc5 => omega
  case qc6 => exact Nat.le_refl _
  intro V1 w3 hown3 hgrow3 hnil3

  have hb3 : Below w2.heap.size w2 w3 := (Below.refl _ _).grown hgrow3 (Nat.le_refl _) (by intro q hq; cases hq)
  obtain ⟨g1, c1', rfl⟩ : ∃ g1 c1, V1 = .slice (some ⟨g1, 0, none⟩) N c1 := by
    rcases hown3.2 with ⟨_, h⟩ | ⟨g', cap', cur', h, _⟩
    · omega
    · exact ⟨g', cap', h⟩
  have hg1 : w2.heap.size ≤ g1 ∧ g1 < w3.heap.size := ownZ_from hown3 g1 rfl
  have HA3 := Lib.hid (show Ahead w3 (.slice (some ⟨g1, 0, none⟩) N c1') L1 from (own_ahead (by rw [hlen]; exact hown3)).1)
  have HV1 := Lib.hid (show L1 = [] → Value.slice (some ⟨g1, 0, none⟩) N c1' = .slice none 0 0 from fun h => by rw [h] at hlen; simp at hlen; omega)
  have HZ3 := Lib.hid (show ∀ W, Below w3.heap.size w3 W → ∃ cs, Row W g1 32 cs ∧ 2 * N ≤ cs.size from fun W hb => by
    rcases hown3.2 with ⟨_, h⟩ | ⟨g', cap', cur', h, _, hh, h2, _, h4, _⟩
    · omega
    · injection h with e1 _ e3
      cases e1
      exact ⟨cur', Row.below hh hb hg1.2, by omega⟩)
  have HB3 := Lib.hid hb3
  clear hown3 hgrow3 hnil3 hb3
  have HR := Lib.hid (rnew_any (some ⟨y.g, 0, none⟩) c HA3.out (fun h => HV1.out h) (by have := HLN.out; omega))
  go_wp2_with fail
  refine HR.out.mono ?_
  rintro e w4 ⟨⟨rg, V4, rfl, hr4, hrg, hV4⟩, hb4⟩
  have H4 := Lib.hid (And.intro hr4 (And.intro hrg (And.intro hV4 hb4)))
  have HZC := Lib.hid (HZ3.out w4 hb4)
  clear hr4 hrg hV4 hb4 HR
  go_wp2_with fail
  obtain ⟨cs4, hcs4, hcsz⟩ := HZC.out
  go_loopw [10] (fun i wr => ∃ k : Nat, k ≤ N ∧ i = .int .i64 (k : Int) ∧ But w4 wr (fun q => q = g1) ∧ ∃ cs, Row wr g1 32 cs ∧ 2 * N ≤ cs.size) (fun i _ => N - (intOf i).toNat)
  case atStart => exact ⟨0, Nat.zero_le _, rfl, But.refl _ _, cs4, hcs4, hcsz⟩
  case round =>
    rename World => wr
    obtain ⟨k, hk, rfl, hbut, cs, hcs, hsz⟩ := hrel
    by_cases hlt : k < N
    · have hk0 : k * 2 < cs.size := by omega
      have hk1 : k * 2 + 1 < cs.size := by omega
      have u0 := hcs.cell (k * 2)
      have u1 := hcs.cell (k * 2 + 1)
      rw [Array.getElem?_eq_getElem hk0] at u0
      rw [Array.getElem?_eq_getElem hk1] at u1
      have f0 := hcs.free (k * 2)
      have f1 := hcs.free (k * 2 + 1)
      have hkN : decide ((k : Int) < (N : Int)) = true := by rw [decide_eq_true_eq]; omega
      have HBUT := Lib.hid hbut
      have HCS := Lib.hid hcs
      clear hbut hcs
      go_wp2
      refine ⟨⟨k + 1, by omega, by go_num, (HBUT.out.set rfl _).set rfl _, _, (HCS.out.set _ _).set _ _, by simpa using hsz⟩, by simp only [intOf]; omega⟩
    · obtain rfl : k = N := by omega
      obtain ⟨hr4, hrg, hV4, hb4⟩ := H4.out
      have hs12 := HB2.out.size
      have hs23 := HB3.out.size
      have hs34 := hb4.size
      have hm3 := (HM1.out.below HB2.out).below HB3.out
      have hlt1 : ∀ q, y.fp q → q < w1.heap.size := HM1.out.lt
      have hm5 : MemAt wr y (St.zero n) := (hm3.below hb4).but hbut (fun q hq he => by have := hlt1 q hq; omega)
      have hon5 : RunOn wr y rg (RS.new c L1) V4 := (RunOn.new hm3 hr4 hrg hV4).but hbut (by omega) (fun b hb h0 => by have := (hV4 b hb h0).1; omega)
      have hah5 : Ahead wr (.slice (some ⟨gv, 0, none⟩) k cv) L1 := ((HAV.out.below HB3.out).below hb4).same fun q hq => by
        have hq' : gv = q := by injection hq
        exact hbut.block q (by omega) (by omega)
      have hb15 : Below w1.heap.size w1 wr := by
        have b14 := Below.and (Below.and HB2.out HB3.out) hb4
        exact b14.trans (hbut.below (by omega) (fun q hq => by omega))
      have WH0 := Lib.hid (show WH w wr n L1 (.slice (some ⟨gv, 0, none⟩) k cv) y.g rg c 0 (St.zero n) (RS.new c L1) y V4 0 0 0 0 from
        { mem := hm5, ok := zero_Ok n, sm := zero_Small n, on := hon5, inv := zero_inv _ n L1 c (fun p hp => ⟨trivial, by have := (HP1.out p hp).2.1; omega⟩), st := rfl, nl := rfl, yg := rfl, low := HB1.out.trans (hb15.mono HB1.out.size), fp := HFP.out, rgn := by have := HB1.out.size; omega, ah := hah5, sep := fun b hb hne => by
            have hb' : gv = b := by injection hb
            exact ⟨fun hf => by have := hlt1 b hf; omega, by omega⟩ })
      clear hr4 hrg hV4 hb4 hm3 hlt1 hm5 hon5 hah5 hb15 hbut hcs hsz hcs4 hcsz
      have HG0 := Lib.hid (show (0 + (RS.new c L1).cost ≤ 3 * L1.length) ∧ (RS.new c L1).Good n from ⟨by rw [cost_new]; omega, new_Good c0 c1 h0 HP1.out⟩)
      obtain ⟨gy, hgy⟩ : ∃ gy, gy = y.g := ⟨_, rfl⟩
      rw [← hgy] at WH0
      have HGY := Lib.hid hgy
      go_wp2_with fail
      rw [← hgy]
      clear hgy
      go_loopw [11] (fun iv wr => ∃ i s r y' V t m L b, iv = .int .i64 ((i : Nat) : Int) ∧ i + r.cost ≤ 3 * L1.length ∧ r.Good n ∧ WH w wr n L1 (.slice (some ⟨gv, 0, none⟩) k cv) gy rg c i s r y' V t m L b) (fun iv _ => 3 * k + 1 - (intOf iv).toNat)
      case atStart => exact ⟨0, _, _, _, _, _, _, _, _, rfl, HG0.out.1, HG0.out.2, WH0.out⟩
      case round =>
        obtain ⟨i, s, r, yr, V, t, m, L, b, rfl, hcost, hgood, hwh⟩ := hrel
        rename World => wq
        have hik : i ≤ 3 * k := by rw [HLN.out] at hcost; omega
        have hi1 : decide ((i : Int) ≤ 3 * (k : Int)) = true := by rw [decide_eq_true_eq]; omega
        have HONE := Lib.hid (one_any hwh.mem hwh.ok hwh.sm (by omega) hwh.on (by rw [hwh.nl]; exact hgood))
        rw [hwh.yg] at HONE
        have HSTEP := Lib.hid fun w' hp => hwh.step (w' := w') (by omega) hgood hp
        have HGOOD := Lib.hid hgood
        have HCOST := Lib.hid hcost
        have HEN := Lib.hid hwh.inv.en
        clear hcost hgood hwh
        go_wp2_with fail
        refine HONE.out.mono ?_
        rintro e w6 ⟨rfl, hpost⟩
        obtain ⟨y6, V6, t6, m6, L6, b6, hw6⟩ := HSTEP.out w6 hpost
        clear hpost HONE HSTEP
        obtain ⟨A6, cap6, rfl, _, _⟩ := hw6.on.run.ah.len
        have hll : r.next.left.length = k - m6 := by rw [hw6.inv.left, List.length_drop, HLN.out]
        have HLF := Lib.hid (left_any hw6.on.run.cells (n := k - m6) (A := A6) (cap := cap6) (by rw [hll]; rfl))
        have hm6 : m6 ≤ k := by have := hw6.inv.hm; rw [HLN.out] at this; exact this
        have HST6 := Lib.hid (stats_yes hw6.mem)
        rw [hw6.yg, hw6.st] at HST6
        unfold wv at HST6
        have HW6 := Lib.hid hw6
        clear hw6 hll
        have fs1 := fun (w : World) => fieldS1 w ((r.mem s).ld : Int) (m6 : Int) ((r.mem s).fl : Int) ((r.mem s).fe : Int)
        have hw1 : IntKind.i64.wrap (m6 : Int) = (m6 : Int) := by rw [IntKind.wrap_i64]; omega
        have hw2 : IntKind.i64.wrap ((k : Int) - (m6 : Int)) = ((k - m6 : Nat) : Int) := by rw [IntKind.wrap_i64]; omega
        go_wp2_with fail
        refine HLF.out.mono ?_
        rintro e w' ⟨rfl, rfl⟩
        go_wp2_with fail
        refine HST6.out.mono ?_
        rintro e w7 ⟨rfl, hb7⟩
        have HB7 := Lib.hid hb7
        clear HLF HST6 hb7
        cases hdn : r.next.done with
        | false =>
          have HR := Lib.hid (show i + 1 + r.next.cost ≤ 3 * L1.length ∧ r.next.Good n from ⟨by
            have he : r.ph ≠ .en := fun he => by
              obtain ⟨c9, l9, li9, ph9, d9, k9⟩ := r
              dsimp only at he
              subst he
              cases hdn
            have h1 := cost_step HGOOD.out he
            have h2 := HCOST.out
            omega, next_Good HGOOD.out hdn⟩)
          clear hdn
          go_wp2
          refine ⟨⟨i + 1, r.mem s, r.next, y6, .slice A6 r.next.left.length cap6, t6, m6, L6, b6, by go_num, HR.out.1, HR.out.2, ?_⟩, by simp only [intOf]; omega⟩
          have h6 := HW6.out
          exact { mem := h6.mem.below HB7.out, ok := h6.ok, sm := h6.sm, on := h6.on.below HB7.out, inv := h6.inv, st := h6.st, nl := h6.nl, yg := h6.yg, low := Below.and h6.low HB7.out, fp := h6.fp, rgn := h6.rgn, ah := h6.ah.below HB7.out, sep := h6.sep }
        | true =>
          have HDN := Lib.hid hdn
          have hon7 := HW6.out.on.below HB7.out
          have HSD := Lib.hid (show Calls Try.prog 16 #[.pointer (some ⟨rg, 0, none⟩)] w7 fun e w' => e = .returned (.tuple #[.bool true, .int .i64 0]) ∧ Below w7.heap.size w7 w' from by
            have hc := hon7.run.cells
            rw [hdn, show r.next.code = 0 from by
              have := HGOOD.out.cd
              obtain ⟨c9, l9, li9, ph9, d9, k9⟩ := r
              cases ph9 with
              | st => cases l9 <;> exact this
              | fl => exact this
              | fe => exact this
              | en => exact this] at hc
            exact rstep_done hc)
          clear hdn hon7
          have HFI := Lib.hid (HW6.out.final HDN.out)
          have HIM := Lib.hid fun W (hb : Below w7.heap.size w7 W) => img_any (((HW6.out.ah.below HB7.out).below hb)) (nl := n) (many := k) h1 (by rw [HLN.out]; exact Nat.le_refl _) (by omega) HP1.out
          rw [show L1.take k = L1 from by rw [← HLN.out, List.take_length], show ((64 * n : Nat) : Int) = 64 * (n : Int) from by omega] at HIM
          go_wp2_with fail
          refine HSD.out.mono ?_
          rintro e w8 ⟨rfl, hb8⟩
          go_wp2_with fail
          refine (HIM.out _ hb8).mono ?_
          rintro e w9 ⟨⟨v9, rfl, ho9⟩, hb9⟩
          obtain ⟨B, hB⟩ : ∃ B, B = bytesL (vw n L1) := ⟨_, rfl⟩
          have hBl : B.length = 64 * n := by rw [hB, bytesL_length, vw_length]; omega
          rw [← hB] at ho9
          obtain ⟨g9, c9, rfl, hsl9⟩ := rbytes_out ho9 hBl (by omega)
          have hcv9 := conv_sl (64 * n) c9 hBl hsl9
          obtain ⟨SS, hSS⟩ : ∃ SS, SS = strOf B := ⟨_, rfl⟩
          rw [← hSS] at hcv9
          have hstr : (SS.toList == SS.toList) = true := by simp
          have hb79 := Below.and hb8 hb9
          have HB79 := Lib.hid hb79
          obtain ⟨fv, fl, fz, fm⟩ := HFI.out
          have hm7 := fun W (hb : Below w7.heap.size w7 W) => (HW6.out.mem.below HB7.out).below hb
          have HLF := Lib.hid (left_any (HW6.out.on.below (Below.and HB7.out hb79)).run.cells (n := 0) (A := A6) (cap := cap6) (by
            rw [show r.next.left.length = 0 from by rw [HW6.out.inv.left, List.length_drop, fm]; omega]
            rfl))
          have HIMG := Lib.hid fun W (hb : Below w7.heap.size w7 W) => image_yes (hm7 W hb) HW6.out.ok.las
          have HVW := Lib.hid fun W (hb : Below w7.heap.size w7 W) => view_yes (hm7 W hb) HW6.out.ok.vie
          have HLN9 := Lib.hid fun W (hb : Below w7.heap.size w7 W) => lines_zero (hm7 W hb) fz
          rw [HW6.out.yg] at HIMG HVW HLN9
          rw [fl, ← hB] at HIMG
          rw [fv, ← hB] at HVW
          have HBB := Lib.hid hB
          have HSS := Lib.hid hSS
          clear hb8 hb9 ho9 hsl9 hb79 hm7 hB hSS fv fl fz fm HIM HSD
          go_wp2_with fail
          refine HLF.out.mono ?_
          rintro e w' ⟨rfl, rfl⟩
          go_wp2_with fail
          refine (HIMG.out _ HB79.out).mono ?_
          rintro e w10 ⟨⟨v10, rfl, ho10⟩, hb10⟩
          obtain ⟨g10, c10, rfl, hsl10⟩ := rbytes_out ho10 hBl (by omega)
          have hcv10 := conv_sl (64 * n) c10 hBl hsl10
          rw [← HSS.out] at hcv10
          have HB710 := Lib.hid (Below.and HB79.out hb10)
          clear ho10 hsl10 hb10 HLF HIMG
          go_wp2_with fail
          refine (HVW.out _ HB710.out).mono ?_
          rintro e w11 ⟨⟨v11, rfl, ho11⟩, hb11⟩
          obtain ⟨g11, c11, rfl, hsl11⟩ := rbytes_out ho11 hBl (by omega)
          have hcv11 := conv_sl (64 * n) c11 hBl hsl11
          rw [← HSS.out] at hcv11
          have HB711 := Lib.hid (Below.and HB710.out hb11)
          clear ho11 hsl11 hb11 HVW
          go_wp2_with fail
          refine (HLN9.out _ HB711.out).mono ?_
          rintro e w12 ⟨rfl, hb12⟩
          have HB712 := Lib.hid (Below.and HB711.out hb12)
          clear hb12 HLN9
          go_wp2_with fail
          refine (k10_any _).mono ?_
          rintro e w13 ⟨rfl, hb13⟩
          have HF := Lib.hid (show Below w.heap.size w w13 from Below.and (Below.and (Below.and HW6.out.low HB7.out) HB712.out) hb13)
          clear hb13
          go_wp2
          go_ret
          exact ⟨rfl, HF.out⟩
end Go.Proofs.Ytgapncamnmngeaa
