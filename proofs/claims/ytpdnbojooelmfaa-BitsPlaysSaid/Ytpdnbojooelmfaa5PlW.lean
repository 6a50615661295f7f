/- BitsPlays: the walk of its body. -/
import Derived.Test.Ytpdnbojooelmfaa5Pl
import Derived.Test.YtpdnbojooelmfaaBTkE
namespace Go.Proofs.Ytpdnbojooelmfaa
open Go Go.RowKit
set_option linter.unusedVariables false
theorem rda_rdsa {w : World} {A : Option Addr} {n c : Nat} {la : List Nat} (h : RdA w (.slice A n c) la) : RdsA w (.slice A n c) (la.map wv) := by
  rcases h with ⟨h1, h2⟩ | ⟨x, c', h1, h2⟩
  · exact .inl ⟨h1, by rw [h2]; rfl⟩
  · refine .inr ⟨x, c', by rw [h1]; simp, fun j u hu => ?_⟩
    rw [List.getElem?_map] at hu
    cases e : la[j]? with
    | none => rw [e] at hu; cases hu
    | some a => rw [e] at hu; cases hu; exact h2 j a e
/-- The slice that the law wrote over, beside the pair. -/
def OwnB (w0 w : World) (g : Nat) (v : Value) (gs : Nat) (vL vo : Value) (n : Nat) : Prop :=
  (∃ lo, Adr w vo lo ∧ lo.length = n) ∧ ∀ k, vo.ownBlock = some k → w0.heap.size ≤ k ∧ ¬ ffp g v k ∧ k ≠ gs ∧ vL.ownBlock ≠ some k
theorem own_put5 {w0 w w' : World} {g gs n : Nat} {v vL vo : Value} {Ls L : List Nat} {a : Nat} (h : PK w0 w g v Ls gs vL L) (ho : OwnB w0 w g v gs vL vo n) (hl : AdLeft w w0.heap.size gs (putD L a) w' ∨ (putD L a = L ∧ w = w')) :
    ∃ vL', PK w0 w' g v Ls gs vL' (putD L a) ∧ OwnB w0 w' g v gs vL' vo n := by
  rcases hl with hl | ⟨e, rfl⟩
  · obtain ⟨vL', hd, hn, hb⟩ := id hl
    obtain ⟨⟨lo, ha, hlo⟩, hsep⟩ := ho
    refine ⟨vL', ?_, ⟨lo, ha.keep hb (fun k hk e => (hsep k hk).2.2.1 e), hlo⟩, fun k hk => ⟨(hsep k hk).1, (hsep k hk).2.1, (hsep k hk).2.2.1, fun e => ?_⟩⟩
    · refine ⟨h.set.keep hb (fun k hk e => (h.sep k hk).1 e), hd, h.fpn, h.gsn, fun k hk => ⟨(h.sep k hk).1, fun e => ?_⟩, Below.trans h.bel (hb.below h.bel.size fun k hk => by rw [hk]; exact h.gsn)⟩
      have := hn k e
      have := h.set.fp hk
      omega
    · have := hn k e
      have := ha.lt hk
      omega
  · exact ⟨vL, by rw [e]; exact h, ho⟩
theorem own_set5 {w0 w : World} {g gs n b off cp : Nat} {v vL : Value} {Ls L : List Nat} (h : PK w0 w g v Ls gs vL L) (ho : OwnB w0 w g v gs vL (.slice (some ⟨b, off, none⟩) n cp) n) {i : Nat} (hi : i < n) :
    (∃ x, w.cell? ⟨b, off + i, none⟩ = some x) ∧ w.frozen? ⟨b, off + i, none⟩ = false ∧ PK w0 (w.setCell ⟨b, off + i, none⟩ (.int .u64 7)) g v Ls gs vL L ∧ OwnB w0 (w.setCell ⟨b, off + i, none⟩ (.int .u64 7)) g v gs vL (.slice (some ⟨b, off, none⟩) n cp) n := by
  obtain ⟨⟨lo, ha, hlo⟩, hsep⟩ := ho
  have hs := hsep b rfl
  refine ⟨⟨_, ha.cell (i := i) (by omega)⟩, ha.free i, h.but (fp := fun k => k = b) (But.set (fp := fun k => k = b) (But.refl _ _) rfl _) (fun k hk => by subst hk; exact hs), ⟨lo.set i 7, ha.set (i := i) (by omega) 7, by simp [hlo]⟩, hsep⟩
theorem pk_start {w w1 w2 : World} {g : Nat} {v : Value} {s : List Nat} (h1 : Below w.heap.size w w1) (hs : SetAt w2 g s v) (hn : ∀ k, ffp g v k → w1.heap.size ≤ k) (h2 : Below w1.heap.size w1 w2) :
    PK w (w2.alloc (.cells #[.slice none 0 0] 29)) g v s w2.heap.size (.slice none 0 0) [] := by
  have e1 := h1.size
  have e2 := h2.size
  refine ⟨hs.below (alloc_below _ _), ⟨Row.new _ _ _, World.ownsRow_nil _ _ _ _⟩, fun k hk => Nat.le_trans e1 (hn k hk), by omega, fun k hk => ⟨?_, fun e => by cases e⟩, Below.and (Below.and h1 h2) (alloc_below _ _)⟩
  have := hs.fp hk
  omega
set_option maxRecDepth 100000 in
set_option maxHeartbeats 16000000 in
theorem bitsPlays_in {w : World} {A A2 : Option Addr} {n c n2 c2 : Nat} {la : List Nat} {l : List Ac5} (hA : RdA w (.slice A n c) la) (hn : la.length = n) (h100 : n ≤ 100) (hB : 0 < l.length → ∃ ga, A2 = some ga ∧ Acts5At w ga l) (hl : l.length = n2) (h150 : n2 ≤ 150) :
    Calls Try.prog 3 #[.slice A n c, .slice A2 n2 c2] w fun e w' => e = .returned (.bool true) ∧ Below w.heap.size w w' := by
  have mixed : Try.prog.follows .mixedOrders = true := by kernel_rfl
  have d1 : decide (100 < (n : Int)) = false := by simp; omega
  have d2 : decide (150 < (n2 : Int)) = false := by simp; omega
  have HA := Lib.hid (And.intro hA hn)
  have HB := Lib.hid (And.intro hB hl)
  have HRD := Lib.hid (rda_rdsa hA)
  have HLN := Lib.hid (show (la.map wv).length = n by simp [hn])
  clear hA hn hB hl
  go_enter Try.func3, Try.ntmps3
  go_wp2_with (at_builtin; refine wpList_appA rfl _ _ rfl w.heap.size _ 0 [] rfl (World.ownsRow_nil _ _ _ _) _ _ rfl HRD.out (wv_one la) (by have := HLN.out; omega) (Nat.le_refl _) ?_)
  intro vo w1 hown hgrow
  have L1 : Below w.heap.size w w1 := (Below.refl _ w).grown hgrow (Nat.le_refl _) (fun q hq => by cases hq)
  rw [HA.out.2] at hown
  obtain ⟨hao, hko⟩ := Adr.of_own hown
  obtain ⟨Ao, co, hvo⟩ := hao.shape
  rw [HA.out.2] at hvo
  subst hvo
  have HAO := Lib.hid (And.intro hao hko)
  have HL1 := Lib.hid L1
  have HNF := Lib.hid (newFree_adr hao (by have := HA.out.2; omega))
  clear hown hgrow hao hko L1
  go_wp2_with fail
  refine HNF.out.mono ?_
  rintro e w2 ⟨s, hnd, hmem, hsl, g, v, rfl, hset, hfp, hb2⟩
  have HS := Lib.hid (And.intro hnd (And.intro hmem hsl))
  obtain ⟨w3, hw3⟩ : ∃ w3, w3 = w2.alloc (.cells #[.slice none 0 0] 29) := ⟨_, rfl⟩
  have hp3 := pk_start HL1.out hset hfp hb2
  have hown3 : OwnB w w3 g v w2.heap.size (.slice none 0 0) (.slice Ao n co) n := by
    rw [hw3]
    have ha2 := HAO.out.1.below hb2
    refine ⟨⟨la, ha2.below (alloc_below _ _), HA.out.2⟩, fun k hk => ⟨HAO.out.2 k hk, fun hf => ?_, ?_, fun e => by cases e⟩⟩
    · have h1 := hfp k hf
      have h2 := HAO.out.1.lt hk
      omega
    · have h2 := ha2.lt hk
      omega
  rw [← hw3] at hp3
  obtain ⟨gs, hgs⟩ : ∃ gs, gs = w2.heap.size := ⟨_, rfl⟩
  rw [← hgs] at hp3 hown3
  have HP3 := Lib.hid (And.intro hp3 hown3)
  have HW3 := Lib.hid hw3
  have HGS := Lib.hid hgs
  clear hnd hmem hsl hset hfp hb2 hp3 hown3 hw3 hgs HNF HAO
  go_wp2_with (rw [← HW3.out, ← HGS.out])
  (try rw [← HW3.out, ← HGS.out])
  go_loopw [8] (fun t wr => ∃ (i : Nat) (vL : Value) (Ld : List Nat), t = .int .i64 (i : Int) ∧ i ≤ n ∧ PK w wr g v s gs vL Ld ∧ OwnB w wr g v gs vL (.slice Ao n co) n ∧ Ld.Pairwise (· < ·) ∧ Ld.length ≤ i ∧ ∀ x, x ∈ Ld ↔ x ∈ la.take i ∧ x ≠ 0) (fun t _ => n - (intOf t).toNat)
  case atStart => exact ⟨0, _, [], rfl, Nat.zero_le _, HP3.out.1, HP3.out.2, List.Pairwise.nil, Nat.le_refl _, fun x => by simp⟩
  case round =>
    rename World => wr
    obtain ⟨i, vL, Ld, rfl, hi, hp, ho, hpw, hlen, hmem⟩ := hrel
    have HP := Lib.hid hp
    have HO := Lib.hid ho
    have HD := Lib.hid (And.intro hpw (And.intro hlen hmem))
    clear hp ho hpw hmem
    by_cases hlt : i < n
    · have hil : i < la.length := by rw [HA.out.2]; exact hlt
      obtain ⟨x, rfl, hnl, hc⟩ := (HA.out.1.below HP.out.bel).cell hil
      have HPU := Lib.hid (aPut_all HP.out.doc (by omega) HP.out.bel.size (gd la i))
      have HM2 := Lib.hid (show (putD Ld (gd la i)).Pairwise (· < ·) ∧ (putD Ld (gd la i)).length ≤ i + 1 ∧ ∀ x, x ∈ putD Ld (gd la i) ↔ x ∈ la.take (i + 1) ∧ x ≠ 0 from
        ⟨putD_lt HD.out.1 _, Nat.le_trans (putD_len _ _) (by omega), fun x => by
          rw [putD_mem, HD.out.2.2 x, take_mem_succ hil]
          constructor
          · rintro (⟨a, b⟩ | ⟨rfl, b⟩)
            · exact ⟨.inl a, b⟩
            · exact ⟨.inr rfl, b⟩
          · rintro ⟨a | a, b⟩
            · exact .inl ⟨a, b⟩
            · exact .inr ⟨a.symm, by rw [a]; exact b⟩⟩)
      obtain ⟨a, ha⟩ : ∃ a, a = gd la i := ⟨_, rfl⟩
      rw [← ha] at hc HPU HM2
      obtain ⟨b, off, cp, hvo, _, _⟩ := (show ∃ b off cp, Value.slice Ao n co = .slice (some ⟨b, off, none⟩) n cp ∧ n ≤ cp ∧ cp ≤ maxLen from by
        obtain ⟨⟨lo, h1, h2⟩, _⟩ := HO.out
        have := h1.pos (by omega)
        rw [h2] at this
        exact this)
      injection hvo with hvo1 hvo2 hvo3
      subst hvo1
      clear hvo2 hvo3
      have hiI : (i : Int) < (n : Int) := by omega
      obtain ⟨kq, hkq⟩ : ∃ kq : Int, kq = if a = 0 then 2 else 0 := ⟨_, rfl⟩
      rw [← hkq] at HPU
      unfold wv at hc HPU
      clear ha hnl hil hkq hlen
      go_wp2_with fail
      refine HPU.out.mono ?_
      rintro e w4 ⟨rfl, hl4⟩
      obtain ⟨vL', hp4, ho4⟩ := own_put5 HP.out HO.out hl4
      obtain ⟨⟨y, cy⟩, fy, hp5, ho5⟩ := own_set5 hp4 ho4 hlt
      have HP5 := Lib.hid (And.intro hp5 ho5)
      clear hl4 hp4 ho4 hp5 ho5 hc
      go_wp2
      exact ⟨⟨i + 1, vL', _, by go_num, by omega, HP5.out.1, HP5.out.2, HM2.out⟩, by simp [intOf]; omega⟩
    · obtain rfl : i = n := by omega
      have hii : decide ((i : Int) < (i : Int)) = false := by simp
      have hpe : s.Perm Ld := by
        rw [List.perm_ext_iff_of_nodup HS.out.1 (nodup_of_lt HD.out.1)]
        intro x
        rw [HS.out.2.1 x, HD.out.2.2 x, ← HA.out.2, List.take_length]
      have HPL := Lib.hid (show PK w wr g v Ld gs vL Ld from ⟨HP.out.set.perm hpe, HP.out.doc, HP.out.fpn, HP.out.gsn, HP.out.sep, HP.out.bel⟩)
      clear hpe HO HP HP3
      go_wp2
      go_loopw [6, 9] (fun t u wx => ∃ (j g : Nat) (v : Value) (L : List Nat) (vL : Value), t = .pointer (some ⟨g, 0, none⟩) ∧ u = .int .i64 (j : Int) ∧ j ≤ n2 ∧ PK w wx g v L gs vL L ∧ L.Pairwise (· < ·) ∧ L.length ≤ 100 + j) (fun _ u _ => n2 - (intOf u).toNat)
      case atStart => exact ⟨0, g, v, Ld, vL, rfl, rfl, Nat.zero_le _, HPL.out, HD.out.1, by omega⟩
      case round =>
        rename World => wx
        obtain ⟨j, g, v, L, vL, rfl, rfl, hj, hp, hpw, hlen⟩ := hrel
        have HP := Lib.hid hp
        have HW := Lib.hid hpw
        clear hp hpw
        by_cases hlt : j < n2
        · obtain ⟨ga, rfl, hAt⟩ := HB.out.1 (by rw [HB.out.2]; omega)
          have hAt' := hAt.below HP.out.bel
          have c0 := hAt'.c0 j (by rw [HB.out.2]; exact hlt)
          have c1 := hAt'.c1 j (by rw [HB.out.2]; exact hlt)
          generalize (ac5 l j).a = a at *
          generalize (ac5 l j).k = z at *
          have hjI : (j : Int) < (n2 : Int) := by omega
          clear hAt hAt'
          go_upto_block 3 with fail
          go_step
          go_step
          go_cut [10] from 56 to 60 (fun s10 wy => s10 = .int .u64 (a : Int) ∧ wy = wx)
          case first =>
            go_wp2_with fail
            go_meet
            exact ⟨rfl, rfl⟩
          obtain ⟨rfl, hww⟩ := hcut
          rename World => wxx
          subst hww
          go_step
          go_step
          go_cut [6, 11, 12, 13, 14, 15] from 61 to 115 (fun s6 _ _ _ _ _ wy => ∃ (g' : Nat) (v' : Value) (L' : List Nat) (vL' : Value), s6 = .pointer (some ⟨g', 0, none⟩) ∧ PK w wy g' v' L' gs vL' L' ∧ L'.Pairwise (· < ·) ∧ L'.length ≤ 100 + (j + 1))
          case first =>
            by_cases z1 : z = 1
            · subst z1
              have HF := fPut_pk HP.out (by omega) a
              have HD2 := Lib.hid (show (putD L a).Pairwise (· < ·) ∧ (putD L a).length ≤ 100 + (j + 1) from ⟨putD_lt HW.out a, Nat.le_trans (putD_len _ _) (by omega)⟩)
              have HAP := Lib.hid (fun (W : World) (v' : Value) (h : PK w W g v' (putD L a) gs vL L) => aPut_all h.doc (by omega) h.bel.size a)
              obtain ⟨kq, hkq⟩ : ∃ kq : Int, kq = if a = 0 then 2 else 0 := ⟨_, rfl⟩
              rw [← hkq] at HF HAP
              have hkk : (kq != kq) = false := by simp
              have HF := Lib.hid HF
              unfold wv at HF HAP
              clear hkq hlen
              go_wp2_with fail
              refine HF.out.mono ?_
              rintro e w4 ⟨rfl, v', hp4⟩
              have HP4 := Lib.hid hp4
              have HA4 := Lib.hid (HAP.out w4 v' hp4)
              clear hp4 c0 c1 HF
              go_wp2_with fail
              refine HA4.out.mono ?_
              rintro e w5 ⟨rfl, hl5⟩
              obtain ⟨vL', hp5⟩ := pk_put HP4.out hl5
              have HP5 := Lib.hid hp5
              clear hl5 hp5 HA4
              go_wp2_with fail
              go_meet
              exact ⟨g, v', _, vL', rfl, HP5.out, HD2.out⟩
            · by_cases z2 : z = 2
              · subst z2
                cases L with
                | nil =>
                  have HF := Lib.hid (take_none HP.out.set)
                  have HAT := Lib.hid (aTake_none HP.out.doc)
                  clear hlen
                  go_wp2_with fail
                  refine HF.out.mono ?_
                  rintro e w4 ⟨rfl, rfl⟩
                  go_wp2_with fail
                  refine HAT.out.mono ?_
                  rintro e w5 ⟨rfl, rfl⟩
                  go_wp2_with fail
                  go_meet
                  exact ⟨g, v, [], vL, rfl, HP.out, List.Pairwise.nil, by simp⟩
                | cons m t =>
                  have hpw := List.pairwise_cons.1 HW.out
                  have HF := take_any HP.out.set (by omega) (m := m) List.mem_cons_self (fun x hx => by
                    rcases List.mem_cons.1 hx with rfl | hx
                    · exact Nat.le_refl _
                    · exact Nat.le_of_lt (hpw.1 x hx))
                  rw [List.erase_cons_head] at HF
                  have HF := Lib.hid HF
                  have HAT := Lib.hid (fun (W : World) (v' : Value) (h : PK w W g v' t gs vL (m :: t)) => aTake_any h.doc (by simp at hlen; omega) h.bel.size)
                  have HD2 := Lib.hid (show t.Pairwise (· < ·) ∧ t.length ≤ 100 + (j + 1) from ⟨hpw.2, by simp at hlen; omega⟩)
                  have hmm : ((m : Int) != (m : Int)) = false := by simp
                  unfold wv at HF HAT
                  clear hlen hpw
                  go_wp2_with fail
                  refine HF.out.mono ?_
                  rintro e w4 ⟨rfl, hl4⟩
                  obtain ⟨v', hp4⟩ := pk_set HP.out hl4 (List.Perm.refl _)
                  have HP4 := Lib.hid hp4
                  have HA4 := Lib.hid (HAT.out w4 v' hp4)
                  clear hl4 hp4 c0 c1 HF
                  go_wp2_with fail
                  refine HA4.out.mono ?_
                  rintro e w5 ⟨rfl, hl5⟩
                  obtain ⟨vL', hp5⟩ := pk_doc HP4.out hl5
                  have HP5 := Lib.hid hp5
                  clear hl5 hp5 HA4
                  go_wp2_with fail
                  go_meet
                  exact ⟨g, v', t, vL', rfl, HP5.out, HD2.out⟩
              · by_cases z3 : z = 3
                · subst z3
                  have HF := drop_any HP.out.set (by omega) a
                  have he : L.erase a = L.filter (fun y => y != a) := (nodup_of_lt HW.out).erase_eq_filter a
                  rw [he] at HF
                  have HAD := Lib.hid (fun (W : World) (v' : Value) (h : PK w W g v' (L.filter (fun y => y != a)) gs vL L) => aDrop_any h.doc (by omega) h.bel.size a)
                  have HD2 := Lib.hid (show (L.filter (fun y => y != a)).Pairwise (· < ·) ∧ (L.filter (fun y => y != a)).length ≤ 100 + (j + 1) from ⟨HW.out.sublist List.filter_sublist, Nat.le_trans (List.length_filter_le _ _) (by omega)⟩)
                  obtain ⟨bb, hbb⟩ : ∃ bb, bb = decide (a ∈ L) := ⟨_, rfl⟩
                  rw [← hbb] at HF HAD
                  have hqq : (bb != bb) = false := by simp
                  have HF := Lib.hid HF
                  unfold wv at HF HAD
                  clear hbb hlen he
                  go_wp2_with fail
                  refine HF.out.mono ?_
                  rintro e w4 ⟨rfl, hl4⟩
                  obtain ⟨v', hp4⟩ := pk_set HP.out hl4 (List.Perm.refl _)
                  have HP4 := Lib.hid hp4
                  have HA4 := Lib.hid (HAD.out w4 v' hp4)
                  clear hl4 hp4 c0 c1 HF
                  go_wp2_with fail
                  refine HA4.out.mono ?_
                  rintro e w5 ⟨rfl, hl5⟩
                  obtain ⟨vL', hp5⟩ := pk_doc HP4.out hl5
                  have HP5 := Lib.hid hp5
                  clear hl5 hp5 HA4
                  go_wp2_with fail
                  go_meet
                  exact ⟨g, v', _, vL', rfl, HP5.out, HD2.out⟩
                · by_cases z5 : z = 5
                  · subst z5
                    have HC := Lib.hid (copy_any HP.out.set (by omega))
                    have HLEN := Lib.hid hlen
                    clear hlen
                    go_wp2_with fail
                    refine HC.out.mono ?_
                    rintro e w4 ⟨g2, v2, rfl, hs2, hn2', hb4⟩
                    obtain ⟨hpa4, hpk4⟩ := pa_of HP.out hs2 hn2' hb4
                    have HPA4 := Lib.hid (And.intro hpa4 hpk4)
                    have HT4 := Lib.hid (ftake_all hpk4.set (by have := HLEN.out; omega) HW.out)
                    clear hs2 hn2' hb4 hpa4 hpk4 HC c0 c1
                    go_wp2_with fail
                    refine HT4.out.mono ?_
                    rintro e w5 ⟨⟨x5, b5, rfl⟩, s5, hl5s, hl5⟩
                    obtain ⟨v5, hpa5, hpk5⟩ := HPA4.out.1.step HPA4.out.2 hl5
                    have HPA5 := Lib.hid (And.intro hpa5 hpk5)
                    have HF5 := fput_all hpk5.set (by have := HLEN.out; omega) a
                    unfold wv at HF5
                    have HF5 := Lib.hid HF5
                    clear hl5s hl5 hpa5 hpk5 HT4 HPA4
                    go_wp2_with fail
                    refine HF5.out.mono ?_
                    rintro e w6 ⟨⟨k6, rfl⟩, s6, hl6⟩
                    obtain ⟨v6, hpa6, _⟩ := HPA5.out.1.step HPA5.out.2 hl6
                    have HP6 := Lib.hid hpa6.out
                    clear hl6 hpa6 HF5 HPA5
                    go_wp2_with fail
                    go_meet
                    exact ⟨g2, v2, L, vL, rfl, HP6.out, HW.out, by have := HLEN.out; omega⟩
                  · have y1 : (z == 1) = false := by simpa using z1
                    have y2 : (z == 2) = false := by simpa using z2
                    have y3 : (z == 3) = false := by simpa using z3
                    have y5 : (z == 5) = false := by simpa using z5
                    have x1 : decide (z = 1) = false := by simpa using z1
                    have x2 : decide (z = 2) = false := by simpa using z2
                    have x3 : decide (z = 3) = false := by simpa using z3
                    have x5 : decide (z = 5) = false := by simpa using z5
                    have HLEN := Lib.hid hlen
                    clear hlen
                    go_wp2_with fail
                    go_meet
                    exact ⟨g, v, L, vL, rfl, HP.out, HW.out, by have := HLEN.out; omega⟩
          case rest =>
            obtain ⟨g', v', L', vL', rfl, hp', hpw', hlen'⟩ := hcut
            rename World => w3'
            clear c0 c1 HP HW hlen
            have HP := Lib.hid hp'
            have HW := Lib.hid hpw'
            have HLEN := Lib.hid hlen'
            have HAl := Lib.hid (all_adr hp'.set (by omega))
            clear hp' hpw' hlen'
            go_wp2_with fail
            refine HAl.out.mono ?_
            rintro e w4 ⟨va, l4, rfl, ha, hpm, hso, hk4, hb4⟩
            obtain rfl : l4 = L' := pw_ext5 (lt_of_le_nodup hso (hpm.nodup_iff.2 (nodup_of_lt HW.out))) HW.out (fun x => hpm.mem_iff)
            obtain ⟨aA, cA, hva⟩ := ha.shape
            subst hva
            have HP4 := Lib.hid (HP.out.below hb4)
            have HA4 := Lib.hid ha
            have HSEP := Lib.hid (show ∀ k, (Value.slice aA l4.length cA).ownBlock = some k → w.heap.size ≤ k ∧ ¬ ffp g' v' k ∧ k ≠ gs ∧ vL'.ownBlock ≠ some k from fun k hk => by
              have h1 := hk4 k hk
              have h2 := HP.out.doc.lt
              have h3 := HP.out.bel.size
              exact ⟨by omega, fun hf => by have := HP.out.set.fp hf; omega, by omega, fun e => by have := h2.2 k e; omega⟩)
            obtain ⟨AL, cL, hvL⟩ := HP4.out.doc.sl
            have HH := Lib.hid (fun p : LowBy w4 => Calls.low_of (has_any (HP4.out.below p.low).set (by have := HLEN.out; omega) a))
            have HAH := Lib.hid (fun p : LowBy w4 => Calls.low_of_same (aHas_any (HP4.out.below p.low).doc (by have := HLEN.out; omega) a))
            have HFL := Lib.hid (fun p : LowBy w4 => Calls.low_of_same (len_any (HP4.out.below p.low).set (by have := HLEN.out; omega)))
            have HSM := Lib.hid (fun p : LowBy w4 => Calls.low_of (r5Same_rd (RdA.of_adr (HA4.out.below p.low)) (HP4.out.below p.low).doc.rd (by have := HLEN.out; omega)))
            have cl := HP4.out.doc.c0
            rw [hvL] at cl HSM
            obtain ⟨bb, hbb⟩ : ∃ bb, bb = decide (a ∈ l4) := ⟨_, rfl⟩
            obtain ⟨Nl, hNl⟩ : ∃ Nl, Nl = l4.length := ⟨_, rfl⟩
            rw [← hbb] at HH HAH
            rw [← hNl] at HFL HSM cl HSEP
            rw [← hNl]
            have HNL := Lib.hid hNl
            have hNb : Nl ≤ 300 := by have := HLEN.out; omega
            have xl := fun p : LowBy w4 => LowBy.cell cl p
            have hqq : (bb != bb) = false := by simp
            have hnn : ((Nl : Int) != (Nl : Int)) = false := by simp
            unfold wv at HH HAH
            clear ha hpm hso hk4 hb4 hvL hbb hNl cl HAl
            go_upto_region 37 with (fail)
            refine wp_region_quiet_low (by assumption) (by kernel_rfl) ?_
            repeat (first | go_big_quiet_skip | (go_big_quiet_want; go_big_quiet_op; first | go_big_quiet_on | go_big_quiet_call (first | (go_at_call 15; with_reducible exact HH.out _) | (go_at_call 16; with_reducible exact HAH.out _) | (go_at_call 17; with_reducible exact HFL.out _) | (go_at_call 18; with_reducible exact HSM.out _))))
            refine wpQuiet_nil ?_
            intro _ hw'
            obtain ⟨p, hw''⟩ := hw'
            subst hw''
            have HP5 := Lib.hid (HP4.out.below p.low)
            have HA5 := Lib.hid (show ∃ lo, Adr p.W (.slice aA Nl cA) lo ∧ lo.length = Nl from ⟨l4, by rw [HNL.out]; exact HA4.out.below p.low, HNL.out.symm⟩)
            generalize p.W = w5 at *
            clear xl HH HAH HFL HSM HP4 HA4
            go_wp2
            go_loopw [17] (fun t wy => ∃ k : Nat, t = .int .i64 (k : Int) ∧ k ≤ Nl ∧ (∃ lo, Adr wy (.slice aA Nl cA) lo ∧ lo.length = Nl) ∧ But w5 wy (fun k => (Value.slice aA Nl cA).ownBlock = some k)) (fun t _ => Nl - (intOf t).toNat)
            case atStart => exact ⟨0, rfl, Nat.zero_le _, HA5.out, But.refl _ _⟩
            case round =>
              rename World => wy
              obtain ⟨k, rfl, hk, hlo, hby⟩ := hrel
              have HLO := Lib.hid hlo
              have HBY := Lib.hid hby
              clear hlo hby
              by_cases hlt : k < Nl
              · obtain ⟨lo, hlo1, hlo2⟩ := HLO.out
                obtain ⟨b, off, cp, hv1, _, _⟩ := hlo1.pos (by omega)
                rw [hlo2] at hv1
                injection hv1 with hv1 hv2 hv3
                clear hv2 hv3
                subst hv1
                have cy := hlo1.cell (i := k) (by omega)
                have fy := hlo1.free k
                have HLO2 := Lib.hid (show ∃ lo', Adr (wy.setCell ⟨b, off + k, none⟩ (.int .u64 3)) (.slice (some ⟨b, off, none⟩) Nl cA) lo' ∧ lo'.length = Nl from ⟨lo.set k 3, hlo1.set (i := k) (by omega) 3, by simp [hlo2]⟩)
                have HBY2 := Lib.hid (But.set (fp := fun k => (Value.slice (some ⟨b, off, none⟩) Nl cA).ownBlock = some k) (p := ⟨b, off + k, none⟩) HBY.out rfl (.int .u64 3))
                have hkI : (k : Int) < (Nl : Int) := by omega
                clear hlo1 hlo2
                go_wp2
                exact ⟨⟨k + 1, by go_num, by omega, HLO2.out, HBY2.out⟩, by simp [intOf]; omega⟩
              · obtain rfl : k = Nl := by omega
                have hkk : decide ((k : Int) < (k : Int)) = false := by simp
                have HP6 := Lib.hid (HP5.out.but HBY.out HSEP.out)
                go_wp2
                exact ⟨⟨j + 1, g', v', l4, vL', rfl, by go_num, by omega, HP6.out, HW.out, HLEN.out⟩, by simp [intOf]; omega⟩
        · obtain rfl : j = n2 := by omega
          have hjj : decide ((j : Int) < (j : Int)) = false := by simp
          obtain ⟨AL, cL, hvL⟩ := HP.out.doc.sl
          have cl := HP.out.doc.c0
          rw [hvL] at cl
          have HVL := Lib.hid hvL
          have STAY := Lib.hid fun W' (hb : Below wx.heap.size wx W') => And.intro ((hb.cell (p := ⟨gs, 0, none⟩) (wx.block_lt_of_cell? _ cl)).trans cl) hb
          have HAl := Lib.hid (fun W' (hb : Below wx.heap.size wx W') => all_adr (HP.out.below hb).set (by omega))
          obtain ⟨Nl, hNl⟩ : ∃ Nl, Nl = L.length := ⟨_, rfl⟩
          rw [← hNl] at STAY cl
          have HNL := Lib.hid hNl
          clear hvL hNl
          go_upto_region 43 with (fail)
          refine wp_region_noPanic ?_
          refine wp_region_held_drew (S := fun W' => W'.cell? ⟨gs, 0, none⟩ = some (.slice AL Nl cL) ∧ Below wx.heap.size wx W') (by kernel_rfl) (STAY.out _ (drew_below _)) (fun hHeld => ?_)
          refine wpAnyH_take (i := 0) (oi := ⟨some 153, _, _, _, _, _⟩) (v := .pointer (some ⟨g, 0, none⟩)) rfl (by kernel_rfl) (by kernel_rfl) (by kernel_rfl) (fun _ _ _ h => h) (Or.inl ⟨by kernel_rfl, by intro WW hSw; (try dsimp only at hSw); obtain ⟨hS1, hS2⟩ := hSw; go_simp⟩) (by assumption) ?_
          (try simp only [Act.put, List.setIfInBounds_toArray, List.set_cons_zero, List.set_cons_succ])
          refine wpAnyH_take (i := 2) (oi := ⟨some 155, _, _, _, _, _⟩) (v := .pointer (some ⟨gs, 0, none⟩)) rfl (by kernel_rfl) (by kernel_rfl) (by kernel_rfl) (fun _ _ _ h => h) (Or.inl ⟨by kernel_rfl, by intro WW hSw; (try dsimp only at hSw); obtain ⟨hS1, hS2⟩ := hSw; go_simp⟩) (by assumption) ?_
          (try simp only [Act.put, List.setIfInBounds_toArray, List.set_cons_zero, List.set_cons_succ])
          refine wpAnyH_take (i := 3) (oi := ⟨some 156, _, _, _, _, _⟩) (v := .pointer (some ⟨gs, 0, none⟩)) rfl (by kernel_rfl) (by kernel_rfl) (by kernel_rfl) (fun _ _ _ h => h) (Or.inl ⟨by kernel_rfl, by intro WW hSw; (try dsimp only at hSw); obtain ⟨hS1, hS2⟩ := hSw; go_simp⟩) (by assumption) ?_
          (try simp only [Act.put, List.setIfInBounds_toArray, List.set_cons_zero, List.set_cons_succ])
          refine wpAnyH_take (i := 4) (oi := ⟨some 157, _, _, _, _, _⟩) (v := .pointer (some ⟨gs, 0, none⟩)) rfl (by kernel_rfl) (by kernel_rfl) (by kernel_rfl) (fun _ _ _ h => h) (Or.inl ⟨by kernel_rfl, by intro WW hSw; (try dsimp only at hSw); obtain ⟨hS1, hS2⟩ := hSw; go_simp⟩) (by assumption) ?_
          (try simp only [Act.put, List.setIfInBounds_toArray, List.set_cons_zero, List.set_cons_succ])
          refine wpAnyH_take (i := 5) (oi := ⟨some 158, _, _, _, _, _⟩) (v := .slice AL Nl cL) rfl (by kernel_rfl) (by kernel_rfl) (by kernel_rfl) (fun _ _ _ h => h) (Or.inl ⟨by kernel_rfl, by intro WW hSw; (try dsimp only at hSw); obtain ⟨hS1, hS2⟩ := hSw; go_simp⟩) (by assumption) ?_
          (try simp only [Act.put, List.setIfInBounds_toArray, List.set_cons_zero, List.set_cons_succ])
          refine wpAnyH_ready (rs := [1]) (by kernel_rfl) (by simp) ?_
          refine AllReadyH.cons rfl (fun K hK => ?_) AllReadyH.nil
          go_simp
          refine (HAl.out _ (drew_below _)).mono ?_
          rintro e w4 ⟨va, l4, rfl, ha, hpm, hso, hk4, hb4⟩
          obtain rfl : l4 = L := pw_ext5 (lt_of_le_nodup hso (hpm.nodup_iff.2 (nodup_of_lt HW.out))) HW.out (fun x => hpm.mem_iff)
          have L4 : Below wx.heap.size wx w4 := Below.and (drew_below wx) hb4
          have HP4 := Lib.hid (HP.out.below L4)
          have HL4 := Lib.hid L4
          have HSM := r5Same_rd (RdA.of_adr ha) HP4.out.doc.rd (by omega)
          rw [HVL.out, ← HNL.out] at HSM
          have HSM := Lib.hid HSM
          obtain ⟨aA, cA, hva⟩ := ha.shape
          subst hva
          refine hK.out _ _ (STAY.out _ L4) (fun hHeld => ?_)
          clear hK K ha hpm hso hk4 hb4
          (try simp only [Act.put, List.setIfInBounds_toArray, List.set_cons_zero, List.set_cons_succ])
          refine wpAnyH_ready (rs := [6]) (by kernel_rfl) (by simp) ?_
          refine AllReadyH.cons rfl (fun K hK => ?_) AllReadyH.nil
          go_simp
          refine HSM.out.mono ?_
          rintro e w5 ⟨rfl, hb5⟩
          have HP5 := Lib.hid (HP4.out.below hb5)
          have L5 := Below.and HL4.out hb5
          have HL5 := Lib.hid L5
          refine hK.out _ _ (STAY.out _ L5) (fun hHeld => ?_)
          clear hK K hb5
          (try simp only [Act.put, List.setIfInBounds_toArray, List.set_cons_zero, List.set_cons_succ])
          refine wpAnyH_take (i := 7) (oi := ⟨some 160, _, _, _, _, _⟩) (v := .bool true) rfl (by kernel_rfl) (by kernel_rfl) (by kernel_rfl) (fun _ _ _ h => h) (Or.inl ⟨by kernel_rfl, by intro WW hSw; (try dsimp only at hSw); obtain ⟨hS1, hS2⟩ := hSw; go_simp⟩) (by assumption) ?_
          (try simp only [Act.put, List.setIfInBounds_toArray, List.set_cons_zero, List.set_cons_succ])
          refine wpAnyH_ready (rs := [8]) (by kernel_rfl) (by simp) ?_
          refine AllReadyH.cons rfl (fun K hK => ?_) AllReadyH.nil
          go_simp
          refine (known5_any w5).mono ?_
          rintro e w6 ⟨rfl, hb6⟩
          have HP6 := Lib.hid (HP5.out.below hb6).bel
          refine hK.out _ _ (STAY.out _ (Below.and HL5.out hb6)) (fun hHeld => ?_)
          clear hK K hb6
          (try simp only [Act.put, List.setIfInBounds_toArray, List.set_cons_zero, List.set_cons_succ])
          refine wpAnyH_take (i := 9) (oi := ⟨some 162, _, _, _, _, _⟩) (v := .bool true) rfl (by kernel_rfl) (by kernel_rfl) (by kernel_rfl) (fun _ _ _ h => h) (Or.inl ⟨by kernel_rfl, by intro WW hSw; (try dsimp only at hSw); obtain ⟨hS1, hS2⟩ := hSw; go_simp⟩) (by assumption) ?_
          (try simp only [Act.put, List.setIfInBounds_toArray, List.set_cons_zero, List.set_cons_succ])
          refine wpAnyH_take (i := 10) (oi := ⟨some 4, _, _, _, _, _⟩) (v := .bool true) rfl (by kernel_rfl) (by kernel_rfl) (by kernel_rfl) (fun _ _ _ h => h) (Or.inl ⟨by kernel_rfl, by intro WW hSw; (try dsimp only at hSw); obtain ⟨hS1, hS2⟩ := hSw; go_simp⟩) (by assumption) ?_
          (try simp only [Act.put, List.setIfInBounds_toArray, List.set_cons_zero, List.set_cons_succ])
          refine wpAnyH_done (by kernel_rfl) ?_ _
          go_wp2_with fail
          (try (refine (‹∀ (a : Act) (w : World), Code.wp Try.prog _ _ a w → _›) _ _ ?_; go_wp2_with fail))
          go_ret
          exact ⟨rfl, HP6.out⟩
end Go.Proofs.Ytpdnbojooelmfaa
