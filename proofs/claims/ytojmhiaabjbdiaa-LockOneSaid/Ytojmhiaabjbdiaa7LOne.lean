/- LockOne returns true, whatever the numbers and the acts: the walk of its body. -/
import Derived.Test.Ytojmhiaabjbdiaa7LOne0
namespace Go.Proofs.Ytojmhiaabjbdiaa
open Go.RowKit
set_option linter.unusedVariables false
/-- The table, and the box that holds the act. -/
structure OB (w : World) (g b bx : Nat) (ak ac : Int) (id : Nat) (s : Lk) (wx : World) : Prop where
  own : OwnK w wx g b s
  box : Row wx bx 36 #[.int .i64 ak, .int .i64 ac, .int .u64 (id : Int)]
  ng : bx ≠ g
  nb : bx ≠ b
theorem OB.turn {w : World} {g b bx : Nat} {ak ac : Int} {id : Nat} {s s' : Lk} {w1 w2 : World} (h : OB w g b bx ak ac id s w1) (hk : KAt w2 g b s') (hb : But w1 w2 (kfp g b)) : OB w g b bx ak ac id s' w2 :=
  ⟨h.own.turn hk hb, (hb.block _ h.box.lt (by rintro (e | e); exact h.ng e; exact h.nb e)).trans h.box, h.ng, h.nb⟩
theorem OB.c0 {w : World} {g b bx : Nat} {ak ac : Int} {id : Nat} {s : Lk} {wx : World} (h : OB w g b bx ak ac id s wx) : wx.cell? ⟨bx, 0, none⟩ = some (.int .i64 ak) := h.box.cell 0
theorem OB.c1 {w : World} {g b bx : Nat} {ak ac : Int} {id : Nat} {s : Lk} {wx : World} (h : OB w g b bx ak ac id s wx) : wx.cell? ⟨bx, 1, none⟩ = some (.int .i64 ac) := h.box.cell 1
theorem OB.c2 {w : World} {g b bx : Nat} {ak ac : Int} {id : Nat} {s : Lk} {wx : World} (h : OB w g b bx ak ac id s wx) : wx.cell? ⟨bx, 2, none⟩ = some (.int .u64 (id : Int)) := h.box.cell 2
set_option maxRecDepth 100000 in
set_option maxHeartbeats 8000000 in
theorem lockOne_in {w : World} {A : Option Addr} {n cap N : Nat} {l : List Ac} (hA : 0 < l.length → ∃ ga, A = some ga ∧ ActsAt w ga l) (hl : l.length = n) (h100 : n ≤ 100) (hcap : n ≤ cap) (h1 : 1 ≤ N) (h8 : N ≤ 8) : Calls Try.prog 4 #[.int .i64 (N : Int), .slice A n cap] w (LawEnd w) := by
  have d1 : decide (100 < (n : Int)) = false := by simp; omega
  have d2 : decide (8 < (N : Int)) = false := by simp; omega
  have HA := Lib.hid hA
  have HL := Lib.hid hl
  clear hA hl
  go_enter Try.func4, Try.ntmps4
  go_wp2_with fail
  refine (knew_yes (n := N) w h1 (by omega)).mono ?_
  rintro e w1 ⟨g, b, rfl, hK, hg, hb, hB⟩
  have HO := Lib.hid (show OwnK w w1 g b (lk0 N) from ⟨hK, hg, hb, hB⟩)
  clear hK hg hb hB
  go_wp2
  go_loopg [7] n (fun k v wr => O1 w g b N n k v wr)
  case atStart => exact ⟨0, lk0 N, rfl, by omega, by omega, rfl, Nat.zero_le _, HO.out⟩
  case round =>
    obtain ⟨i, s, rfl, hin, hk, hsn, hsz, hO⟩ := hrel
    have HO1 := Lib.hid hO
    clear hO
    by_cases hlt : i < n
    · obtain ⟨ga, rfl, hAt⟩ := HA.out (by rw [HL.out]; omega)
      have hAt' := hAt.below HO1.out.bel
      have c0 := hAt'.c0 i (by rw [HL.out]; exact hlt)
      have c1 := hAt'.c1 i (by rw [HL.out]; exact hlt)
      have c2 := hAt'.c2 i (by rw [HL.out]; exact hlt)
      have hfit := hAt'.fit i (by rw [HL.out]; exact hlt)
      generalize (acAt l i).id = id at *
      generalize (acAt l i).c = ac at *
      generalize (acAt l i).k = ak at *
      have HF := Lib.hid hfit
      clear hAt hAt' hfit
      have HOB := Lib.hid (show OB w g b wr.heap.size ak ac id s (wr.alloc (.cells #[.int .i64 ak, .int .i64 ac, .int .u64 (id : Int)] 36)) from
        ⟨HO1.out.below (alloc_below _ _), Row.new _ _ _, by have := HO1.out.at_.row.lt; omega, by have := HO1.out.at_.mp.lt; omega⟩)
      have HE := Lib.hid (try_cases HO1.out.at_.ok ac id)
      have HR := Lib.hid (rel_cases HO1.out.at_.ok ac id)
      go_upto_region 11 with (refine (holder_any HOB.out.own.at_ HF.out).mono ?_; rintro e w2 ⟨rfl, rfl⟩)
      generalize wr.heap.size = bx at *
      obtain ⟨v9, h9⟩ : ∃ v9, v9 = hV (s.hm id) := ⟨_, rfl⟩
      obtain ⟨b10, h10⟩ : ∃ b10, b10 = (s.hm id).isSome := ⟨_, rfl⟩
      rw [← h9, ← h10]
      have H9 := Lib.hid h9
      have H10 := Lib.hid h10
      clear h9 h10
      obtain ⟨b75, hb75⟩ : ∃ b75, b75 = decide (ak = 1) := ⟨_, rfl⟩
      have HB75 := Lib.hid hb75
      clear hb75
      have c0 := HOB.out.c0
      generalize wr.alloc (.cells #[.int .i64 ak, .int .i64 ac, .int .u64 (id : Int)] 36) = wB at *
      go_cut [75] (fun s75 wx => s75 = .bool b75 ∧ OB w g b bx ak ac id s wx)
      case first =>
        go_wp2_with fail
        go_meet
        exact ⟨by rw [HB75.out]; rfl, HOB.out⟩
      case rest =>
        obtain ⟨rfl, hOB⟩ := hcut
        clear c0 HOB
        have HOB := Lib.hid hOB
        clear hOB
        rename World => w3
        go_upto_if 75 with (fail)
        go_cut [11, 12, 13] (fun s11 s12 s13 wx => ∃ s', OB w g b bx ak ac id s' wx ∧ s'.n = N ∧ s'.sz ≤ i + 1 ∧ (b75 = false → s' = s))
        case first =>
          cases b75 with
          | false =>
            go_wp2_with fail
            go_meet
            exact ⟨s, HOB.out, hsn, by omega, fun _ => rfl⟩
          | true =>
            have HTR := try_all HOB.out.own.at_ ac HF.out (by omega)
            have hn' := tryT_n s ac id
            have hz' := tryT_sz s ac id
            have HE' := HE.out
            clear HR HE
            generalize tryT s ac id = s' at *
            have c1 := HOB.out.c1
            have c2 := HOB.out.c2
            rcases HE' with ⟨k, rfl, er, e', e | e⟩ | ⟨er, e, e'⟩ | ⟨k, er, e, e'⟩
            · obtain rfl : v9 = .int .i64 0 := by rw [H9.out, e]; rfl
              obtain rfl : b10 = false := by rw [H10.out, e]; rfl
              rw [er] at HTR
              have HTR' := Lib.hid HTR
              have HP := Lib.hid e'
              clear HTR e' e er
              go_wp2_with fail
              refine HTR'.out.mono ?_
              rintro e w4 ⟨rfl, hK, hB⟩
              have HOB4 := Lib.hid (HOB.out.turn hK hB)
              clear hK hB c1 c2
              have c1 := HOB4.out.c1
              have c2 := HOB4.out.c2
              have HHo := holder_any HOB4.out.own.at_ HF.out
              rw [HP.out] at HHo
              have HHO := Lib.hid HHo
              clear HHo
              go_wp2_with fail
              refine HHO.out.mono ?_
              rintro e w5 ⟨rfl, rfl⟩
              simp only [hV_some, hV_none, Option.isSome_some, Option.isSome_none]
              go_wp2_with fail
              go_meet
              exact ⟨s', HOB4.out, by omega, by omega, fun h => by cases h⟩
            · obtain rfl : v9 = .int .i64 (k : Int) := by rw [H9.out, e]; rfl
              obtain rfl : b10 = true := by rw [H10.out, e]; rfl
              rw [er] at HTR
              have HTR' := Lib.hid HTR
              have HP := Lib.hid e'
              clear HTR e' e er
              go_wp2_with fail
              refine HTR'.out.mono ?_
              rintro e w4 ⟨rfl, hK, hB⟩
              have HOB4 := Lib.hid (HOB.out.turn hK hB)
              clear hK hB c1 c2
              have c1 := HOB4.out.c1
              have c2 := HOB4.out.c2
              have HHo := holder_any HOB4.out.own.at_ HF.out
              rw [HP.out] at HHo
              have HHO := Lib.hid HHo
              clear HHo
              go_wp2_with fail
              refine HHO.out.mono ?_
              rintro e w5 ⟨rfl, rfl⟩
              simp only [hV_some, hV_none, Option.isSome_some, Option.isSome_none]
              go_wp2_with fail
              go_meet
              exact ⟨s', HOB4.out, by omega, by omega, fun h => by cases h⟩
            · obtain rfl : v9 = .int .i64 0 := by rw [H9.out, e]; rfl
              obtain rfl : b10 = false := by rw [H10.out, e]; rfl
              rw [er] at HTR
              have HTR' := Lib.hid HTR
              have HP := Lib.hid e'
              clear HTR e' e er
              go_wp2_with fail
              refine HTR'.out.mono ?_
              rintro e w4 ⟨rfl, hK, hB⟩
              have HOB4 := Lib.hid (HOB.out.turn hK hB)
              clear hK hB c1 c2
              have c1 := HOB4.out.c1
              have c2 := HOB4.out.c2
              have HHo := holder_any HOB4.out.own.at_ HF.out
              rw [HP.out] at HHo
              have HHO := Lib.hid HHo
              clear HHo
              go_wp2_with fail
              refine HHO.out.mono ?_
              rintro e w5 ⟨rfl, rfl⟩
              simp only [hV_some, hV_none, Option.isSome_some, Option.isSome_none]
              go_wp2_with fail
              go_meet
              exact ⟨s', HOB4.out, by omega, by omega, fun h => by cases h⟩
            · obtain rfl : v9 = .int .i64 (k : Int) := by rw [H9.out, e]; rfl
              obtain rfl : b10 = true := by rw [H10.out, e]; rfl
              rw [er] at HTR
              have HTR' := Lib.hid HTR
              have HP := Lib.hid e'
              clear HTR e' e er
              go_wp2_with fail
              refine HTR'.out.mono ?_
              rintro e w4 ⟨rfl, hK, hB⟩
              have HOB4 := Lib.hid (HOB.out.turn hK hB)
              clear hK hB c1 c2
              have c1 := HOB4.out.c1
              have c2 := HOB4.out.c2
              have HHo := holder_any HOB4.out.own.at_ HF.out
              rw [HP.out] at HHo
              have HHO := Lib.hid HHo
              clear HHo
              go_wp2_with fail
              refine HHO.out.mono ?_
              rintro e w5 ⟨rfl, rfl⟩
              simp only [hV_some, hV_none, Option.isSome_some, Option.isSome_none]
              go_wp2_with fail
              go_meet
              exact ⟨s', HOB4.out, by omega, by omega, fun h => by cases h⟩
        case rest =>
          obtain ⟨s', hOB, hn', hz', hss⟩ := hcut
          clear HE HOB
          have HOB := Lib.hid hOB
          have HSS := Lib.hid hss
          clear hOB hss
          rename World => w4
          go_upto_region 16 with (fail)
          go_cut [139] (fun s139 wx => s139 = .bool false ∧ ∃ s', s'.n = N ∧ s'.sz ≤ i + 1 ∧ OwnK w wx g b s')
          case first =>
            have c0 := HOB.out.c0
            have c1 := HOB.out.c1
            have c2 := HOB.out.c2
            by_cases a2 : ak = 2
            · subst a2
              obtain rfl : b75 = false := by rw [HB75.out]; rfl
              obtain rfl := HSS.out rfl
              have HRL := rel_all HOB.out.own.at_ ac HF.out
              have hn2 := relT_n s' ac id
              have hz2 := relT_sz s' ac id
              have HR' := HR.out
              clear HR
              generalize relT s' ac id = s2 at *
              rcases HR' with ⟨er, e⟩ | ⟨h, e, er⟩
              · obtain rfl : v9 = .int .i64 0 := by rw [H9.out, e]; rfl
                obtain rfl : b10 = false := by rw [H10.out, e]; rfl
                rw [er] at HRL
                have HRL' := Lib.hid HRL
                clear HRL e er
                go_wp2_with fail
                refine HRL'.out.mono ?_
                rintro e w5 ⟨rfl, hK, hB⟩
                have HOB5 := Lib.hid (HOB.out.turn hK hB)
                clear hK hB c0 c1 c2
                have c1 := HOB5.out.c1
                go_wp2_with fail
                go_meet
                exact ⟨rfl, s2, by omega, by omega, HOB5.out.own⟩
              · obtain rfl : v9 = .int .i64 (h : Int) := by rw [H9.out, e]; rfl
                obtain rfl : b10 = true := by rw [H10.out, e]; rfl
                by_cases hac : (h : Int) = ac
                · subst hac
                  rw [er, show ((h : Int) == (h : Int)) = true from by simp] at HRL
                  have HRL' := Lib.hid HRL
                  clear HRL e er
                  go_wp2_with fail
                  refine HRL'.out.mono ?_
                  rintro e w5 ⟨rfl, hK, hB⟩
                  have HOB5 := Lib.hid (HOB.out.turn hK hB)
                  clear hK hB c0 c1 c2
                  have c1 := HOB5.out.c1
                  go_wp2_with fail
                  go_meet
                  exact ⟨rfl, s2, by omega, by omega, HOB5.out.own⟩
                · have hacb : ((h : Int) == ac) = false := by simpa using hac
                  rw [er, hacb] at HRL
                  have HRL' := Lib.hid HRL
                  clear HRL e er
                  go_wp2_with fail
                  refine HRL'.out.mono ?_
                  rintro e w5 ⟨rfl, hK, hB⟩
                  have HOB5 := Lib.hid (HOB.out.turn hK hB)
                  clear hK hB c0 c1 c2
                  have c1 := HOB5.out.c1
                  go_wp2_with fail
                  go_meet
                  exact ⟨rfl, s2, by omega, by omega, HOB5.out.own⟩
            · have a2b : (ak == 2) = false := by simpa using a2
              go_wp2_with fail
              go_meet
              exact ⟨rfl, s', hn', hz', HOB.out.own⟩
          case rest =>
            obtain ⟨rfl, s2, hn2, hz2, hO⟩ := hcut
            clear HOB
            have HO2 := Lib.hid hO
            clear hO
            rename World => w5
            go_wp2_with fail
            go_loopg [14] N (fun k v wr => O2 w g b N s2 k v wr)
            case atStart => exact ⟨0, rfl, by omega, by omega, HO2.out⟩
            case round =>
              obtain ⟨c, rfl, hcN, hk2, hO⟩ := hrel
              have HO3 := Lib.hid hO
              clear hO
              by_cases hclt : c < N
              · obtain ⟨xs, hxs⟩ := held_ex HO3.out.at_.ok c
                have HX := Lib.hid hxs
                have HH := Lib.hid (held_any HO3.out.at_ (by omega) hxs)
                clear hxs
                go_wp2_with fail
                refine HH.out.mono ?_
                rintro e w6 ⟨v, rfl, hown, hbel⟩
                have HO6 := Lib.hid (HO3.out.below hbel)
                clear HH HO3 hbel
                obtain ⟨A2, cap2, rfl, hmc, hcm, _, _⟩ := own_sl hown
                have HOW := Lib.hid hown
                obtain ⟨m, hm⟩ : ∃ m, m = xs.length := ⟨_, rfl⟩
                rw [← hm] at hmc ⊢
                have HM := Lib.hid hm
                clear hown hm
                have hmm : m ≤ maxLen := by omega
                have hmx : m ≤ 9223372036854775807 := by unfold maxLen at hmm; omega
                go_wp2_with fail
                go_loopg [16] m (fun k v wr => ∃ j : Nat, v = .int .i64 (j : Int) ∧ j ≤ m ∧ m - j ≤ k ∧ wr = w6)
                case atStart => exact ⟨0, rfl, by omega, by omega, rfl⟩
                case round =>
                  obtain ⟨j, rfl, hjm, hk3, rfl⟩ := hrel
                  by_cases hjlt : j < m
                  · obtain ⟨gq, cp, cur, hv, _, hrow, hcur⟩ := own_from' HOW.out (by rw [← HM.out]; omega)
                    obtain rfl : A2 = some ⟨gq, 0, none⟩ := by injection hv
                    have hxj : xs[j]? = some (xs[j]'(by rw [← HM.out]; exact hjlt)) := List.getElem?_eq_getElem _
                    generalize xs[j]'(by rw [← HM.out]; exact hjlt) = x at hxj
                    have hcx : wr.cell? ⟨gq, j, none⟩ = some (.int .u64 (x : Int)) := by
                      rw [hrow.cell]
                      exact hcur j _ (by rw [List.getElem?_map, hxj]; rfl)
                    have hxc := (HX.out.2 x).1 (List.mem_of_getElem? hxj)
                    have HHo := holder_any HO6.out.at_ (HO6.out.at_.ok.hc x c hxc).2
                    rw [hxc, hV_some] at HHo
                    have HHO := Lib.hid HHo
                    clear HHo hxc hxj hrow hcur hv
                    go_wp2_with fail
                    refine HHO.out.mono ?_
                    rintro e w7 ⟨rfl, rfl⟩
                    go_wp2_with fail
                    go_roundg (m - (j + 1))
                    case measure => omega
                    case rel => exact ⟨j + 1, by go_num, by omega, by omega, rfl⟩
                  · have hje : j = m := by omega
                    have hjd : decide ((j : Int) < (m : Int)) = false := by simp; omega
                    go_wp2_with fail
                    go_roundg (N - (c + 1))
                    case measure => omega
                    case rel => exact ⟨c + 1, by go_num, by omega, by omega, HO6.out⟩
              · have hce : c = N := by omega
                have hcd : decide ((c : Int) < (N : Int)) = false := by simp; omega
                go_wp2_with fail
                go_roundg (n - (i + 1))
                case measure => omega
                case rel => exact ⟨i + 1, s2, by go_num, by omega, by omega, hn2, hz2, HO3.out⟩
    · have hie : i = n := by omega
      subst hie
      go_wp2_with fail
      refine (known7_any _).mono ?_
      rintro e w2 ⟨rfl, hb⟩
      have HB2 := Lib.hid (HO1.out.below hb).bel
      clear hb
      go_wp2
      go_ret
      exact ⟨rfl, HB2.out⟩
theorem lockOne_walk (z : Int) (A : Option Addr) (n cap : Nat) (l : List Ac) (W : World) (w0 : (Lit.int .i64 z).wf = true) (w1 : ActsIn W A n cap l) : Calls Try.prog 4 #[.int .i64 z, .slice A n cap] W fun e w' => e = .returned (.bool true) ∧ Below W.heap.size W w' := by
  obtain ⟨hl, hc, hm, hA⟩ := w1
  by_cases h1 : z < 1 ∨ 64 < z
  · exact lockOne_no z A n cap W hm h1
  · obtain ⟨N, rfl⟩ : ∃ N : Nat, z = (N : Int) := ⟨z.toNat, by omega⟩
    by_cases h2 : 100 < n ∨ 8 < N
    · exact lockOne_many N A n cap W hm (by omega) (by omega) h2
    · exact lockOne_in hA hl (by omega) hc (by omega) (by omega)
end Go.Proofs.Ytojmhiaabjbdiaa
