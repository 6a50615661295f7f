/- Texts of this claim, packed: R2Wor, R2Loa, R2Lin. -/
import Derived.Test.YtkeajfedlhgejaaPc25
/- View and Image of the document's memory: its bytes at first, with stores behind. -/
namespace Go.Proofs.Ytkeajfedlhgejaa
open Go Go.RowKit
set_option linter.unusedVariables false
def putB (l : List Nat) (a v k : Nat) : List Nat := (List.range k).foldl (fun l j => l.set (a + j) (wbyt v j)) l
theorem putB_zero (l : List Nat) (a v : Nat) : putB l a v 0 = l := rfl
theorem putB_succ (l : List Nat) (a v k : Nat) : putB l a v (k + 1) = (putB l a v k).set (a + k) (wbyt v k) := by simp [putB, List.range_succ]
theorem putB_len (l : List Nat) (a v k : Nat) : (putB l a v k).length = l.length := by
  induction k with
  | zero => rfl
  | succ k ih => rw [putB_succ, List.length_set, ih]
theorem putB_get (l : List Nat) (a v k t : Nat) : (putB l a v k)[t]? = if a ≤ t ∧ t < a + k ∧ t < l.length then some (wbyt v (t - a)) else l[t]? := by
  induction k with
  | zero => rw [if_neg (by omega)]; rfl
  | succ k ih =>
    rw [putB_succ, List.getElem?_set, putB_len, ih]
    by_cases e : a + k = t
    · subst e
      rw [if_pos rfl]
      by_cases hl : a + k < l.length
      · rw [if_pos hl, if_pos (by omega), show a + k - a = k from by omega]
      · rw [if_neg hl, if_neg (by omega), List.getElem?_eq_none (by omega)]
    · rw [if_neg e]
      by_cases h : a ≤ t ∧ t < a + k ∧ t < l.length
      · rw [if_pos h, if_pos (by omega)]
      · rw [if_neg h, if_neg (by omega)]
theorem bytesL_get (X : List Nat) (t : Nat) : (bytesL X)[t]? = X[t / 8]?.map fun x => wbyt x (t % 8) := by
  induction X generalizing t with
  | nil => simp [bytesL]
  | cons a X ih =>
    have e : bytesL (a :: X) = wbytes a ++ bytesL X := by simp [bytesL]
    rw [e]
    by_cases h : t < 8
    · rw [List.getElem?_append_left (by rw [wbytes_length]; exact h), show t / 8 = 0 from by omega, show t % 8 = t from by omega]
      simp [wbytes, h]
    · rw [List.getElem?_append_right (by rw [wbytes_length]; omega), wbytes_length, ih, show t / 8 = (t - 8) / 8 + 1 from by omega, show t % 8 = (t - 8) % 8 from by omega]
      simp
theorem putB_word (X : List Nat) (a v : Nat) (h8 : a % 8 = 0) : putB (bytesL X) a v 8 = bytesL (X.set (a / 8) v) := by
  apply List.ext_getElem?
  intro t
  rw [putB_get, bytesL_get, bytesL_get, bytesL_length, List.getElem?_set]
  by_cases h : a / 8 = t / 8
  · rw [if_pos h]
    by_cases hl : t < 8 * X.length
    · rw [if_pos (by omega), if_pos (by omega), show t - a = t % 8 from by omega]
      rfl
    · rw [if_neg (by omega), if_neg (by omega), List.getElem?_eq_none (by omega)]
  · rw [if_neg h, if_neg (by omega)]
def sel (all : Bool) (l : List Md) : List Md := if all = true then l else las l
theorem sel_zero (all : Bool) (l : List Md) : sel all (l.take 0) = [] := by cases all <;> simp [sel, las]
theorem sel_skip {l : List Md} {i : Nat} {x : Md} (h : l[i]? = some x) (hd : x.d = false) : sel false (l.take (i + 1)) = sel false (l.take i) := by
  have hi := (List.getElem?_eq_some_iff.1 h).1
  have e := (List.getElem?_eq_some_iff.1 h).2
  rw [List.take_succ_eq_append_getElem hi]
  simp [sel, las, e, hd]
theorem sel_next {all : Bool} {l : List Md} {i : Nat} {x : Md} (h : l[i]? = some x) (hd : all = true ∨ x.d = true) : sel all (l.take (i + 1)) = sel all (l.take i) ++ [x] := by
  have hi := (List.getElem?_eq_some_iff.1 h).1
  have e := (List.getElem?_eq_some_iff.1 h).2
  rw [List.take_succ_eq_append_getElem hi, e]
  cases all
  · have hd' : x.d = true := by simpa using hd
    simp [sel, las, hd']
  · simp [sel]
theorem lastW_sel {F : List Nat} {l : List Md} {x : Md} : lastW F (prs (l ++ [x])) = (lastW F (prs l)).set (x.a / 8) x.w := by
  rw [prs_append]
  exact lastW_snoc F (prs l) (x.a, x.w)
theorem b8A_get2 {n k : Nat} (hk : k < 8) : (b8A n)[k]? = some (bv (wbyt n k)) := by simp [b8A, hk]
def z8 : Array Value := #[.int .u8 0, .int .u8 0, .int .u8 0, .int .u8 0, .int .u8 0, .int .u8 0, .int .u8 0, .int .u8 0]
theorem store8_gen (w1 : World) (n : Nat) : ∃ W3, W3 = ((w1.alloc (.cells z8 115)).setRow w1.heap.size (b8A n)) ∧ Row W3 w1.heap.size 115 (b8A n) ∧ Below w1.heap.size w1 W3 :=
  ⟨_, rfl, (Row.new w1 115 z8).setRow _, below_setRow (alloc_below _ _) (Nat.le_refl _) _⟩
set_option maxRecDepth 100000 in
set_option maxHeartbeats 8000000 in
theorem r2words_any {w : World} {g : Nat} {r : Rf} {vF vL : Value} {ms : List Value} (h : R2At w g r vF vL ms) (all : Bool) (hnl : 0 < r.nl ∧ r.nl ≤ 16384) (hF : r.F.length = 8 * r.nl) (had : ∀ x ∈ r.L, x.a % 8 = 0 ∧ x.a < 64 * r.nl ∧ x.w < 18446744073709551616) :
    Calls Try.prog 62 #[.pointer (some ⟨g, 0, none⟩), .bool all] w (fun e w' => (∃ v, e = .returned v ∧ w'.ownsRow w.heap.size 5 1 v (64 * r.nl) ((bytesL (lastW r.F (prs (sel all r.L)))).map bv)) ∧ Below w.heap.size w w') := by
  obtain ⟨i0, hi, hz0, hz1, hz2⟩ := info_parts info5
  obtain ⟨A, cap, rfl, hm⟩ := own4_sl h.li
  obtain ⟨gf, cf, cur, rfl, _, _, hrf, hcur⟩ := own4_shape h.fi (by omega)
  have c0 := h.row.cell 0
  simp only [List.getElem?_toArray, List.getElem?_cons_zero] at c0
  obtain ⟨m, hmm⟩ : ∃ m, m = 64 * r.nl := ⟨_, rfl⟩
  obtain ⟨q, hq⟩ : ∃ q, r.L.length = q := ⟨_, rfl⟩
  rw [hq] at h hm
  rw [← hmm] at h c0 ⊢
  have hbl : (bytesL r.F).length = m := by rw [bytesL_length, hF]; omega
  have hmx : 0 < m ∧ m ≤ 1048576 := by omega
  have hFC : ∀ j u, ((bytesL r.F).map bv)[j]? = some u → w.cell? ((⟨gf, 0, none⟩ : Addr).add j) = some u := fun j u hu => by
    rw [Addr.add_lit, Nat.zero_add, hrf.cell]
    exact hcur j u hu
  have hqx : q ≤ 9223372036854775807 := by unfold maxLen at hm; omega
  have H := Lib.hid h
  have HQ := Lib.hid hq
  have HM := Lib.hid hmm
  have HA := Lib.hid had
  have HF := Lib.hid hF
  have HBL := Lib.hid hbl
  have HFC := Lib.hid hFC
  have hW : gf < w.heap.size := hrf.lt
  clear h hm hq had hF hrf hcur hbl hFC hmm hnl
  go_enter Try.func62, Try.ntmps62
  go_wp2_with (at_builtin; refine wpList_append_own_at _ rfl _ _ 22 rfl w.heap.size 5 i0 (.int .u8 0) 1 1 Try.underlying22 hi hz0 hz1 hz2 rfl (by decide) (.slice none 0 0) 0 [] (by rfl) (World.ownsRow_nil _ _ _ _) ⟨gf, 0, none⟩ m _ ((bytesL r.F).map bv) (by rfl) (by rw [List.length_map, HBL.out]; omega) HFC.out (by intro u hu; simp only [List.mem_map] at hu; obtain ⟨_, _, rfl⟩ := hu; rfl) (by unfold maxLen; omega) (by omega) (Nat.le_refl _) ?_; intro v' w2 hown hgrow _ _)
  rw [Nat.zero_add, List.nil_append] at hown
  obtain ⟨go, co, _, rfl, _, _, _, _⟩ := own4_shape hown hmx.1
  have hlow : Below w.heap.size w w2 := (Below.refl _ _).grown hgrow (Nat.le_refl _) (by intro q hq; cases hq)
  have HLOW := Lib.hid hlow
  have HOWN := Lib.hid hown
  have hgo : w.heap.size ≤ go := own_fromI hown go rfl
  clear hown hgrow hlow
  go_wp2
  go_loopg [6] q (fun k v wr => ∃ i : Nat, v = .int .i64 (i : Int) ∧ i ≤ q ∧ q - i ≤ k ∧ wr.ownsRow w.heap.size 5 1 (.slice (some ⟨go, 0, none⟩) m co) m ((bytesL (lastW r.F (prs (sel all (r.L.take i))))).map bv) ∧ Below w.heap.size w wr)
  case atStart => exact ⟨0, rfl, by omega, by omega, by rw [sel_zero]; exact HOWN.out, HLOW.out⟩
  case round =>
    obtain ⟨i, rfl, hin, hk, hown, hlow⟩ := hrel
    rename World => wr
    clear HLOW HOWN
    have hr := H.out.below hlow
    have c1 := hr.row.cell 1
    simp only [List.getElem?_toArray, List.getElem?_cons_succ, List.getElem?_cons_zero] at c1
    clear c0
    by_cases hlt : i < q
    · obtain ⟨x, hx⟩ : ∃ x, r.L[i]? = some x := ⟨_, List.getElem?_eq_getElem (by rw [HQ.out]; exact hlt)⟩
      obtain ⟨gl, v, rfl, hv, x0, x1, x2, x3, fr, ho⟩ := hr.cellsX HQ.out hx
      obtain ⟨hxa, hxl, hxw⟩ := HA.out x (List.mem_of_getElem? hx)
      rw [← HM.out] at hxl
      have skip : all = false → x.d = false → Hid (wr.ownsRow w.heap.size 5 1 (.slice (some ⟨go, 0, none⟩) m co) m ((bytesL (lastW r.F (prs (sel all (r.L.take (i + 1)))))).map bv)) := fun e1 e2 => Lib.hid (by
        subst e1
        rw [sel_skip hx e2]
        exact hown)
      have next : (all = true ∨ x.d = true) → bytesL (lastW r.F (prs (sel all (r.L.take (i + 1))))) = putB (bytesL (lastW r.F (prs (sel all (r.L.take i))))) x.a x.w 8 := fun e => by
        rw [sel_next hx e, lastW_sel, putB_word _ _ _ hxa]
      by_cases hsk : all = false ∧ x.d = false
      · obtain ⟨e1, e2⟩ := hsk
        have HS := skip e1 e2
        subst e1
        rw [e2] at x2
        have HLW := Lib.hid hlow
        clear skip next hr hx hv x0 x1 x3 fr ho hown hlow hxa hxl hxw
        go_wp2
        go_roundg (q - (i + 1))
        case measure => omega
        case rel => exact ⟨i + 1, by go_num, by omega, by omega, HS.out, HLW.out⟩
      · have hal : all = true ∨ x.d = true := by
          cases all
          · right; cases hd : x.d
            · exact absurd ⟨rfl, hd⟩ hsk
            · rfl
          · exact .inl rfl
        have HN := Lib.hid (next hal)
        have HP := Lib.hid (fun W => r1Put_any x.w W hxw)
        have hfit := b8A_fit x.w
        have hold := b8A_old x.w
        have hone := b8A_one x.w
        have HR := Lib.hid hr
        have HLW := Lib.hid hlow
        have HOW := Lib.hid hown
        have hxd : all = false → x.d = true := fun e => hal.resolve_left (by simp [e])
        have HXW := Lib.hid hxw
        have HXA := Lib.hid hxa
        have HX := Lib.hid hx
        have hgl := (wr.block_lt_of_cell? _ x0)
        clear skip next hr hx hv x3 fr ho hown hlow hsk hal hxa hxw
        obtain ⟨X, hX⟩ : ∃ X, X = lastW r.F (prs (sel all (r.L.take i))) := ⟨_, rfl⟩
        have HXL : Hid ((bytesL X).length = m) := Lib.hid (by rw [hX, bytesL_length, lastW_length, HF.out, HM.out]; omega)
        rw [← hX] at HN HOW
        have hmx2 : x.a + 8 ≤ m := by have := HXA.out; have := HM.out; omega
        clear hX
        cases all
        rw [hxd rfl] at x2
        all_goals
          clear hxd
          go_wp2_with fail
          refine (HP.out _).mono ?_
          rintro e w1 ⟨rfl, hb1⟩
          go_wp2_with (refine wpList_store_row rfl 115 _ _ rfl w1.heap.size (b8A x.w) rfl rfl 115 z8 (Row.new w1 115 z8) hfit (by rw [b8A_size]; rfl) hone ?_; obtain ⟨W3, hW3, hn3, hb3⟩ := store8_gen w1 x.w; unfold z8 at hW3; rw [← hW3]; have HN3 := Lib.hid hn3; have HB3 := Lib.hid (Below.and hb1 hb3); clear hW3 hn3 hb3)
          have hsz1 : w.heap.size ≤ wr.heap.size ∧ wr.heap.size ≤ w1.heap.size := ⟨HLW.out.size, hb1.size⟩
          have HR3 := Lib.hid (HR.out.below HB3.out)
          have HL3 : Hid (Below w.heap.size w W3) := Lib.hid (Below.and HLW.out HB3.out)
          have HO3 := Lib.hid (own2_same HOW.out fun k hk => HB3.out.block k (by obtain ⟨cs, hc⟩ := own2_tg HOW.out hk; exact (Array.getElem?_eq_some_iff.1 hc).1))
          have hgo1 : go < wr.heap.size := by obtain ⟨cs, hc⟩ := own2_tg HOW.out (g := go) rfl; exact (Array.getElem?_eq_some_iff.1 hc).1
          have hne : go ≠ w1.heap.size := by omega
          clear x0 x1 x2 c1 hfit hold hone hb1
          obtain ⟨gw, hgw⟩ : ∃ gw, gw = w1.heap.size := ⟨_, rfl⟩
          rw [← hgw] at HN3 hne ⊢
          have hgwl : w.heap.size ≤ gw := by omega
          clear hsz1 hgw
          go_loopg [8] 8 (fun k v wq => ∃ j : Nat, v = .int .i64 (j : Int) ∧ j ≤ 8 ∧ 8 - j ≤ k ∧ Row wq gw 115 (b8A x.w) ∧ R2At wq g r (.slice (some ⟨gf, 0, none⟩) m cf) (.slice (some ⟨gl, 0, none⟩) q cap) ms ∧ wq.ownsRow w.heap.size 5 1 (.slice (some ⟨go, 0, none⟩) m co) m ((putB (bytesL X) x.a x.w j).map bv) ∧ Below w.heap.size w wq)
          case atStart => exact ⟨0, rfl, by omega, by omega, HN3.out, HR3.out, by rw [putB_zero]; exact HO3.out, HL3.out⟩
          case round =>
            obtain ⟨j, rfl, hj, hkk, hrw, hr, hown, hlow⟩ := hrel
            rename World => wq
            clear HN3 HR3 HL3 HO3
            have c1 := hr.row.cell 1
            simp only [List.getElem?_toArray, List.getElem?_cons_succ, List.getElem?_cons_zero] at c1
            by_cases hjl : j < 8
            · obtain ⟨gl2, v, hA, hv, x0, x1, x2, x3, fr, ho⟩ := hr.cellsX HQ.out HX.out
              cases hA
              have hwb : wq.cell? ⟨gw, j, none⟩ = some (bv (wbyt x.w j)) := by rw [hrw.cell]; exact b8A_get2 hjl
              unfold bv at hwb
              obtain ⟨go2, co2, cur2, hgo2, _, _, hrow2, hcur2⟩ := own4_shape hown hmx.1
              cases hgo2
              have hlen2 : (putB (bytesL X) x.a x.w j).length = m := by rw [putB_len]; exact HXL.out
              obtain ⟨ub, hub⟩ : ∃ ub, (putB (bytesL X) x.a x.w j)[x.a + j]? = some ub := ⟨_, List.getElem?_eq_getElem (by rw [hlen2]; omega)⟩
              have ob : wq.cell? ⟨go, x.a + j, none⟩ = some (.int .u8 (ub : Int)) := by rw [hrow2.cell]; exact hcur2 _ _ (by rw [List.getElem?_map, hub]; rfl)
              have of := hrow2.free (x.a + j)
              have HO4 : Hid (((wq.setCell ⟨go, x.a + j, none⟩ (.int .u8 (wbyt x.w j : Int))).ownsRow w.heap.size 5 1 (.slice (some ⟨go, 0, none⟩) m co) m ((putB (bytesL X) x.a x.w (j + 1)).map bv))) := Lib.hid (by
                have := own4_set hown (x.a + j) (.int .u8 (wbyt x.w j : Int))
                rw [putB_succ, List.map_set]
                exact this)
              have HR4 := Lib.hid (hr.same (w' := wq.setCell ⟨go, x.a + j, none⟩ (.int .u8 (wbyt x.w j : Int))) fun k hk => heap_setCell_other _ _ _ _ (by
                show k ≠ go
                intro e
                have hl1 : k < w.heap.size := H.out.lt k hk
                omega))
              have HL4 := Lib.hid (hlow.setCell (p := ⟨go, x.a + j, none⟩) (by show w.heap.size ≤ go; omega) (.int .u8 (wbyt x.w j : Int)))
              have HW4 := Lib.hid (hrw.other (p := ⟨go, x.a + j, none⟩) (fun e => hne e.symm) (.int .u8 (wbyt x.w j : Int)))
              have hxI : (x.a : Int) < 9223372036854775808 := by omega
              have hx0 : (0 : Int) ≤ (x.a : Int) + (j : Int) := by omega
              have hx1 : (x.a : Int) + (j : Int) < (m : Int) := by omega
              have hj8 : (j : Int) < 8 := by omega
              have hwx : IntKind.i64.wrap (x.a : Int) = (x.a : Int) := by simp [IntKind.wrap, IntKind.bits, IntKind.signed]; omega
              have hwxj : IntKind.i64.wrap ((x.a : Int) + (j : Int)) = (x.a : Int) + (j : Int) := by simp [IntKind.wrap, IntKind.bits, IntKind.signed]; omega
              clear hr hown hlow hrw hv x1 x2 x3 fr ho hrow2 hcur2 hlen2 hub
              go_upto_region 10 with (fail)
              refine wp_region_noPanic ?_
              refine wp_region_heldx_drew (S := fun W' => W'.cell? ⟨g, 1, none⟩ = some (.slice (some ⟨gl, 0, none⟩) q cap) ∧ W'.cell? ⟨gl, i * 4, none⟩ = some (.int .u64 (x.a : Int)) ∧ W'.cell? ⟨gw, j, none⟩ = some (.int .u8 (wbyt x.w j : Int))) 16 (by kernel_rfl) ⟨c1, x0, hwb⟩ (fun hHeld => ?_)
              refine wpAnyX_take (i := 0) (oi := ⟨some 49, _, _, _, _, _⟩) (v := .slice (some ⟨go, 0, none⟩) m co) rfl (by kernel_rfl) (by kernel_rfl) (by kernel_rfl) (by kernel_rfl) (fun _ _ _ h => h) (Or.inl ⟨by kernel_rfl, by intro WW hSw; (try dsimp only at hSw); obtain ⟨hS1, hS3, hS2⟩ := hSw; go_simp⟩) (by assumption) ?_
              (try simp only [Act.put, List.setIfInBounds_toArray, List.set_cons_zero, List.set_cons_succ])
              refine wpAnyX_take (i := 1) (oi := ⟨some 50, _, _, _, _, _⟩) (v := .pointer (some ⟨g, 0, none⟩)) rfl (by kernel_rfl) (by kernel_rfl) (by kernel_rfl) (by kernel_rfl) (fun _ _ _ h => h) (Or.inl ⟨by kernel_rfl, by intro WW hSw; (try dsimp only at hSw); obtain ⟨hS1, hS3, hS2⟩ := hSw; go_simp⟩) (by assumption) ?_
              (try simp only [Act.put, List.setIfInBounds_toArray, List.set_cons_zero, List.set_cons_succ])
              refine wpAnyX_take (i := 2) (oi := ⟨some 51, _, _, _, _, _⟩) (v := .pointer (some ⟨g, 0, none⟩)) rfl (by kernel_rfl) (by kernel_rfl) (by kernel_rfl) (by kernel_rfl) (fun _ _ _ h => h) (Or.inl ⟨by kernel_rfl, by intro WW hSw; (try dsimp only at hSw); obtain ⟨hS1, hS3, hS2⟩ := hSw; go_simp⟩) (by assumption) ?_
              (try simp only [Act.put, List.setIfInBounds_toArray, List.set_cons_zero, List.set_cons_succ])
              refine wpAnyX_take (i := 3) (oi := ⟨some 52, _, _, _, _, _⟩) (v := .pointer (some ⟨g, 1, none⟩)) rfl (by kernel_rfl) (by kernel_rfl) (by kernel_rfl) (by kernel_rfl) (fun _ _ _ h => h) (Or.inl ⟨by kernel_rfl, by intro WW hSw; (try dsimp only at hSw); obtain ⟨hS1, hS3, hS2⟩ := hSw; go_simp⟩) (by assumption) ?_
              (try simp only [Act.put, List.setIfInBounds_toArray, List.set_cons_zero, List.set_cons_succ])
              refine wpAnyX_take (i := 4) (oi := ⟨some 53, _, _, _, _, _⟩) (v := .slice (some ⟨gl, 0, none⟩) q cap) rfl (by kernel_rfl) (by kernel_rfl) (by kernel_rfl) (by kernel_rfl) (fun _ _ _ h => h) (Or.inl ⟨by kernel_rfl, by intro WW hSw; (try dsimp only at hSw); obtain ⟨hS1, hS3, hS2⟩ := hSw; go_simp⟩) (by assumption) ?_
              (try simp only [Act.put, List.setIfInBounds_toArray, List.set_cons_zero, List.set_cons_succ])
              refine wpAnyX_take (i := 5) (oi := ⟨some 54, _, _, _, _, _⟩) (v := .int .i64 (i : Int)) rfl (by kernel_rfl) (by kernel_rfl) (by kernel_rfl) (by kernel_rfl) (fun _ _ _ h => h) (Or.inl ⟨by kernel_rfl, by intro WW hSw; (try dsimp only at hSw); obtain ⟨hS1, hS3, hS2⟩ := hSw; go_simp⟩) (by assumption) ?_
              (try simp only [Act.put, List.setIfInBounds_toArray, List.set_cons_zero, List.set_cons_succ])
              refine wpAnyX_take (i := 6) (oi := ⟨some 55, _, _, _, _, _⟩) (v := .pointer (some ⟨gl, i * 4, none⟩)) rfl (by kernel_rfl) (by kernel_rfl) (by kernel_rfl) (by kernel_rfl) (fun _ _ _ h => h) (Or.inl ⟨by kernel_rfl, by intro WW hSw; (try dsimp only at hSw); obtain ⟨hS1, hS3, hS2⟩ := hSw; go_simp⟩) (by assumption) ?_
              (try simp only [Act.put, List.setIfInBounds_toArray, List.set_cons_zero, List.set_cons_succ])
              refine wpAnyX_take (i := 7) (oi := ⟨some 56, _, _, _, _, _⟩) (v := .pointer (some ⟨gl, i * 4, none⟩)) rfl (by kernel_rfl) (by kernel_rfl) (by kernel_rfl) (by kernel_rfl) (fun _ _ _ h => h) (Or.inl ⟨by kernel_rfl, by intro WW hSw; (try dsimp only at hSw); obtain ⟨hS1, hS3, hS2⟩ := hSw; go_simp⟩) (by assumption) ?_
              (try simp only [Act.put, List.setIfInBounds_toArray, List.set_cons_zero, List.set_cons_succ])
              refine wpAnyX_take (i := 8) (oi := ⟨some 57, _, _, _, _, _⟩) (v := .int .u64 (x.a : Int)) rfl (by kernel_rfl) (by kernel_rfl) (by kernel_rfl) (by kernel_rfl) (fun _ _ _ h => h) (Or.inl ⟨by kernel_rfl, by intro WW hSw; (try dsimp only at hSw); obtain ⟨hS1, hS3, hS2⟩ := hSw; go_simp⟩) (by assumption) ?_
              (try simp only [Act.put, List.setIfInBounds_toArray, List.set_cons_zero, List.set_cons_succ])
              refine wpAnyX_take (i := 9) (oi := ⟨some 58, _, _, _, _, _⟩) (v := .int .i64 (x.a : Int)) rfl (by kernel_rfl) (by kernel_rfl) (by kernel_rfl) (by kernel_rfl) (fun _ _ _ h => h) (Or.inl ⟨by kernel_rfl, by intro WW hSw; (try dsimp only at hSw); obtain ⟨hS1, hS3, hS2⟩ := hSw; go_simp⟩) (by assumption) ?_
              (try simp only [Act.put, List.setIfInBounds_toArray, List.set_cons_zero, List.set_cons_succ])
              refine wpAnyX_take (i := 10) (oi := ⟨some 59, _, _, _, _, _⟩) (v := .int .i64 (j : Int)) rfl (by kernel_rfl) (by kernel_rfl) (by kernel_rfl) (by kernel_rfl) (fun _ _ _ h => h) (Or.inl ⟨by kernel_rfl, by intro WW hSw; (try dsimp only at hSw); obtain ⟨hS1, hS3, hS2⟩ := hSw; go_simp⟩) (by assumption) ?_
              (try simp only [Act.put, List.setIfInBounds_toArray, List.set_cons_zero, List.set_cons_succ])
              refine wpAnyX_take (i := 11) (oi := ⟨some 60, _, _, _, _, _⟩) (v := .int .i64 ((x.a : Int) + (j : Int))) rfl (by kernel_rfl) (by kernel_rfl) (by kernel_rfl) (by kernel_rfl) (fun _ _ _ h => h) (Or.inl ⟨by kernel_rfl, by intro WW hSw; (try dsimp only at hSw); obtain ⟨hS1, hS3, hS2⟩ := hSw; go_simp⟩) (by assumption) ?_
              (try simp only [Act.put, List.setIfInBounds_toArray, List.set_cons_zero, List.set_cons_succ])
              refine wpAnyX_take (i := 12) (oi := ⟨some 61, _, _, _, _, _⟩) (v := .int .i64 (j : Int)) rfl (by kernel_rfl) (by kernel_rfl) (by kernel_rfl) (by kernel_rfl) (fun _ _ _ h => h) (Or.inl ⟨by kernel_rfl, by intro WW hSw; (try dsimp only at hSw); obtain ⟨hS1, hS3, hS2⟩ := hSw; go_simp⟩) (by assumption) ?_
              (try simp only [Act.put, List.setIfInBounds_toArray, List.set_cons_zero, List.set_cons_succ])
              refine wpAnyX_take (i := 13) (oi := ⟨some 62, _, _, _, _, _⟩) (v := .pointer (some ⟨gw, j, none⟩)) rfl (by kernel_rfl) (by kernel_rfl) (by kernel_rfl) (by kernel_rfl) (fun _ _ _ h => h) (Or.inl ⟨by kernel_rfl, by intro WW hSw; (try dsimp only at hSw); obtain ⟨hS1, hS3, hS2⟩ := hSw; go_simp⟩) (by assumption) ?_
              (try simp only [Act.put, List.setIfInBounds_toArray, List.set_cons_zero, List.set_cons_succ])
              refine wpAnyX_take (i := 14) (oi := ⟨some 63, _, _, _, _, _⟩) (v := .int .u8 (wbyt x.w j : Int)) rfl (by kernel_rfl) (by kernel_rfl) (by kernel_rfl) (by kernel_rfl) (fun _ _ _ h => h) (Or.inl ⟨by kernel_rfl, by intro WW hSw; (try dsimp only at hSw); obtain ⟨hS1, hS3, hS2⟩ := hSw; go_simp⟩) (by assumption) ?_
              (try simp only [Act.put, List.setIfInBounds_toArray, List.set_cons_zero, List.set_cons_succ])
              refine wpAnyX_take (i := 15) (oi := ⟨some 64, _, _, _, _, _⟩) (v := .pointer (some ⟨go, x.a + j, none⟩)) rfl (by kernel_rfl) (by kernel_rfl) (by kernel_rfl) (by kernel_rfl) (fun _ _ _ h => h) (Or.inl ⟨by kernel_rfl, by intro WW hSw; (try dsimp only at hSw); obtain ⟨hS1, hS3, hS2⟩ := hSw; go_simp⟩) (by assumption) ?_
              (try simp only [Act.put, List.setIfInBounds_toArray, List.set_cons_zero, List.set_cons_succ])
              refine wpAnyX_ready (rs := [16]) (by kernel_rfl) (by simp) ?_
              refine AllReadyX.last rfl (fun K hK => ?_)
              go_simp
              refine hK.out _ _ ?_
              clear hK K
              (try simp only [Act.put, List.setIfInBounds_toArray, List.set_cons_zero, List.set_cons_succ])
              refine wpAnyX_done (by kernel_rfl) ?_ _
              unfold NoPanic
              go_wp2
              go_roundg (8 - (j + 1))
              case measure => omega
              case rel => exact ⟨j + 1, by go_num, by omega, by omega, HW4.out, HR4.out.below (drew_below _), HO4.out, Below.and HL4.out (drew_below _)⟩
            · have hj8 : j = 8 := by omega
              have hjd : decide ((j : Int) < 8) = false := by simp; omega
              subst hj8
              have HO5 := Lib.hid hown
              rw [← HN.out] at HO5
              have HL5 := Lib.hid hlow
              clear hr hown hlow hrw c1
              go_wp2
              go_roundg (q - (i + 1))
              case measure => omega
              case rel => exact ⟨i + 1, by go_num, by omega, by omega, HO5.out, HL5.out⟩
    · have hie : i = q := by omega
      have hid : decide ((i : Int) < (q : Int)) = false := by simp; omega
      have HE : Hid (wr.ownsRow w.heap.size 5 1 (.slice (some ⟨go, 0, none⟩) m co) m ((bytesL (lastW r.F (prs (sel all r.L)))).map bv)) := Lib.hid (by
        rw [hie, ← HQ.out, List.take_length] at hown
        exact hown)
      have HL5 := Lib.hid hlow
      clear hr hown hlow
      go_wp2
      go_ret
      exact ⟨⟨_, rfl, HE.out⟩, HL5.out⟩
end Go.Proofs.Ytkeajfedlhgejaa
/- View, Image and Load of the document's memory. -/
namespace Go.Proofs.Ytkeajfedlhgejaa
open Go Go.RowKit
set_option linter.unusedVariables false
theorem r2View_any {w : World} {g : Nat} {r : Rf} {vF vL : Value} {ms : List Value} (h : R2At w g r vF vL ms) (hnl : 0 < r.nl ∧ r.nl ≤ 16384) (hF : r.F.length = 8 * r.nl) (had : ∀ x ∈ r.L, x.a % 8 = 0 ∧ x.a < 64 * r.nl ∧ x.w < 18446744073709551616) :
    Calls Try.prog 28 #[.pointer (some ⟨g, 0, none⟩)] w (fun e w' => (∃ v, e = .returned v ∧ w'.ownsRow w.heap.size 5 1 v (64 * r.nl) ((bytesL (lastW r.F (prs r.L))).map bv)) ∧ Below w.heap.size w w') := by
  have HW := Lib.hid (r2words_any h true hnl hF had)
  clear h had hF
  go_enter Try.func28, Try.ntmps28
  go_wp2_with fail
  refine HW.out.mono ?_
  rintro e w1 ⟨⟨v, rfl, ho⟩, hb⟩
  have HO := Lib.hid ho
  obtain ⟨A, c, rfl, _⟩ := own4_sl ho
  clear ho
  go_wp2
  go_ret
  exact ⟨⟨_, rfl, HO.out⟩, hb⟩
theorem r2Image_any {w : World} {g : Nat} {r : Rf} {vF vL : Value} {ms : List Value} (h : R2At w g r vF vL ms) (hnl : 0 < r.nl ∧ r.nl ≤ 16384) (hF : r.F.length = 8 * r.nl) (had : ∀ x ∈ r.L, x.a % 8 = 0 ∧ x.a < 64 * r.nl ∧ x.w < 18446744073709551616) :
    Calls Try.prog 29 #[.pointer (some ⟨g, 0, none⟩)] w (fun e w' => (∃ v, e = .returned v ∧ w'.ownsRow w.heap.size 5 1 v (64 * r.nl) ((bytesL (lastW r.F (prs (las r.L)))).map bv)) ∧ Below w.heap.size w w') := by
  have HW := Lib.hid (r2words_any h false hnl hF had)
  clear h had hF
  go_enter Try.func29, Try.ntmps29
  go_wp2_with fail
  refine HW.out.mono ?_
  rintro e w1 ⟨⟨v, rfl, ho⟩, hb⟩
  have HO := Lib.hid ho
  obtain ⟨A, c, rfl, _⟩ := own4_sl ho
  clear ho
  go_wp2
  go_ret
  exact ⟨⟨_, rfl, HO.out⟩, hb⟩
theorem ofB_wb2 {n : Nat} (h : n < 18446744073709551616) : ofB (wbytes n) = n := by
  have e : wbytes n = [wbyt n 0, wbyt n 1, wbyt n 2, wbyt n 3, wbyt n 4, wbyt n 5, wbyt n 6, wbyt n 7] := rfl
  rw [e]
  simp only [ofB, wbyt, Nat.pow_zero, Nat.div_one, Nat.reducePow]
  omega
theorem bytesL_word2 : ∀ (ws : List Nat) (i : Nat) (hi : i < ws.length), ((bytesL ws).drop (8 * i)).take 8 = wbytes ws[i]
  | a :: t, 0, _ => by
    have e : bytesL (a :: t) = wbytes a ++ bytesL t := by simp [bytesL]
    rw [e]
    simp [List.take_append, wbytes_length]
  | a :: t, i + 1, hi => by
    have e : bytesL (a :: t) = wbytes a ++ bytesL t := by simp [bytesL]
    rw [e, List.drop_append, List.drop_eq_nil_of_le (by rw [wbytes_length]; omega), wbytes_length, show 8 * (i + 1) - 8 = 8 * i from by omega]
    exact bytesL_word2 t i (by simpa using hi)
set_option maxRecDepth 100000 in
set_option maxHeartbeats 2000000 in
theorem r2Load_no {w : World} {g : Nat} {r : Rf} {vF vL : Value} {ms : List Value} (h : R2At w g r vF vL ms) (a : Nat) (hn : r.nl ≤ 16384) (ha : a < 18446744073709551616) (hb : ¬ (a % 8 = 0 ∧ a < 64 * r.nl)) :
    Calls Try.prog 38 #[.pointer (some ⟨g, 0, none⟩), .int .u64 (a : Int)] w fun e w' => e = .returned (.tuple #[.int .u64 0, .int .i64 3]) ∧ w = w' := by
  have HI := r2Is_any h a hn ha
  rw [decide_eq_false hb] at HI
  have HI := Lib.hid HI
  clear h hb
  go_enter Try.func38, Try.ntmps38
  go_wp2_with fail
  refine HI.out.mono ?_
  rintro e w1 ⟨rfl, rfl⟩
  go_wp2
  go_ret2
  exact ⟨rfl, rfl⟩
set_option maxRecDepth 100000 in
set_option maxHeartbeats 8000000 in
theorem r2Load_yes {w : World} {g : Nat} {r : Rf} {vF vL : Value} {ms : List Value} (h : R2At w g r vF vL ms) (a : Nat) (hnl : r.nl ≤ 1000) (ha : a < 18446744073709551616) (hb : a % 8 = 0 ∧ a < 64 * r.nl) (hF : r.F.length = 8 * r.nl) (hFw : ∀ x ∈ r.F, x < 18446744073709551616)
    (had : ∀ x ∈ r.L, x.a % 8 = 0 ∧ x.a < 18446744073709551616) (hld : r.ld < 9223372036854775808) :
    Calls Try.prog 38 #[.pointer (some ⟨g, 0, none⟩), .int .u64 (a : Int)] w fun e w' => (∃ x : Nat, e = .returned (.tuple #[.int .u64 (x : Int), .int .i64 0]) ∧ (lastW r.F (prs r.L))[a / 8]? = some x) ∧ P2 w g vF vL ms r.load w' := by
  have HI := r2Is_any h a (by omega) ha
  rw [decide_eq_true hb] at HI
  have HI := Lib.hid HI
  have c2 := h.row.cell 2
  simp only [List.getElem?_toArray, List.getElem?_cons_succ, List.getElem?_cons_zero] at c2
  change w.cell? _ = some (.int .u64 (r.ld : Int)) at c2
  have f2 := h.row.free 2
  obtain ⟨A, cap, rfl, hm⟩ := own4_sl h.li
  obtain ⟨gf, cf, cur, rfl, _, _, hrf, hcur⟩ := own4_shape h.fi (by omega)
  obtain ⟨q, hq⟩ : ∃ q, r.L.length = q := ⟨_, rfl⟩
  obtain ⟨m, hmm⟩ : ∃ m, m = 64 * r.nl := ⟨_, rfl⟩
  rw [hq] at h hm
  rw [← hmm] at h ⊢
  have h1 : R2At (w.setCell ⟨g, 2, none⟩ (.int .u64 ((r.ld + 1 : Nat) : Int))) g r.load (.slice (some ⟨gf, 0, none⟩) m cf) (.slice A q cap) ms := h.setS 2 _ rfl rfl rfl rfl
  have eS : (((r.ld + 1 : Nat) : Int)) = (r.ld : Int) + 1 := by omega
  rw [eS] at h1
  have hldI : (r.ld : Int) < 9223372036854775808 := by omega
  have hqx : q ≤ 9223372036854775807 := by unfold maxLen at hm; omega
  have HE : Hid (P2 w g (.slice (some ⟨gf, 0, none⟩) m cf) (.slice A q cap) ms r.load (w.setCell ⟨g, 2, none⟩ (.int .u64 ((r.ld : Int) + 1)))) := Lib.hid ⟨_, _, _, h1, But.set (But.refl _ _) (.inl rfl) _, fun k hk => .inl hk⟩
  have hfl : a / 8 < r.F.length := by omega
  have hTk := r1Take_any (bytesL r.F) ⟨gf, 0, none⟩ m cf a (w.setCell ⟨g, 2, none⟩ (.int .u64 ((r.ld : Int) + 1))) (by rw [bytesL_length]; omega) (by omega) (by omega) (bytesL_lt _) (fun i u hu => ⟨_, rfl, by
    have hc := h1.fi.cells (g := gf) rfl i u hu
    exact hc⟩)
  have eT : ofB (((bytesL r.F).drop a).take 8) = r.F[a / 8] := by
    have := bytesL_word2 r.F (a / 8) hfl
    rw [show 8 * (a / 8) = a from by omega] at this
    rw [this, ofB_wb2 (hFw _ (List.getElem_mem hfl))]
  rw [eT] at hTk
  have HT := Lib.hid hTk
  have H1 := Lib.hid h1
  have HQ := Lib.hid hq
  have HA := Lib.hid had
  have HFL := Lib.hid hfl
  have h8 := hb.1
  have haI : (a : Int) < 9223372036854775808 := by omega
  have c1 := h1.row.cell 1
  simp only [List.getElem?_toArray, List.getElem?_cons_succ, List.getElem?_cons_zero] at c1
  have c0 := h1.row.cell 0
  simp only [List.getElem?_toArray, List.getElem?_cons_zero] at c0
  clear h h1 hq had hF hFw hTk eT hrf hcur hb hmm eS hm
  rw [HQ.out]
  go_enter Try.func38, Try.ntmps38
  go_wp2_with fail
  refine HI.out.mono ?_
  rintro e w1 ⟨rfl, rfl⟩
  go_wp2
  go_loopg [6] q (fun k v wr => ∃ c : Nat, v = .int .i64 ((c : Int) - 1) ∧ c ≤ q ∧ c ≤ k ∧ wr = w.setCell ⟨g, 2, none⟩ (.int .u64 ((r.ld : Int) + 1)) ∧ ∀ x ∈ r.L.drop c, x.a ≠ a)
  case atStart => exact ⟨q, by go_num, by omega, by omega, rfl, fun x hx => by rw [← HQ.out, List.drop_length] at hx; cases hx⟩
  case round =>
    obtain ⟨c, rfl, hcq, hk, rfl, hno⟩ := hrel
    have HNO := Lib.hid hno
    clear hno
    by_cases hc0 : 0 < c
    · obtain ⟨i, rfl⟩ : ∃ i, c = i + 1 := ⟨c - 1, by omega⟩
      have ei : (((i + 1 : Nat) : Int) - 1) = (i : Int) := by omega
      rw [ei]
      have hil : i < r.L.length := by rw [HQ.out]; omega
      obtain ⟨x, hx⟩ : ∃ x, r.L[i]? = some x := ⟨_, List.getElem?_eq_getElem hil⟩
      obtain ⟨gl, v, rfl, hv, x0, x1, x2, x3, fr, ho⟩ := H1.out.cellsX HQ.out hx
      have hxe := (List.getElem?_eq_some_iff.1 hx).2
      obtain ⟨hx8, hx64⟩ := HA.out x (List.mem_of_getElem? hx)
      have hiI : (i : Int) < (q : Int) := by omega
      have hge : decide (0 ≤ (i : Int)) = true := by simp
      by_cases he : x.a = a
      · have hbq : ((x.a : Int) == (a : Int)) = true := by simp; omega
        have HR : Hid ((lastW r.F (prs r.L))[a / 8]? = some x.w) := Lib.hid (by
          have e : r.L = r.L.take i ++ x :: r.L.drop (i + 1) := by
            conv => lhs; rw [← List.take_append_drop i r.L, List.drop_eq_getElem_cons hil, hxe]
          rw [e]
          exact load_at h8 he HFL.out (fun y hy => ⟨(HA.out y (List.mem_of_mem_drop hy)).1, HNO.out y hy⟩))
        clear hx hv x2 x3 fr ho hxe hx8
        go_wp2
        go_ret2
        exact ⟨⟨x.w, rfl, HR.out⟩, HE.out⟩
      · have hbq : ((x.a : Int) == (a : Int)) = false := by simp; omega
        have HN2 : Hid (∀ y ∈ r.L.drop i, y.a ≠ a) := Lib.hid (by
          intro y hy
          rw [List.drop_eq_getElem_cons hil, hxe] at hy
          rcases List.mem_cons.1 hy with rfl | hy
          · exact he
          · exact HNO.out y hy)
        clear hx hv x1 x2 x3 fr ho hxe hx8
        go_wp2
        go_roundg i
        case measure => omega
        case rel => exact ⟨i, by go_num, by omega, by omega, rfl, HN2.out⟩
    · obtain rfl : c = 0 := by omega
      have e0 : (((0 : Nat) : Int) - 1) = -1 := rfl
      rw [e0]
      have HR : Hid ((lastW r.F (prs r.L))[a / 8]? = some r.F[a / 8]) := Lib.hid (by
        rw [load_none h8 (fun y hy => ⟨(HA.out y hy).1, HNO.out y hy⟩), List.getElem?_eq_getElem HFL.out]; rfl)
      go_wp2_with fail
      refine HT.out.mono ?_
      rintro e w1 ⟨rfl, rfl⟩
      unfold wv
      go_wp2
      go_ret2
      exact ⟨⟨_, rfl, HR.out⟩, HE.out⟩
end Go.Proofs.Ytkeajfedlhgejaa
/- Lines of the document's memory: those with pending stores, rising; SameAddrs of two lists. -/
namespace Go.Proofs.Ytkeajfedlhgejaa
open Go Go.RowKit
set_option linter.unusedVariables false
theorem infoAddr2 : (Try.prog.info? 35).map (fun i => (i.zero, i.size, i.bytes)) = some (some (.int .u64 0), 1, 8) := by kernel_rfl
def linesU (r : Rf) (j : Nat) : List Nat := ((List.range j).filter fun t => decide (0 < (pen t r.L).length)).map fun t => 64 * t
theorem linesU_yes {r : Rf} {j : Nat} (h : 0 < (pen j r.L).length) : linesU r (j + 1) = linesU r j ++ [64 * j] := by simp [linesU, List.range_succ, h]
theorem linesU_no {r : Rf} {j : Nat} (h : ¬ 0 < (pen j r.L).length) : linesU r (j + 1) = linesU r j := by simp [linesU, List.range_succ, h]
theorem linesU_len (r : Rf) (j : Nat) : (linesU r j).length ≤ j := by
  unfold linesU
  rw [List.length_map]
  exact Nat.le_trans (List.length_filter_le _ _) (by simp)
theorem pcnt_line {r : Rf} {j : Nat} (h : j < r.nl) : pcnt r (64 * j) = (pen j r.L).length := by
  unfold pcnt
  rw [if_pos (by omega), show 64 * j / 64 = j from by omega]
set_option maxRecDepth 100000 in
set_option maxHeartbeats 4000000 in
theorem r2Lines_any {w : World} {g : Nat} {r : Rf} {vF vL : Value} {ms : List Value} (h : R2At w g r vF vL ms) (hnl : r.nl ≤ 16384) (had : ∀ x ∈ r.L, x.a < 18446744073709551616) :
    Calls Try.prog 34 #[.pointer (some ⟨g, 0, none⟩)] w (fun e w' => (∃ v, e = .returned v ∧ w'.ownsRow w.heap.size 35 1 v (linesU r r.nl).length ((linesU r r.nl).map wv)) ∧ Below w.heap.size w w') := by
  obtain ⟨i0, hi, hz0, hz1, hz2⟩ := info_parts infoAddr2
  obtain ⟨A, cap, rfl, hm⟩ := own4_sl h.fi
  obtain ⟨m, hmm⟩ : ∃ m, m = 64 * r.nl := ⟨_, rfl⟩
  rw [← hmm] at h
  obtain ⟨n, hn⟩ : ∃ n, n = r.nl := ⟨_, rfl⟩
  rw [← hn] at hmm hnl ⊢
  have H := Lib.hid h
  have HA := Lib.hid had
  have HN := Lib.hid hn
  have hmI : (m : Int) = 64 * (n : Int) := by omega
  have HMI := Lib.hid hmI
  have HMM := Lib.hid hmm
  clear h had hm hn hmI
  have hmx : m ≤ 1048576 := by omega
  clear hmm
  go_enter Try.func34, Try.ntmps34
  go_wp2
  go_loopg [3, 4] n (fun k vl v wr => ∃ j : Nat, v = .int .u64 (((64 * j : Nat)) : Int) ∧ j ≤ n ∧ n - j ≤ k ∧ wr.ownsRow w.heap.size 35 1 vl (linesU r j).length ((linesU r j).map wv) ∧ Below w.heap.size w wr)
  case atStart => exact ⟨0, rfl, by omega, by omega, World.ownsRow_nil _ _ _ _, Below.refl _ _⟩
  case round =>
    obtain ⟨j, rfl, hjn, hk, hown, hlow⟩ := hrel
    rename World => wr
    have hr := H.out.below hlow
    have c0 := hr.row.cell 0
    simp only [List.getElem?_toArray, List.getElem?_cons_zero] at c0
    obtain ⟨a, ha⟩ : ∃ a, a = 64 * j := ⟨_, rfl⟩
    rw [← ha]
    by_cases hlt : j < n
    · have ham : a < m := by have := HMM.out; omega
      have hd : decide ((a : Int) < (m : Int)) = true := by simp; omega
      have haI : (a : Int) < (m : Int) := by omega
      have HP := r2Pending_any hr a (by rw [← HN.out]; exact hnl) (by omega) HA.out
      rw [ha, pcnt_line (by rw [← HN.out]; exact hlt), ← ha] at HP
      have HP := Lib.hid HP
      have hln := linesU_len r j
      have hpl : (pen j r.L).length ≤ r.L.length := List.length_filter_le _ _
      by_cases hp : 0 < (pen j r.L).length
      · have hpd : decide ((0 : Int) < ((pen j r.L).length : Int)) = true := by simp; omega
        have HU := Lib.hid (linesU_yes hp)
        obtain ⟨p, hpp⟩ : ∃ p, p = (pen j r.L).length := ⟨_, rfl⟩
        rw [← hpp] at HP hpd
        have hp' : 0 < p := by rw [hpp]; exact hp
        obtain ⟨t, htt⟩ : ∃ t, t = (linesU r j).length := ⟨_, rfl⟩
        have HO : Hid (wr.ownsRow w.heap.size 35 1 u3 t ((linesU r j).map wv)) := Lib.hid (by rw [htt]; exact hown)
        have HTT := Lib.hid htt
        rw [← htt] at hln
        have HL := Lib.hid hlow
        have hsw : w.heap.size ≤ wr.heap.size := hlow.size
        have HAA := Lib.hid ha
        clear hr hown hlow hp hpl hpp htt ha
        go_wp2_with fail
        refine HP.out.mono ?_
        rintro e w1 ⟨rfl, rfl⟩
        go_wp2_with (at_builtin; refine wpList_append_own_at _ rfl _ _ 74 rfl w.heap.size 35 i0 (.int .u64 0) 1 8 Try.underlying74 hi hz0 hz1 hz2 rfl (by decide) _ t _ (by rfl) (HO.out.alloc _) ⟨wr.heap.size, 0, none⟩ 1 1 [.int .u64 (a : Int)] (by rfl) (by rfl) ?q1 ?q2 ?q3 ?q4 ?q5 ?_)
        case q1 =>
          intro y u hu
          rw [Addr.add_lit, Nat.zero_add, (Row.new wr 35 #[.int .u64 (a : Int)]).cell]
          simpa using hu
        case q2 => simp [Value.oneCell']
        case q3 => unfold maxLen; omega
        case q4 => omega
        case q5 => simp; omega
        intro v' w2 hown' hgrow _ _
        have hl2 : Below w.heap.size w w2 := (Below.and HL.out (alloc_below _ (.cells #[.int .u64 (a : Int)] 35))).grown hgrow (by simp; omega) (fun q hq => own_fromI HO.out q hq)
        have HO2 : Hid (w2.ownsRow w.heap.size 35 1 v' (linesU r (j + 1)).length ((linesU r (j + 1)).map wv)) := Lib.hid (by
          rw [HU.out, List.length_append, List.map_append, ← HTT.out, ← HAA.out]
          exact hown')
        have HL2 := Lib.hid hl2
        have HAA2 : Hid ((a : Int) + 64 = ((64 * (j + 1) : Nat) : Int)) := Lib.hid (by have := HAA.out; omega)
        clear hown' hgrow hl2
        go_wp2
        go_roundg (n - (j + 1))
        case measure => omega
        case rel => exact ⟨j + 1, by rw [HAA2.out], by omega, by omega, HO2.out, HL2.out⟩
      · have hp0 : (pen j r.L).length = 0 := by omega
        rw [hp0] at HP
        have HO2 : Hid (wr.ownsRow w.heap.size 35 1 u3 (linesU r (j + 1)).length ((linesU r (j + 1)).map wv)) := Lib.hid (by rw [linesU_no hp]; exact hown)
        have HL2 := Lib.hid hlow
        have HAA2 : Hid ((a : Int) + 64 = ((64 * (j + 1) : Nat) : Int)) := Lib.hid (by omega)
        clear hr hown hlow hp hpl hp0 ha hln
        go_wp2_with fail
        refine HP.out.mono ?_
        rintro e w1 ⟨rfl, rfl⟩
        go_wp2
        go_roundg (n - (j + 1))
        case measure => omega
        case rel => exact ⟨j + 1, by rw [HAA2.out], by omega, by omega, HO2.out, HL2.out⟩
    · have hje : j = n := by omega
      have ham : ¬ a < m := by have := HMM.out; omega
      have hd : decide ((a : Int) < (m : Int)) = false := by simp; omega
      subst hje
      obtain ⟨AL, cL, rfl, _⟩ := own4_sl hown
      have HO := Lib.hid hown
      have HL := Lib.hid hlow
      clear hr hown hlow ha
      go_wp2
      go_ret
      exact ⟨⟨_, rfl, HO.out⟩, HL.out⟩
end Go.Proofs.Ytkeajfedlhgejaa
