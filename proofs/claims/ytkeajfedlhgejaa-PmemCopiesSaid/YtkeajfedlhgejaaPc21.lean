/- Texts of this claim, packed: R2Look, R2Put, R2Sto, R2Fen. -/
import Derived.Test.YtkeajfedlhgejaaPc20
import Derived.Maps.AppendAt
/- Marked and Pending of the document's memory. -/
namespace Go.Proofs.Ytkeajfedlhgejaa
open Go.RowKit
set_option linter.unusedVariables false
set_option maxRecDepth 100000 in
set_option maxHeartbeats 2000000 in
theorem r2Marked_any {w : World} {g : Nat} {r : Rf} {vF vL : Value} {ms : List Value} (h : R2At w g r vF vL ms) {i : Nat} (hi : i < r.L.length) (c : Nat) :
    Calls Try.prog 57 #[.pointer (some ⟨g, 0, none⟩), .int .i64 (i : Int), .int .i64 (c : Int)] w fun e w' => e = .returned (.bool (decide (c ∈ (r.L[i]).m))) ∧ w = w' := by
  obtain ⟨v, hv, ho⟩ := h.ms_at hi
  obtain ⟨gl, cap, rfl, _, _, _, c3, _, hm⟩ := h.cells hi hv
  obtain ⟨A, cpm, rfl, hmm⟩ := own4_sl ho
  have c1 := h.row.cell 1
  simp only [List.getElem?_toArray, List.getElem?_cons_succ, List.getElem?_cons_zero] at c1
  obtain ⟨n, hn⟩ : ∃ n, n = r.L.length := ⟨_, rfl⟩
  rw [← hn] at hi c1 hm
  generalize (r.L[i]).m = m at ho c3 hmm ⊢
  have HO := Lib.hid ho
  have hnx : n ≤ 9223372036854775807 := by unfold maxLen at hm; omega
  have hmx : m.length ≤ 9223372036854775807 := by unfold maxLen at hmm; omega
  have i0 : (0 : Int) ≤ (i : Int) := by omega
  have i1 : (i : Int) < (n : Int) := by omega
  clear h hv ho hn hm hmm
  obtain ⟨q, hq⟩ : ∃ q, q = m.length := ⟨_, rfl⟩
  rw [← hq] at c3 hmx
  have HQ := Lib.hid hq
  clear hq
  go_enter Try.func57, Try.ntmps57
  go_wp2
  go_loopg [7] q (fun k v wr => ∃ j : Nat, v = .int .i64 (j : Int) ∧ j ≤ q ∧ q - j ≤ k ∧ wr = w ∧ ∀ (t x : Nat), t < j → m[t]? = some x → x ≠ c)
  case atStart => exact ⟨0, rfl, by omega, by omega, rfl, fun t x ht => by omega⟩
  case round =>
    obtain ⟨j, rfl, hjq, hk, rfl, hno⟩ := hrel
    have HNO := Lib.hid hno
    clear hno
    by_cases hlt : j < q
    · have hlt' : j < m.length := by rw [← HQ.out]; exact hlt
      obtain ⟨gm, cp, cur, hv, _, _, hrow, hcur⟩ := own4_shape HO.out (by omega)
      obtain rfl : A = some ⟨gm, 0, none⟩ := by injection hv
      obtain ⟨x, hx⟩ : ∃ x, m[j]? = some x := ⟨_, List.getElem?_eq_getElem hlt'⟩
      have q0 : wr.cell? ⟨gm, j, none⟩ = some (.int .i64 (x : Int)) := by rw [hrow.cell]; exact hcur _ _ (by rw [List.getElem?_map, hx]; rfl)
      have HX := Lib.hid hx
      clear hrow hcur hv hlt' hx
      by_cases he : x = c
      · have HE := Lib.hid (decide_eq_true (show c ∈ m from he ▸ List.mem_of_getElem? HX.out))
        have heb : ((x : Int) == (c : Int)) = true := by simp; omega
        go_wp2
        go_ret
        exact ⟨by rw [HE.out]; rfl, rfl⟩
      · have heb : ((x : Int) == (c : Int)) = false := by simp; omega
        go_wp2
        go_roundg (q - (j + 1))
        case measure => omega
        case rel => exact ⟨j + 1, by go_num, by omega, by omega, rfl, fun t y ht hy => by
          by_cases e : t = j
          · subst e; rw [HX.out] at hy; cases hy; exact he
          · exact HNO.out t y (by omega) hy⟩
    · have hje : j = q := by omega
      have hjd : decide ((j : Int) < (q : Int)) = false := by simp; omega
      have HE := Lib.hid (decide_eq_false (show ¬ c ∈ m from fun hc => by
        obtain ⟨t, ht⟩ := List.mem_iff_getElem?.1 hc
        exact HNO.out t c (by have := (List.getElem?_eq_some_iff.1 ht).1; have := HQ.out; omega) ht rfl))
      go_wp2
      go_ret
      exact ⟨by rw [HE.out]; rfl, rfl⟩
/-- How many are pending: none where the address is no word's. -/
def pcnt (r : Rf) (a : Nat) : Nat := if a % 8 = 0 ∧ a < 64 * r.nl then (pen (a / 64) r.L).length else 0
theorem pen_snoc (j : Nat) (l : List Md) (i : Nat) (hi : i < l.length) : (pen j (l.take (i + 1))).length = (pen j (l.take i)).length + if isPen j l[i] = true then 1 else 0 := by
  rw [List.take_succ_eq_append_getElem hi, pen_append, List.length_append]
  congr 1
  simp only [pen, List.filter_cons, List.filter_nil]
  split <;> rfl
def cntB (b : Bool) (l : Nat) (L : List Md) : Nat := if b = true then (pen l L).length else 0
set_option maxRecDepth 100000 in
set_option maxHeartbeats 4000000 in
theorem r2Pending_any {w : World} {g : Nat} {r : Rf} {vF vL : Value} {ms : List Value} (h : R2At w g r vF vL ms) (a : Nat) (hn : r.nl ≤ 16384) (ha : a < 18446744073709551616) (had : ∀ x ∈ r.L, x.a < 18446744073709551616) :
    Calls Try.prog 35 #[.pointer (some ⟨g, 0, none⟩), .int .u64 (a : Int)] w fun e w' => e = .returned (.int .i64 (pcnt r a : Int)) ∧ w = w' := by
  obtain ⟨A, cap, hvL, hm⟩ := own4_sl h.li
  have c1 := h.row.cell 1
  simp only [List.getElem?_toArray, List.getElem?_cons_succ, List.getElem?_cons_zero] at c1
  rw [hvL] at c1
  have HI := Lib.hid (r2Is_any h a hn ha)
  obtain ⟨b, hb⟩ : ∃ b, b = decide (a % 8 = 0 ∧ a < 64 * r.nl) := ⟨_, rfl⟩
  rw [← hb] at HI
  have HH := Lib.hid h
  have HV := Lib.hid hvL
  have HA := Lib.hid had
  have HB := Lib.hid hb
  obtain ⟨q, hq⟩ : ∃ q, q = r.L.length := ⟨_, rfl⟩
  rw [← hq] at c1 hm
  have HQ := Lib.hid hq
  have hqx : q ≤ 9223372036854775807 := by unfold maxLen at hm; omega
  have HL := Lib.hid (r2line_any a w ha)
  obtain ⟨l, hl⟩ : ∃ l : Nat, l = a / 64 := ⟨_, rfl⟩
  rw [← hl] at HL
  have HLL := Lib.hid hl
  clear h hvL had hb hq hm hl
  go_enter Try.func35, Try.ntmps35
  go_wp2
  go_loopg [5, 6] q (fun k u v wr => ∃ j : Nat, v = .int .i64 (j : Int) ∧ u = .int .i64 (cntB b l (r.L.take j) : Int) ∧ j ≤ q ∧ q - j ≤ k ∧ wr = w)
  case atStart => exact ⟨0, rfl, by simp [pen, cntB], by omega, by omega, rfl⟩
  case round =>
    obtain ⟨j, rfl, rfl, hjq, hk, rfl⟩ := hrel
    have hpl : (pen l (r.L.take j)).length ≤ j := by
      refine Nat.le_trans (List.length_filter_le _ _) ?_
      simp; omega
    by_cases hlt : j < q
    · have hlt' : j < r.L.length := by rw [← HQ.out]; exact hlt
      obtain ⟨v, hv, ho⟩ := HH.out.ms_at hlt'
      obtain ⟨gl, cap', hvL, x0, x1, x2, x3, _, _⟩ := HH.out.cells hlt' hv
      have hAc : A = some ⟨gl, 0, none⟩ ∧ cap = cap' := by
        have := HV.out.symm.trans hvL
        injection this with e1 e2 e3
        exact ⟨e1, e3⟩
      obtain ⟨rfl, rfl⟩ := hAc
      have hsn := pen_snoc l r.L j hlt'
      have hxa := HA.out _ (List.getElem_mem hlt')
      have HX := Lib.hid (r2line_any (r.L[j]).a wr hxa)
      obtain ⟨x, hx⟩ : ∃ x, x = r.L[j] := ⟨_, rfl⟩
      rw [← hx] at hsn hxa HX x0 x2
      clear hv ho hvL x1 x3 hlt' hx
      obtain ⟨p, hp⟩ : ∃ p, p = (pen l (r.L.take j)).length := ⟨_, rfl⟩
      obtain ⟨p', hp'⟩ : ∃ p', p' = (pen l (r.L.take (j + 1))).length := ⟨_, rfl⟩
      rw [← hp] at hsn hpl
      rw [← hp'] at hsn
      have HP : Hid (cntB true l (r.L.take (j + 1)) = p') := Lib.hid hp'.symm
      have hP : cntB true l (r.L.take j) = p := hp.symm
      clear hp' hp
      cases b
      · have hF : cntB false l (r.L.take j) = 0 := rfl
        rw [hF]
        clear hF hP
        go_wp2_with fail
        refine HI.out.mono ?_
        rintro e w1 ⟨rfl, rfl⟩
        go_wp2
        go_roundg (q - (j + 1))
        case measure => omega
        case rel => exact ⟨j + 1, by go_num, rfl, by omega, by omega, rfl⟩
      · rw [hP]
        clear hP
        go_wp2_with fail
        refine HI.out.mono ?_
        rintro e w1 ⟨rfl, rfl⟩
        cases hd : x.d
        · rw [hd] at x2
          by_cases hll : x.a / 64 = l
          · have hle : (((x.a / 64 : Nat) : Int) == (l : Int)) = true := by simp; omega
            have hpe : p' = p + 1 := by rw [hsn]; simp [isPen, hd, hll]
            go_wp2_with fail
            refine HX.out.mono ?_
            rintro e w1 ⟨rfl, rfl⟩
            go_wp2_with fail
            refine HL.out.mono ?_
            rintro e w1 ⟨rfl, rfl⟩
            go_wp2
            go_roundg (q - (j + 1))
            case measure => omega
            case rel => exact ⟨j + 1, by go_num, by rw [HP.out, hpe]; go_num, by omega, by omega, rfl⟩
          · have hle : (((x.a / 64 : Nat) : Int) == (l : Int)) = false := by simp; omega
            have hpe : p' = p := by rw [hsn]; simp [isPen, hd, hll]
            go_wp2_with fail
            refine HX.out.mono ?_
            rintro e w1 ⟨rfl, rfl⟩
            go_wp2_with fail
            refine HL.out.mono ?_
            rintro e w1 ⟨rfl, rfl⟩
            go_wp2
            go_roundg (q - (j + 1))
            case measure => omega
            case rel => exact ⟨j + 1, by go_num, by rw [HP.out, hpe], by omega, by omega, rfl⟩
        · rw [hd] at x2
          have hpe : p' = p := by rw [hsn]; simp [isPen, hd]
          go_wp2
          go_roundg (q - (j + 1))
          case measure => omega
          case rel => exact ⟨j + 1, by go_num, by rw [HP.out, hpe], by omega, by omega, rfl⟩
    · have hje : j = q := by omega
      have hjd : decide ((j : Int) < (q : Int)) = false := by simp; omega
      have HE : Hid (cntB b l (r.L.take j) = pcnt r a) := Lib.hid (by
        unfold pcnt cntB
        rw [hje, HQ.out, List.take_length, HLL.out, HB.out]
        simp)
      go_wp2
      go_ret
      exact ⟨by rw [HE.out]; rfl, rfl⟩
end Go.Proofs.Ytkeajfedlhgejaa
/- The document's memory: what its own stores leave of it, and of all else; Store, Flush, Fence, Evict. -/
namespace Go.Proofs.Ytkeajfedlhgejaa
open Go.RowKit
set_option linter.unusedVariables false
theorem own4_set {w : World} {B n s g c : Nat} {e : TypeId} {xs : List Value} (h : w.ownsRow B e s (.slice (some ⟨g, 0, none⟩) n c) n xs) (j : Nat) (u : Value) : (w.setCell ⟨g, j, none⟩ u).ownsRow B e s (.slice (some ⟨g, 0, none⟩) n c) n (xs.set j u) := by
  rcases h.2 with ⟨h0, _⟩ | ⟨g', cap, cur, h0, hg, hh, hnc, hm, hsz, htk⟩
  · cases h0
  · simp only [Value.slice.injEq, Option.some.injEq, Addr.mk.injEq, and_true, true_and] at h0
    obtain ⟨rfl, rfl⟩ := h0
    refine ⟨by simpa using h.1, .inr ⟨g, c, _, rfl, hg, heap_setCell_same w g j cur e u hh, hnc, hm, by simpa using hsz, ?_⟩⟩
    rw [Array.toList_setIfInBounds, ← htk, List.take_set]
theorem flat4_setd : ∀ (l : List Md) (vs : List Value) (i : Nat) (x : Md), vs.length = l.length → l[i]? = some x → (flat4 l vs).set (i * 4 + 2) (.bool true) = flat4 (l.set i x.set) vs
  | y :: t, u :: us, 0, x, h, h1 => by
    cases h1
    rfl
  | y :: t, u :: us, i + 1, x, h, h1 => by
    have := flat4_setd t us i x (by simpa using h) (by simpa using h1)
    rw [show (i + 1) * 4 + 2 = i * 4 + 2 + 1 + 1 + 1 + 1 from by omega]
    simp only [flat4, mdC, List.set_cons_succ, List.cons_append, List.nil_append, this]
  | [], _, i, x, _, h1 => by simp at h1
  | _ :: _, [], i, x, h, _ => by simp at h
theorem flat4_setm : ∀ (l : List Md) (vs : List Value) (i : Nat) (x : Md) (v : Value) (m : List Nat), vs.length = l.length → l[i]? = some x → (flat4 l vs).set (i * 4 + 3) v = flat4 (l.set i { x with m := m }) (vs.set i v)
  | y :: t, u :: us, 0, x, v, m, h, h1 => by
    cases h1
    rfl
  | y :: t, u :: us, i + 1, x, v, m, h, h1 => by
    have := flat4_setm t us i x v m (by simpa using h) (by simpa using h1)
    rw [show (i + 1) * 4 + 3 = i * 4 + 3 + 1 + 1 + 1 + 1 from by omega]
    simp only [flat4, mdC, List.set_cons_succ, List.cons_append, List.nil_append, this]
  | [], _, i, x, _, _, _, h1 => by simp at h1
  | _ :: _, [], i, x, _, _, h, _ => by simp at h
theorem R2At.lt {w : World} {g : Nat} {r : Rf} {vF vL : Value} {ms : List Value} (h : R2At w g r vF vL ms) : ∀ k, fp2 g vF vL ms k → k < w.heap.size := by
  rintro k (rfl | hk | hk | ⟨v, hv, hk⟩)
  · exact h.row.lt
  · obtain ⟨cs, hc⟩ := own2_tg h.fi hk; exact (Array.getElem?_eq_some_iff.1 hc).1
  · obtain ⟨cs, hc⟩ := own2_tg h.li hk; exact (Array.getElem?_eq_some_iff.1 hc).1
  · obtain ⟨i, hi⟩ := List.mem_iff_getElem?.1 hv
    have hl := (List.getElem?_eq_some_iff.1 hi).1
    obtain ⟨cs, hc⟩ := own2_tg (h.mks i v _ hi (List.getElem?_eq_getElem (by rw [← h.ml]; exact hl))) hk
    exact (Array.getElem?_eq_some_iff.1 hc).1
theorem R2At.same {w w' : World} {g : Nat} {r : Rf} {vF vL : Value} {ms : List Value} (h : R2At w g r vF vL ms) (hk : ∀ k, fp2 g vF vL ms k → w'.heap[k]? = w.heap[k]?) : R2At w' g r vF vL ms :=
  ⟨h.row.same (hk g (.inl rfl)), own2_same h.fi fun k hv => hk k (.inr (.inl hv)), own2_same h.li fun k hv => hk k (.inr (.inr (.inl hv))), h.ml,
    fun i v x hi hx => own2_same (h.mks i v x hi hx) fun k hv => hk k (.inr (.inr (.inr ⟨v, List.mem_of_getElem? hi, hv⟩)))⟩
theorem R2At.below {w w' : World} {g : Nat} {r : Rf} {vF vL : Value} {ms : List Value} (h : R2At w g r vF vL ms) (hb : Below w.heap.size w w') : R2At w' g r vF vL ms := h.same fun k hk => hb.block k (h.lt k hk)
/-- What its calls may write: its struct, its list, and what is new. -/
def wr2 (g : Nat) (vL : Value) (k : Nat) : Prop := k = g ∨ vL.ownBlock = some k
theorem R2At.far {w : World} {g : Nat} {r : Rf} {vF vL : Value} {ms : List Value} (h : R2At w g r vF vL ms) : vL.ownBlock ≠ some g ∧ vF.ownBlock ≠ some g ∧ (∀ k, vF.ownBlock = some k → vL.ownBlock ≠ some k) ∧ ∀ (i : Nat) (v : Value), ms[i]? = some v → ∀ k, v.ownBlock = some k → vL.ownBlock ≠ some k ∧ k ≠ g := by
  refine ⟨fun e => ?_, fun e => ?_, fun k e1 e2 => ?_, fun i v hi k hk => ?_⟩
  · obtain ⟨cs, hc⟩ := own2_tg h.li e
    exact tag_ne hc h.row (by decide) rfl
  · obtain ⟨cs, hc⟩ := own2_tg h.fi e
    exact tag_ne hc h.row (by decide) rfl
  · obtain ⟨cs, hc⟩ := own2_tg h.fi e1
    obtain ⟨ds, hd⟩ := own2_tg h.li e2
    exact tag_ne hc hd (by decide) rfl
  · have hl := (List.getElem?_eq_some_iff.1 hi).1
    obtain ⟨cs, hc⟩ := own2_tg (h.mks i v _ hi (List.getElem?_eq_getElem (by rw [← h.ml]; exact hl))) hk
    refine ⟨fun e => ?_, fun e => ?_⟩
    · obtain ⟨ds, hd⟩ := own2_tg h.li e
      exact tag_ne hc hd (by decide) rfl
    · subst e
      exact tag_ne hc h.row (by decide) rfl
/-- A cell of its struct is another one. -/
theorem R2At.setS {w : World} {g : Nat} {r r' : Rf} {vF vL : Value} {ms : List Value} (h : R2At w g r vF vL ms) (j : Nat) (u : Value) (hn : r'.nl = r.nl) (hF : r'.F = r.F) (hL : r'.L = r.L) (hr : (#[vF, vL, wv r.ld, wv r.st, wv r.fl, wv r.fe] : Array Value).setIfInBounds j u = #[vF, vL, wv r'.ld, wv r'.st, wv r'.fl, wv r'.fe]) :
    R2At (w.setCell ⟨g, j, none⟩ u) g r' vF vL ms := by
  obtain ⟨f1, f2, f3, f4⟩ := h.far
  refine ⟨by rw [← hr]; exact h.row.set j u, ?_, ?_, by rw [hL]; exact h.ml, ?_⟩
  · rw [hn, hF]
    exact own2_same h.fi fun k hk => heap_setCell_other _ _ _ _ (fun e => f2 (by rw [hk, e]))
  · rw [hL]
    exact own2_same h.li fun k hk => heap_setCell_other _ _ _ _ (fun e => f1 (by rw [hk, e]))
  · intro i v x hi hx
    rw [hL] at hx
    exact own2_same (h.mks i v x hi hx) fun k hk => heap_setCell_other _ _ _ _ ((f4 i v hi k hk).2)
/-- A store has lasted. -/
theorem R2At.setD {w : World} {g gl c : Nat} {r : Rf} {vF : Value} {ms : List Value} (h : R2At w g r vF (.slice (some ⟨gl, 0, none⟩) r.L.length c) ms) {i : Nat} {x : Md} (hx : r.L[i]? = some x) :
    R2At (w.setCell ⟨gl, i * 4 + 2, none⟩ (.bool true)) g { r with L := r.L.set i x.set } vF (.slice (some ⟨gl, 0, none⟩) (r.L.set i x.set).length c) ms := by
  obtain ⟨f1, f2, f3, f4⟩ := h.far
  have hg : g ≠ gl := fun e => f1 (by rw [e]; rfl)
  have hl := own4_set h.li (i * 4 + 2) (.bool true)
  rw [flat4_setd r.L ms i x h.ml hx] at hl
  refine ⟨?_, ?_, ?_, by simpa using h.ml, ?_⟩
  · have := h.row.other (p := ⟨gl, i * 4 + 2, none⟩) hg (.bool true)
    simpa using this
  · exact own2_same h.fi fun k hk => heap_setCell_other _ _ _ _ (fun e => f3 k hk (by rw [e]; rfl))
  · simpa using hl
  · intro j v y hj hy
    have hy' : (r.L.set i x.set)[j]? = some y := hy
    have : ∃ z, r.L[j]? = some z ∧ z.m = y.m := by
      rw [List.getElem?_set] at hy'
      split at hy'
      · rename_i e
        subst e
        split at hy'
        · cases hy'; exact ⟨x, hx, rfl⟩
        · cases hy'
      · exact ⟨y, hy', rfl⟩
    obtain ⟨z, hz, e⟩ := this
    have := h.mks j v z hj hz
    rw [e] at this
    exact own2_same this fun k hk => heap_setCell_other _ _ _ _ (fun e => (f4 j v hj k hk).1 (by rw [e]; rfl))
/-- A store is marked: a slice that is there reads as its marks. -/
theorem R2At.setM {w : World} {g gl c : Nat} {r : Rf} {vF v' : Value} {ms : List Value} {m : List Nat} (h : R2At w g r vF (.slice (some ⟨gl, 0, none⟩) r.L.length c) ms) {i : Nat} {x : Md} (hx : r.L[i]? = some x) (hm : w.ownsRow 0 3 1 v' m.length (m.map cv)) :
    R2At (w.setCell ⟨gl, i * 4 + 3, none⟩ v') g { r with L := r.L.set i { x with m := m } } vF (.slice (some ⟨gl, 0, none⟩) (r.L.set i { x with m := m }).length c) (ms.set i v') := by
  obtain ⟨f1, f2, f3, f4⟩ := h.far
  have hg : g ≠ gl := fun e => f1 (by rw [e]; rfl)
  have hl := own4_set h.li (i * 4 + 3) v'
  rw [flat4_setm r.L ms i x v' m h.ml hx] at hl
  obtain ⟨cl, hcl⟩ := own2_tg h.li (g := gl) rfl
  refine ⟨?_, ?_, ?_, by simpa using h.ml, ?_⟩
  · have := h.row.other (p := ⟨gl, i * 4 + 3, none⟩) hg v'
    simpa using this
  · exact own2_same h.fi fun k hk => heap_setCell_other _ _ _ _ (fun e => f3 k hk (by rw [e]; rfl))
  · simpa using hl
  · intro j v y hj hy
    have hy' : (r.L.set i { x with m := m })[j]? = some y := hy
    rw [List.getElem?_set] at hy' hj
    by_cases e : i = j
    · subst e
      rw [if_pos rfl] at hy' hj
      split at hj
      · cases hj
        split at hy'
        · cases hy'
          exact own2_same hm fun k hk => heap_setCell_other _ _ _ _ (by
            obtain ⟨cs, hc⟩ := own2_tg hm hk
            exact tag_ne hc hcl (by decide))
        · cases hy'
      · cases hj
    · rw [if_neg e] at hy' hj
      exact own2_same (h.mks j v y hj hy') fun k hk => heap_setCell_other _ _ _ _ (fun e => (f4 j v hj k hk).1 (by rw [e]; rfl))
end Go.Proofs.Ytkeajfedlhgejaa
/- Store of the document's memory: one more that was made; for at most 10^6 of them. -/
namespace Go.Proofs.Ytkeajfedlhgejaa
open Go.RowKit
set_option linter.unusedVariables false
/-- What a call makes of its place. -/
structure Tn2 (w w' : World) (g : Nat) (vF vL : Value) (ms : List Value) (vF' vL' : Value) (ms' : List Value) : Prop where
  but : But w w' (fp2 g vF vL ms)
  fp : ∀ k, fp2 g vF' vL' ms' k → fp2 g vF vL ms k ∨ w.heap.size ≤ k
theorem Tn2.refl (w : World) (g : Nat) (vF vL : Value) (ms : List Value) : Tn2 w w g vF vL ms vF vL ms := ⟨But.refl _ _, fun _ h => .inl h⟩
theorem Tn2.trans {w w1 w2 : World} {g : Nat} {vF vL vF1 vL1 vF2 vL2 : Value} {ms ms1 ms2 : List Value} (h : Tn2 w w1 g vF vL ms vF1 vL1 ms1) (h2 : Tn2 w1 w2 g vF1 vL1 ms1 vF2 vL2 ms2) : Tn2 w w2 g vF vL ms vF2 vL2 ms2 :=
  ⟨h.but.trans h2.but h.fp, fun k hk => by
    rcases h2.fp k hk with q | q
    · exact h.fp k q
    · exact .inr (Nat.le_trans h.but.size q)⟩
theorem Tn2.of_below {w w' : World} {g : Nat} {vF vL : Value} {ms : List Value} (h : Below w.heap.size w w') : Tn2 w w' g vF vL ms vF vL ms := ⟨But.of_below h _, fun _ h => .inl h⟩
/-- What a call leaves. -/
def P2 (w : World) (g : Nat) (vF vL : Value) (ms : List Value) (r' : Rf) (w' : World) : Prop := ∃ vF' vL' ms', R2At w' g r' vF' vL' ms' ∧ Tn2 w w' g vF vL ms vF' vL' ms'
theorem infoMade2 : (Try.prog.info? 99).map (fun i => (i.zero, i.size, i.bytes)) = some (some (.agg #[.int .u64 0, .int .u64 0, .bool false, .slice none 0 0]), 4, 48) := by kernel_rfl
/-- The list has grown by one. -/
theorem R2At.grow {w w2 : World} {g : Nat} {r : Rf} {vF vL vL' : Value} {ms : List Value} (h : R2At w g r vF vL ms) (hg : w.grownBy w2 vL.ownBlock) (x : Md) (vx : Value) (hx : w2.ownsRow 0 3 1 vx x.m.length (x.m.map cv))
    (ho : w2.ownsRow 0 99 4 vL' (r.L.length + 1) (flat4 r.L ms ++ mdC x vx)) (hat : vL'.ownBlock = vL.ownBlock ∨ vL'.ownBlock = some w.heap.size) (hxn : ∀ k, vx.ownBlock = some k → w.heap.size ≤ k ∨ False) :
    R2At (w2.setCell ⟨g, 1, none⟩ vL') g { r with L := r.L ++ [x] } vF vL' (ms ++ [vx]) ∧ Tn2 w (w2.setCell ⟨g, 1, none⟩ vL') g vF vL ms vF vL' (ms ++ [vx]) := by
  obtain ⟨f1, f2, f3, f4⟩ := h.far
  have hrow2 : Row w2 g 65 #[vF, vL, wv r.ld, wv r.st, wv r.fl, wv r.fe] := h.row.grown hg (fun e => f1 e.symm)
  have old : ∀ k, k < w.heap.size → k ≠ g → vL.ownBlock ≠ some k → (w2.setCell ⟨g, 1, none⟩ vL').heap[k]? = w.heap[k]? := fun k h1 h2 h3 =>
    (heap_setCell_other _ _ _ _ (by show k ≠ g; exact h2)).trans (hg.block k h1 (fun e => h3 e.symm))
  refine ⟨⟨?_, ?_, ?_, ?_, ?_⟩, ?_, ?_⟩
  · exact hrow2.set 1 vL'
  · exact own2_same h.fi fun k hk => old k (h.lt k (.inr (.inl hk))) (fun e => f2 (by rw [← e]; exact hk)) (f3 k hk)
  · have e : (r.L ++ [x]).length = r.L.length + 1 := by simp
    show World.ownsRow _ _ _ _ _ (r.L ++ [x]).length (flat4 (r.L ++ [x]) (ms ++ [vx]))
    rw [flat4_snoc _ _ _ _ h.ml, e]
    exact own2_same ho fun k hk => heap_setCell_other _ _ _ _ (by
      obtain ⟨cs, hc⟩ := own2_tg ho hk
      exact tag_ne hc hrow2 (by decide))
  · simp [h.ml]
  · intro i v y hi hy
    have hy' : (r.L ++ [x])[i]? = some y := hy
    by_cases hl : i < r.L.length
    · rw [List.getElem?_append_left hl] at hy'
      rw [List.getElem?_append_left (by rw [h.ml]; exact hl)] at hi
      exact own2_same (h.mks i v y hi hy') fun k hk => old k (h.lt k (.inr (.inr (.inr ⟨v, List.mem_of_getElem? hi, hk⟩)))) (f4 i v hi k hk).2 (f4 i v hi k hk).1
    · have e : i = r.L.length := by have := (List.getElem?_eq_some_iff.1 hy').1; simp at this; omega
      subst e
      rw [List.getElem?_append_right (Nat.le_refl _), Nat.sub_self] at hy'
      rw [List.getElem?_append_right (by rw [h.ml]; exact Nat.le_refl _), h.ml, Nat.sub_self] at hi
      cases hy'; cases hi
      exact own2_same hx fun k hk => heap_setCell_other _ _ _ _ (by
        obtain ⟨cs, hc⟩ := own2_tg hx hk
        exact tag_ne hc hrow2 (by decide))
  · refine But.set ⟨hg.os, hg.tape, hg.output, hg.size, fun k hk hn => hg.block k hk (fun e => hn (.inr (.inr (.inl e.symm))))⟩ (.inl rfl) _
  · rintro k (hk | hk | hk | ⟨v, hv, hk⟩)
    · exact .inl (.inl hk)
    · exact .inl (.inr (.inl hk))
    · rcases hat with e | e
      · exact .inl (.inr (.inr (.inl (e.symm.trans hk))))
      · right
        have := Option.some.inj (hk.symm.trans e)
        omega
    · rcases List.mem_append.1 hv with hv | hv
      · exact .inl (.inr (.inr (.inr ⟨v, hv, hk⟩)))
      · have : v = vx := by simpa using hv
        subst this
        rcases hxn k hk with q | q
        · exact .inr q
        · exact q.elim
set_option maxRecDepth 100000 in
set_option maxHeartbeats 2000000 in
theorem r2Store_no {w : World} {g : Nat} {r : Rf} {vF vL : Value} {ms : List Value} (h : R2At w g r vF vL ms) (a : Nat) (v : Int) (hn : r.nl ≤ 16384) (ha : a < 18446744073709551616) (hb : ¬ (a % 8 = 0 ∧ a < 64 * r.nl)) :
    Calls Try.prog 36 #[.pointer (some ⟨g, 0, none⟩), .int .u64 (a : Int), .int .u64 v] w fun e w' => e = .returned (.int .i64 3) ∧ w = w' := by
  have HI := r2Is_any h a hn ha
  rw [decide_eq_false hb] at HI
  have HI := Lib.hid HI
  clear h hb
  go_enter Try.func36, Try.ntmps36
  go_wp2_with fail
  refine HI.out.mono ?_
  rintro e w1 ⟨rfl, rfl⟩
  go_wp2
  go_ret
  exact ⟨rfl, rfl⟩
set_option maxRecDepth 100000 in
set_option maxHeartbeats 4000000 in
theorem r2Store_yes {w : World} {g : Nat} {r : Rf} {vF vL : Value} {ms : List Value} (h : R2At w g r vF vL ms) (a v : Nat) (hn : r.nl ≤ 16384) (ha : a < 18446744073709551616) (hb : a % 8 = 0 ∧ a < 64 * r.nl) (hv : v < 18446744073709551616) (hst : r.st < 9223372036854775808) (hl : r.L.length ≤ 1000000) :
    Calls Try.prog 36 #[.pointer (some ⟨g, 0, none⟩), .int .u64 (a : Int), .int .u64 (v : Int)] w fun e w' => e = .returned (.int .i64 0) ∧ P2 w g vF vL ms (r.store a v) w' := by
  obtain ⟨i0, hi, hz0, hz1, hz2⟩ := info_parts infoMade2
  have HI := r2Is_any h a hn ha
  rw [decide_eq_true hb] at HI
  have HI := Lib.hid HI
  have c3 := h.row.cell 3
  simp only [List.getElem?_toArray, List.getElem?_cons_succ, List.getElem?_cons_zero] at c3
  change w.cell? _ = some (.int .u64 (r.st : Int)) at c3
  have fg := h.row.free
  have h1 : R2At (w.setCell ⟨g, 3, none⟩ (.int .u64 ((r.st + 1 : Nat) : Int))) g { r with st := r.st + 1 } vF vL ms := h.setS 3 _ rfl rfl rfl rfl
  have c1 := h1.row.cell 1
  simp only [List.getElem?_toArray, List.getElem?_cons_succ, List.getElem?_cons_zero] at c1
  have hsz : (w.setCell ⟨g, 3, none⟩ (.int .u64 ((r.st + 1 : Nat) : Int))).heap.size = w.heap.size := size_set _ _ _
  have eS : (((r.st + 1 : Nat) : Int)) = (r.st : Int) + 1 := by omega
  rw [eS] at h1 c1 hsz
  have HS := Lib.hid hsz
  have HH := Lib.hid h
  have H1 := Lib.hid h1
  have f3 := fg 3
  have hstI : (r.st : Int) < 9223372036854775808 := by omega
  obtain ⟨s, hs⟩ : ∃ s, s = r.st := ⟨_, rfl⟩
  have hgl := h.row.lt
  have HGL := Lib.hid hgl
  clear h hb fg h1 hsz eS hgl
  obtain ⟨m, hm⟩ : ∃ m, m = r.L.length := ⟨_, rfl⟩
  rw [← hm] at hl
  have HM := Lib.hid hm
  clear hm hs
  go_enter Try.func36, Try.ntmps36
  go_wp2_with fail
  refine HI.out.mono ?_
  rintro e w1 ⟨rfl, rfl⟩
  go_wp2_with (at_builtin; refine wpList_append_own_at _ rfl _ _ 61 rfl 0 99 i0 (.agg #[.int .u64 0, .int .u64 0, .bool false, .slice none 0 0]) 4 48 Try.underlying61 hi hz0 hz1 hz2 rfl (by decide) _ m _ rfl (by rw [HM.out]; exact H1.out.li.alloc _) ⟨w.heap.size, 0, none⟩ 1 1 [.int .u64 (a : Int), .int .u64 (v : Int), .bool false, .slice none 0 0] rfl rfl ?q1 ?q2 ?q3 ?q4 ?q5 ?_)
  case q1 =>
    intro j u hj
    rw [Addr.add_lit, Nat.zero_add]
    have hr := Row.new (w.setCell ⟨g, 3, none⟩ (.int .u64 ((r.st : Int) + 1))) 99 #[.int .u64 (a : Int), .int .u64 (v : Int), .bool false, .slice none 0 0]
    rw [HS.out] at hr
    rw [hr.cell]
    simpa using hj
  case q2 => simp [Value.oneCell']
  case q3 => unfold maxLen; omega
  case q4 => omega
  case q5 => omega
  intro v' w2 hown' hgrow hnil hat
  obtain ⟨g', cap', cur', rfl, _, _, hrow', _⟩ := own4_shape hown' (by omega)
  have ho3 : w2.ownsRow 0 99 4 (.slice (some ⟨g', 0, none⟩) (m + 1) cap') (r.L.length + 1) (flat4 r.L ms ++ mdC ⟨a, v, false, []⟩ (.slice none 0 0)) := by rw [← HM.out]; exact hown'
  have hA : R2At ((w.setCell ⟨g, 3, none⟩ (.int .u64 ((r.st : Int) + 1))).alloc (.cells #[.int .u64 (a : Int), .int .u64 (v : Int), .bool false, .slice none 0 0] 99)) g { r with st := r.st + 1 } vF vL ms := H1.out.below (alloc_below _ _)
  have hgr := hA.grow hgrow ⟨a, v, false, []⟩ (.slice none 0 0) (World.ownsRow_nil _ _ _ _) ho3 (by rw [show ((w.setCell ⟨g, 3, none⟩ (.int .u64 ((r.st : Int) + 1))).alloc (.cells #[.int .u64 (a : Int), .int .u64 (v : Int), .bool false, .slice none 0 0] 99)).heap.size = w.heap.size + 1 from by simp [HS.out]]; exact hat) (fun k hk => by cases hk)
  have hrow2 : Row w2 g 65 #[vF, vL, wv r.ld, wv (r.st + 1), wv r.fl, wv r.fe] := hA.row.grown hgrow (fun e => hA.far.1 e.symm)
  have c12 := hrow2.cell 1
  simp only [List.getElem?_toArray, List.getElem?_cons_succ, List.getElem?_cons_zero] at c12
  have f12 := hrow2.free 1
  have HE : Hid (P2 w g vF vL ms (r.store a v) (w2.setCell ⟨g, 1, none⟩ (.slice (some ⟨g', 0, none⟩) (m + 1) cap'))) := Lib.hid (by
    refine ⟨vF, _, _, hgr.1, ?_⟩
    refine Tn2.trans (w1 := (w.setCell ⟨g, 3, none⟩ (.int .u64 ((r.st : Int) + 1))).alloc (.cells #[.int .u64 (a : Int), .int .u64 (v : Int), .bool false, .slice none 0 0] 99)) ⟨But.alloc (But.set (But.refl _ _) (.inl rfl) _) _, fun k hk => .inl hk⟩ hgr.2)
  clear hown' hgrow hnil hrow' hrow2 hat ho3 hA hgr
  go_wp2
  go_ret
  exact ⟨rfl, HE.out⟩
end Go.Proofs.Ytkeajfedlhgejaa
/- Fence and Evict of the document's memory: which of its stores have lasted. -/
namespace Go.Proofs.Ytkeajfedlhgejaa
open Go.RowKit
set_option linter.unusedVariables false
/-- A list of which the first i are told anew. -/
def prefM (f : Md → Md) (L : List Md) (i : Nat) : List Md := (L.take i).map f ++ L.drop i
theorem prefM_zero (f : Md → Md) (L : List Md) : prefM f L 0 = L := by simp [prefM]
theorem prefM_all (f : Md → Md) (L : List Md) : prefM f L L.length = L.map f := by simp [prefM]
theorem prefM_len (f : Md → Md) (L : List Md) (i : Nat) : (prefM f L i).length = L.length := by simp [prefM]; omega
theorem prefM_get {f : Md → Md} {L : List Md} {i : Nat} {x : Md} (h : L[i]? = some x) : (prefM f L i)[i]? = some x := by
  have hi := (List.getElem?_eq_some_iff.1 h).1
  unfold prefM
  rw [List.getElem?_append_right (by simp; omega)]
  simp only [List.length_map, List.length_take, List.getElem?_drop]
  rw [show i + (i - min i L.length) = i from by omega]
  exact h
theorem prefM_set {f : Md → Md} {L : List Md} {i : Nat} {x : Md} (h : L[i]? = some x) : (prefM f L i).set i (f x) = prefM f L (i + 1) := by
  have hi := (List.getElem?_eq_some_iff.1 h).1
  have hx := (List.getElem?_eq_some_iff.1 h).2
  unfold prefM
  rw [List.set_append, if_neg (by simp; omega), List.take_succ_eq_append_getElem hi, List.map_append, List.append_assoc, List.drop_eq_getElem_cons hi]
  simp only [List.length_map, List.length_take]
  rw [show i - min i L.length = 0 from by omega]
  simp [hx]
theorem set_self2 {α : Type} {L : List α} {i : Nat} {x : α} (h : L[i]? = some x) : L.set i x = L := by
  apply List.ext_getElem?
  intro k
  rw [List.getElem?_set]
  by_cases e : i = k
  · subst e
    rw [if_pos rfl, if_pos (List.getElem?_eq_some_iff.1 h).1, h]
  · rw [if_neg e]
theorem prefM_keep {f : Md → Md} {L : List Md} {i : Nat} {x : Md} (h : L[i]? = some x) (hf : f x = x) : prefM f L i = prefM f L (i + 1) := by
  rw [← prefM_set h, hf]
  exact (set_self2 (prefM_get h)).symm
theorem R2At.cellsX {w : World} {g n cap : Nat} {r : Rf} {vF : Value} {A : Option Addr} {ms : List Value} (h : R2At w g r vF (.slice A n cap) ms) (hn : r.L.length = n) {i : Nat} {x : Md} (hx : r.L[i]? = some x) :
    ∃ gl v, A = some ⟨gl, 0, none⟩ ∧ ms[i]? = some v ∧ w.cell? ⟨gl, i * 4, none⟩ = some (.int .u64 (x.a : Int)) ∧ w.cell? ⟨gl, i * 4 + 1, none⟩ = some (.int .u64 (x.w : Int)) ∧ w.cell? ⟨gl, i * 4 + 2, none⟩ = some (.bool x.d) ∧ w.cell? ⟨gl, i * 4 + 3, none⟩ = some v ∧ (∀ k, w.frozen? ⟨gl, k, none⟩ = false) ∧ w.ownsRow 0 3 1 v x.m.length (x.m.map cv) := by
  have hi := (List.getElem?_eq_some_iff.1 hx).1
  have e := (List.getElem?_eq_some_iff.1 hx).2
  obtain ⟨v, hv, ho⟩ := h.ms_at hi
  obtain ⟨gl, cap', hA, x0, x1, x2, x3, fr, _⟩ := h.cells hi hv
  rw [e] at x0 x1 x2 ho
  injection hA with hA _ _
  exact ⟨gl, v, hA, hv, x0, x1, x2, x3, fr, ho⟩
theorem R2At.setX {w : World} {g gl n c : Nat} {r : Rf} {vF : Value} {ms : List Value} (h : R2At w g r vF (.slice (some ⟨gl, 0, none⟩) n c) ms) (hn : r.L.length = n) {i : Nat} {x : Md} (hx : r.L[i]? = some x) :
    R2At (w.setCell ⟨gl, i * 4 + 2, none⟩ (.bool true)) g { r with L := r.L.set i x.set } vF (.slice (some ⟨gl, 0, none⟩) n c) ms := by
  subst hn
  have := h.setD hx
  rw [List.length_set] at this
  exact this
theorem r2Marked_at {w : World} {g : Nat} {r : Rf} {vF vL : Value} {ms : List Value} (h : R2At w g r vF vL ms) {i : Nat} {x : Md} (hx : r.L[i]? = some x) (c : Nat) :
    Calls Try.prog 57 #[.pointer (some ⟨g, 0, none⟩), .int .i64 (i : Int), .int .i64 (c : Int)] w fun e w' => e = .returned (.bool (decide (c ∈ x.m))) ∧ w = w' := by
  have hi := (List.getElem?_eq_some_iff.1 hx).1
  have e := (List.getElem?_eq_some_iff.1 hx).2
  have := r2Marked_any h hi c
  rw [e] at this
  exact this
set_option maxRecDepth 100000 in
set_option maxHeartbeats 2000000 in
theorem r2Fence_no {w : World} (g : Nat) (c : Int) (hc : c < 0 ∨ 64 < c) :
    Calls Try.prog 40 #[.pointer (some ⟨g, 0, none⟩), .int .i64 c] w fun e w' => e = .returned (.int .i64 2) ∧ w = w' := by
  by_cases h0 : c < 0
  · have d0 : decide (c < 0) = true := by simpa using h0
    go_enter Try.func40, Try.ntmps40
    go_wp2
    go_ret
    exact ⟨rfl, rfl⟩
  · have d0 : decide (c < 0) = false := by simpa using h0
    have d1 : decide (64 < c) = true := by simp; omega
    go_enter Try.func40, Try.ntmps40
    go_wp2
    go_ret
    exact ⟨rfl, rfl⟩
set_option maxRecDepth 100000 in
set_option maxHeartbeats 4000000 in
theorem r2Fence_yes {w : World} {g : Nat} {r : Rf} {vF vL : Value} {ms : List Value} (h : R2At w g r vF vL ms) (c : Nat) (hc : c ≤ 64) (hfe : r.fe < 9223372036854775808) :
    Calls Try.prog 40 #[.pointer (some ⟨g, 0, none⟩), .int .i64 (c : Int)] w fun e w' => e = .returned (.int .i64 0) ∧ P2 w g vF vL ms (r.fence c) w' := by
  have c5 := h.row.cell 5
  simp only [List.getElem?_toArray, List.getElem?_cons_succ, List.getElem?_cons_zero] at c5
  change w.cell? _ = some (.int .u64 (r.fe : Int)) at c5
  have f5 := h.row.free 5
  obtain ⟨A, cap, rfl, hm⟩ := own4_sl h.li
  obtain ⟨n, hn⟩ : ∃ n, r.L.length = n := ⟨_, rfl⟩
  rw [hn] at h hm
  have h1 : R2At (w.setCell ⟨g, 5, none⟩ (.int .u64 ((r.fe + 1 : Nat) : Int))) g { r with fe := r.fe + 1 } vF (.slice A n cap) ms := h.setS 5 _ rfl rfl rfl rfl
  have eS : (((r.fe + 1 : Nat) : Int)) = (r.fe : Int) + 1 := by omega
  rw [eS] at h1
  have hfeI : (r.fe : Int) < 9223372036854775808 := by omega
  have d0 : decide ((c : Int) < 0) = false := by simp
  have d1 : decide (64 < (c : Int)) = false := by simp; omega
  have hnx : n ≤ 9223372036854775807 := by unfold maxLen at hm; omega
  have hB : But w (w.setCell ⟨g, 5, none⟩ (.int .u64 ((r.fe : Int) + 1))) (fp2 g vF (.slice A n cap) ms) := But.set (But.refl _ _) (.inl rfl) _
  have H1 := Lib.hid h1
  have HB := Lib.hid hB
  have HN := Lib.hid hn
  rw [hn]
  clear h h1 eS hm hB hn
  go_enter Try.func40, Try.ntmps40
  go_wp2
  go_loopg [5] n (fun k v wr => ∃ i : Nat, v = .int .i64 (i : Int) ∧ i ≤ n ∧ n - i ≤ k ∧ R2At wr g { r with fe := r.fe + 1, L := prefM (feM c) r.L i } vF (.slice A n cap) ms ∧ But w wr (fp2 g vF (.slice A n cap) ms))
  case atStart => exact ⟨0, rfl, by omega, by omega, by rw [prefM_zero]; exact H1.out, HB.out⟩
  case round =>
    obtain ⟨i, rfl, hin, hk, hr, hb⟩ := hrel
    rename World => wr
    clear c5 f5
    have c1 := hr.row.cell 1
    simp only [List.getElem?_toArray, List.getElem?_cons_succ, List.getElem?_cons_zero] at c1
    by_cases hlt : i < n
    · obtain ⟨x, hx⟩ : ∃ x, r.L[i]? = some x := ⟨_, List.getElem?_eq_getElem (by rw [HN.out]; exact hlt)⟩
      have hln : (prefM (feM c) r.L i).length = n := by rw [prefM_len, HN.out]
      have hx2 : (prefM (feM c) r.L i)[i]? = some x := prefM_get hx
      have HMk := Lib.hid (r2Marked_at hr hx2 c)
      obtain ⟨gl, v, rfl, hv, x0, x1, x2, x3, fr, ho⟩ := hr.cellsX hln hx2
      have fr2 := fr (i * 4 + 2)
      by_cases hcm : c ∈ x.m
      · have e : feM c x = x.set := by simp [feM, hcm]
        have HR := hr.setX hln hx2
        rw [← e] at HR
        change R2At _ g { r with fe := r.fe + 1, L := (prefM (feM c) r.L i).set i (feM c x) } _ _ _ at HR
        rw [prefM_set hx] at HR
        have HR := Lib.hid HR
        have HB2 := Lib.hid (But.set hb (p := ⟨gl, i * 4 + 2, none⟩) (.inr (.inr (.inl rfl))) (.bool true))
        rw [decide_eq_true hcm] at HMk
        clear hr hb hx hx2 hln hv x0 x1 x3 fr ho hcm e
        go_wp2_with fail
        refine HMk.out.mono ?_
        rintro e w1 ⟨rfl, rfl⟩
        go_wp2
        go_roundg (n - (i + 1))
        case measure => omega
        case rel => exact ⟨i + 1, by go_num, by omega, by omega, HR.out, HB2.out⟩
      · have e : feM c x = x := by simp [feM, hcm]
        rw [prefM_keep hx e] at hr
        have HR := Lib.hid hr
        have HB2 := Lib.hid hb
        rw [decide_eq_false hcm] at HMk
        clear hr hb hx hx2 hln hv x0 x1 x2 x3 fr fr2 ho hcm e
        go_wp2_with fail
        refine HMk.out.mono ?_
        rintro e w1 ⟨rfl, rfl⟩
        go_wp2
        go_roundg (n - (i + 1))
        case measure => omega
        case rel => exact ⟨i + 1, by go_num, by omega, by omega, HR.out, HB2.out⟩
    · have hie : i = n := by omega
      have hid : decide ((i : Int) < (n : Int)) = false := by simp; omega
      have HE : Hid (P2 w g vF (.slice A n cap) ms (r.fence c) wr) := Lib.hid (by
        refine ⟨vF, .slice A n cap, ms, ?_, hb, fun k hk => .inl hk⟩
        rw [hie, ← HN.out, prefM_all] at hr
        rw [← HN.out]
        exact hr)
      clear hr hb
      go_wp2
      go_ret
      exact ⟨rfl, HE.out⟩
end Go.Proofs.Ytkeajfedlhgejaa
