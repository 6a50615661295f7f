/- Texts of this claim, packed: VSn, VTv. -/
import Derived.Test.YtnjecjcnkmgjmaaDoorPk27
import Derived.Test.YtnjecjcnkmgjmaaDoorPk29
import Derived.Test.YtnjecjcnkmgjmaaDoorPk25
import Derived.Test.YtnjecjcnkmgjmaaDoorPk22
/- What stands at a base of an image, by the document's own answer; an image's words; for images of whole words, at most 100000 bytes. -/
namespace Go.Proofs.YtnjecjcnkmgjmaaDoor
open Go.RowKit Go.Sort Go.Shelf
set_option linter.unusedVariables false
theorem ofB_join : ∀ l : List Nat, ofB l = joinN l
  | [] => rfl
  | b :: t => by unfold ofB joinN; rw [ofB_join t]
theorem bytesL_spr (l : List Nat) : bytesL l = spr l := rfl
theorem wordsK_cut {l : List Nat} {k n : Nat} (h : l.length = k) : wordsK l k n = cutTo l n := by
  subst h
  unfold wordsK cutTo
  apply List.map_congr_left
  intro i _
  unfold pw wordAt
  rw [List.take_length, ofB_join]
theorem bytes_cut {l : List Nat} {n : Nat} (hb : Byts l) (h : l.length = 8 * n) : bytesL (cutTo l n) = l := by
  rw [bytesL_spr]
  have := spr_cut l hb (by omega)
  unfold cutN at this
  rwa [show (l.length + 7) / 8 = n from by omega] at this
theorem cutTo_get {l : List Nat} {n i : Nat} (h : i < n) : (cutTo l n).getD i 0 = wordAt l i := by
  unfold cutTo
  rw [List.getD_eq_getElem?_getD, List.getElem?_map, List.getElem?_range h]; rfl
theorem wordAt_take (l : List Nat) (b j : Nat) (h : b % 8 = 0) : joinN ((l.drop (b + 8 * j)).take 8) = wordAt l (b / 8 + j) := by
  unfold wordAt
  rw [show 8 * (b / 8 + j) = b + 8 * j from by omega]
theorem wordAt_u64 {l : List Nat} (hb : Byts l) (j : Nat) : wordAt l j < 18446744073709551616 := by
  have := ofB_lt (xs := (l.drop (8 * j)).take 8) (fun x hx => hb x (List.mem_of_mem_drop (List.mem_of_mem_take hx)))
  rw [ofB_join] at this
  have hl : ((l.drop (8 * j)).take 8).length ≤ 8 := List.length_take_le _ _
  have : (256 : Nat) ^ ((l.drop (8 * j)).take 8).length ≤ 256 ^ 8 := Nat.pow_le_pow_right (by decide) hl
  unfold wordAt
  have e : (256 : Nat) ^ 8 = 18446744073709551616 := by decide
  omega
set_option maxRecDepth 100000 in
set_option maxHeartbeats 3200000 in
theorem stands_any (l : List Nat) (A : Option Addr) (n cap N b : Nat) (w : World) (hn : l.length = n) (hN : n = 8 * N) (h1 : n ≤ 100000) (hb : b < 18446744073709551616) (hby : Byts l) (hs : Sl w A (l.map bv)) :
    Calls Tryd.prog 19 #[.slice A n cap, .int .u64 (b : Int)] w fun e w' => e = .returned (.tuple #[.string (stS (cutTo l N) b), .int .i64 (stK (cutTo l N) b)]) ∧ Below w.heap.size w w' := by
  unfold stS stK
  rw [cutTo_length]
  by_cases hr : b % 8 ≠ 0 ∨ 8 * N ≤ b
  · rw [if_pos hr, if_pos hr]
    by_cases h8 : b % 8 = 0
    · have m0 : ((b : Int) % 8 != 0) = false := by simp [bne]; omega
      have m1 : decide ((n : Int) ≤ (b : Int)) = true := by simp; omega
      have m2 : decide (n ≤ b) = true := by simp; omega
      clear hs hr h8 hN hn hby
      go_enter Tryd.func19, Tryd.ntmps19
      go_wp2
      go_ret2
      exact ⟨rfl, Below.refl _ _⟩
    · have m0 : ((b : Int) % 8 != 0) = true := by simp [bne]; omega
      clear hs hr h8 hN hn hby
      go_enter Tryd.func19, Tryd.ntmps19
      go_wp2
      go_ret2
      exact ⟨rfl, Below.refl _ _⟩
  · rw [if_neg hr, if_neg hr]
    have h8 : b % 8 = 0 := by omega
    have hbn : b < n := by omega
    have hq : b / 8 < N := by omega
    rw [cutTo_get hq]
    obtain ⟨a, rfl⟩ : ∃ a, A = some a := by
      obtain ⟨a, e, _⟩ := hs.at_ (i := 0) (by rw [List.length_map]; omega)
      exact ⟨a, e⟩
    have HT := Lib.hid fun (W : World) (hb : Below w.heap.size w W) (k : Nat) (hk : b + 8 * k + 8 ≤ n) => take_any l a n cap (b + 8 * k) W hn (by omega) hk hby (hs.below hb)
    have HW := Lib.hid fun k => wordAt_take l b k h8
    have m0 : ((b : Int) % 8 != 0) = false := by simp [bne]; omega
    have m1 : decide ((n : Int) ≤ (b : Int)) = false := by simp; omega
    have m2 : decide (n ≤ b) = false := by simp; omega
    have HT0 := Lib.hid (HT.out w (Below.refl _ _) 0 (by omega))
    rw [HW.out 0, Nat.mul_zero, Nat.add_zero, Nat.add_zero] at HT0
    have hx64 := wordAt_u64 hby (b / 8)
    obtain ⟨x, hx⟩ : ∃ x, x = wordAt l (b / 8) := ⟨_, rfl⟩
    rw [← hx] at HT0 hx64 ⊢
    by_cases hx1 : x ≤ 120
    · rw [if_neg (Decidable.not_not.2 hx1), if_neg (Decidable.not_not.2 hx1)]
      have d1 : decide (120 < (x : Int)) = false := by simp; omega
      have d2 : decide (120 < x) = false := by simp; omega
      have HC := Lib.hid (r12Words_any (x : Int) w)
      rw [vw_cnt] at HC
      have hc16 := cnt_le x
      have hc1 := cnt_yes hx1
      by_cases hin : 8 * N < b + 8 * cnt x
      · rw [if_pos hin, if_pos hin]
        obtain ⟨c, hc⟩ : ∃ c, c = cnt x := ⟨_, rfl⟩
        rw [← hc] at HC hc16 hc1 hin
        have d3 : decide ((n : Int) < (b : Int) + 8 * (c : Int)) = true := by simp; omega
        clear hs hr h8 HT HW hn hN hby hx hc hc1 hin hq
        go_enter Tryd.func19, Tryd.ntmps19
        go_wp2_with fail
        refine HT0.out.mono ?_
        rintro e w1 ⟨rfl, rfl⟩
        go_wp2_with fail
        refine HC.out.mono ?_
        rintro e w2 ⟨rfl, rfl⟩
        go_wp2
        go_ret2
        exact ⟨rfl, Below.refl _ _⟩
      · rw [if_neg hin, if_neg hin]
        obtain ⟨i0, hi, hz0, hz1, hz2⟩ := info_parts info22
        have htl : (((cutTo l N).drop (b / 8 + 1)).take (cnt x - 1)).length + 1 = cnt x := by
          rw [List.length_take, List.length_drop, cutTo_length]; omega
        have hwd : Wrds (((cutTo l N).drop (b / 8 + 1)).take (cnt x - 1)) := by
          intro z hz
          have hz := List.mem_of_mem_drop (List.mem_of_mem_take hz)
          unfold cutTo at hz
          obtain ⟨i, _, rfl⟩ := List.mem_map.1 hz
          exact wordAt_u64 hby i
        have hfull : ((cutTo l N).drop (b / 8)).take (cnt x) = x :: ((cutTo l N).drop (b / 8 + 1)).take (cnt x - 1) := by
          rw [List.drop_eq_getElem_cons (by rw [cutTo_length]; exact hq)]
          have e1 : (cutTo l N)[b / 8]'(by rw [cutTo_length]; exact hq) = x := by
            rw [hx, ← cutTo_get hq, getD_at (by rw [cutTo_length]; exact hq)]
          rw [e1]
          obtain ⟨j, hj⟩ : ∃ j, cnt x = j + 1 := ⟨cnt x - 1, by omega⟩
          rw [hj]; rfl
        have HU := Lib.hid fun (a : Addr) (cap : Nat) (W : World) (hc : cnt x ≤ cap) (hs : Sl W (some a) ((x :: ((cutTo l N).drop (b / 8 + 1)).take (cnt x - 1)).map wv)) => refUnpack12 x (((cutTo l N).drop (b / 8 + 1)).take (cnt x - 1)) a (cnt x) cap W htl hx1 rfl hc hwd hs
        have HSN := Lib.hid fun (k : Nat) (hk : b / 8 + k < N) => take_snoc12 (cutTo l N) (b / 8) k (by rw [cutTo_length]; exact hk)
        have HG := Lib.hid fun (k : Nat) (hk : b / 8 + k < N) => (cutTo_get (l := l) hk)
        obtain ⟨S, hS⟩ : ∃ S, S = rdS x (((cutTo l N).drop (b / 8 + 1)).take (cnt x - 1)) := ⟨_, rfl⟩
        obtain ⟨K, hK⟩ : ∃ K, K = rdK x (((cutTo l N).drop (b / 8 + 1)).take (cnt x - 1)) := ⟨_, rfl⟩
        rw [← hS, ← hK] at HU ⊢
        obtain ⟨c, hc⟩ : ∃ c, c = cnt x := ⟨_, rfl⟩
        rw [← hc] at HC hc16 hc1 hin HU
        have HFL := Lib.hid hfull
        have HCC := Lib.hid hc
        have d3 : decide ((n : Int) < (b : Int) + 8 * (c : Int)) = false := by simp; omega
        have hbc : b + 8 * c ≤ n := by omega
        have HNN := Lib.hid hN
        have H8 := Lib.hid h8
        have hc0 : 0 < c := by omega
        clear hs hr h8 hn hN hby hx hc hc1 hin hq htl hwd hfull hS hK
        go_enter Tryd.func19, Tryd.ntmps19
        go_wp2_with fail
        refine HT0.out.mono ?_
        rintro e w1 ⟨rfl, rfl⟩
        go_wp2_with fail
        refine HC.out.mono ?_
        rintro e w2 ⟨rfl, rfl⟩
        go_wp2
        go_loopw [8, 9] (fun v i wr => ∃ k : Nat, k ≤ c ∧ i = .int .i64 (k : Int) ∧ wr.ownsRow w.heap.size 22 1 v k ((((cutTo l N).drop (b / 8)).take k).map wv) ∧ Below w.heap.size w wr) (fun _ i _ => c - (intOf i).toNat)
        case atStart => exact ⟨0, by omega, rfl, World.ownsRow_nil _ _ _ _, Below.refl _ _⟩
        case round =>
          rename World => wr
          obtain ⟨k, hk, rfl, hown, hb2⟩ := hrel
          by_cases hlt : k < c
          · have hkN : b / 8 + k < N := by have := HNN.out; have := H8.out; omega
            have HTk := Lib.hid (HT.out wr hb2 k (by omega))
            rw [HW.out k] at HTk
            have hsn := HSN.out k hkN
            rw [HG.out k hkN] at hsn
            obtain ⟨z, hz⟩ : ∃ z, z = wordAt l (b / 8 + k) := ⟨_, rfl⟩
            rw [← hz] at HTk hsn
            have HS2 := Lib.hid hsn
            obtain ⟨p, hp⟩ : ∃ p, p = b + 8 * k := ⟨_, rfl⟩
            rw [← hp] at HTk
            have hpe : (b : Int) + 8 * (k : Int) = (p : Int) := by omega
            have hown2 := hown.alloc (.cells #[wv z] 22)
            have h63 : k + 1 ≤ maxLen := by unfold maxLen; omega
            have hby : (k + 1) * 8 ≤ 140737488355328 := by omega
            have hbs : w.heap.size ≤ (wr.alloc (.cells #[wv z] 22)).heap.size := by have := hb2.size; simp; omega
            have HB2 := Lib.hid hb2
            clear hsn hz hp hown hb2
            go_wp2_with fail
            refine HTk.out.mono ?_
            rintro e w3 ⟨rfl, rfl⟩
            go_wp2_with (at_builtin; refine wpList_append_own _ rfl (.tmp 42) (.tmp 50) 53 rfl w.heap.size 22 i0 (.int .u64 0) 1 8 Tryd.underlying53 hi hz0 hz1 hz2 rfl (by decide) _ k _ rfl hown2 ⟨wr.heap.size, 0, none⟩ 1 1 [wv z] rfl rfl (cell_one_new _ _ _) (wv_ones [z]) h63 hby hbs ?_; intro v4 w4 hown4 hgrow hnil)
            have hb4 : Below w.heap.size w w4 := (HB2.out.alloc HB2.out.size _).grown hgrow hbs (own_from hown2)
            have hfl : (((cutTo l N).drop (b / 8)).take k).map wv ++ [wv z] = (((cutTo l N).drop (b / 8)).take (k + 1)).map wv := by rw [← HS2.out, List.map_append]; rfl
            rw [hfl] at hown4
            clear hgrow hown2 hfl hnil
            go_roundw
            case rel => exact ⟨k + 1, by omega, by go_num, hown4, hb4⟩
            case measure => simp [intOf]; omega
          · obtain rfl : k = c := by omega
            have hff : ((cutTo l N).drop (b / 8)).take k = x :: ((cutTo l N).drop (b / 8 + 1)).take (k - 1) := by rw [HCC.out]; exact HFL.out
            rw [hff] at hown
            obtain ⟨g, cp, rfl, hcp, hcm, hsl⟩ := own_some hown hc0
            have HUk := Lib.hid (HU.out _ cp _ hcp hsl)
            have HB2 := Lib.hid hb2
            clear hown hb2 hff hsl
            go_wp2_with fail
            refine HUk.out.mono ?_
            rintro e w5 ⟨rfl, hb5⟩
            have HB5 := Lib.hid hb5
            clear hb5
            go_wp2
            go_ret2
            exact ⟨rfl, Below.and HB2.out HB5.out⟩
    · rw [if_pos hx1, if_pos hx1]
      have d1 : decide (120 < (x : Int)) = true := by simp; omega
      have d2 : decide (120 < x) = true := by simp; omega
      clear hs hr h8 HT HW hn hN hby hx
      go_enter Tryd.func19, Tryd.ntmps19
      go_wp2_with fail
      refine HT0.out.mono ?_
      rintro e w1 ⟨rfl, rfl⟩
      go_wp2
      go_ret2
      exact ⟨rfl, Below.refl _ _⟩
end Go.Proofs.YtnjecjcnkmgjmaaDoor
/- A memory to which a value's stores go, one behind the other: what is seen of it, and that behind a crash what is seen is what has lasted; plain facts, and the store's contract over them. -/
namespace Go.Proofs.YtnjecjcnkmgjmaaDoor
open Go.RowKit Go.Sort Go.Shelf
set_option linter.unusedVariables false
/-- Where nothing is pending in a line, what is seen of it has lasted. -/
def St.J (s : St) : Prop := ∀ k, k / 8 < s.pend.length → s.pend.getD (k / 8) [] = [] → s.view[k]? = s.lasted[k]?
theorem ofBytes_J (nl : Nat) (l : List Nat) : (St.ofBytes nl l).J := fun _ _ _ => rfl
theorem zero_J (nl : Nat) : (St.zero nl).J := fun _ _ _ => rfl
theorem store_J {s : St} (h : s.J) {a v : Nat} (ha : a / 64 < s.pend.length) : (s.store a v).J := by
  intro k hk hp
  have hp' : (s.pend.set (a / 64) (s.pend.getD (a / 64) [] ++ [(a, v)])).getD (k / 8) [] = [] := hp
  rw [set_getD ha] at hp'
  by_cases e : k / 8 = a / 64
  · rw [if_pos e] at hp'
    simp at hp'
  · rw [if_neg e] at hp'
    show (s.view.set (a / 8) v)[k]? = s.lasted[k]?
    rw [List.getElem?_set_ne (by omega)]
    exact h k (by simpa [St.store] using hk) hp'
theorem loseV_get {las vie : List Nat} {i k : Nat} (hk : k < vie.length) (hl : las.length = vie.length) : (loseV las vie i)[k]? = if k / 8 = i then las[k]? else vie[k]? := by
  unfold loseV
  rw [List.getElem?_mapIdx, List.getElem?_eq_getElem hk]
  by_cases e : k / 8 = i
  · simp only [Option.map_some, if_pos e]
    rw [getD_at (by omega), List.getElem?_eq_getElem (by omega)]
  · simp only [Option.map_some, if_neg e]
theorem crash1_view {s : St} (ok : s.Ok) (keep : List Int) {x : Nat × Nat} (hx : x.2 < s.pend.length) (hl : s.lasted.length = s.view.length) {k : Nat} :
    (s.crash1 keep x).view[k]? = (if k / 8 = x.2 then (s.crash1 keep x).lasted[k]? else s.view[k]?) ∧ (k / 8 ≠ x.2 → (s.crash1 keep x).lasted[k]? = s.lasted[k]?) ∧ (s.crash1 keep x).lasted.length = s.lasted.length ∧ (s.crash1 keep x).view.length = s.view.length := by
  have hll : (s.crash1 keep x).lasted.length = s.lasted.length := by
    show (lastW _ _).length = _
    rw [lastW_length]
  have hvl : (s.crash1 keep x).view.length = s.view.length := by
    show (loseV _ _ _).length = _
    unfold loseV; rw [List.length_mapIdx]; rfl
  refine ⟨?_, ?_, hll, hvl⟩
  · by_cases hk : k < s.view.length
    · exact loseV_get hk (by have : (s.last x.2 (keptN keep x.1 (s.pend.getD x.2 []).length)).lasted.length = s.lasted.length := hll; exact this.trans hl)
    · rw [List.getElem?_eq_none (by omega), List.getElem?_eq_none (l := (s.crash1 keep x).lasted) (by omega), List.getElem?_eq_none (l := s.view) (by omega)]
      split <;> rfl
  · intro hne
    refine lastW_far fun p hp => ?_
    have hm := List.mem_of_mem_take hp
    rw [getD_at hx] at hm
    have := (ok.put x.2 _ (List.getElem?_eq_getElem hx) p hm).2.1
    omega
theorem crashTo_view (keep : List Int) : ∀ (xs : List (Nat × Nat)) (s : St), s.Ok → (∀ x ∈ xs, x.2 < s.pend.length) → s.lasted.length = s.view.length →
    (∀ k, (s.view[k]? = s.lasted[k]? ∨ ∃ x ∈ xs, x.2 = k / 8) → (s.crashTo keep xs).view[k]? = (s.crashTo keep xs).lasted[k]?) ∧ (s.crashTo keep xs).lasted.length = s.lasted.length ∧ (s.crashTo keep xs).view.length = s.view.length ∧
    (s.crashTo keep xs).ld = s.ld ∧ (s.crashTo keep xs).st = s.st ∧ (s.crashTo keep xs).fl = s.fl ∧ (s.crashTo keep xs).fe = s.fe
  | [], s, ok, hx, hl => ⟨fun k h => by
      rcases h with h | ⟨x, hx, _⟩
      · exact h
      · exact absurd hx List.not_mem_nil, rfl, rfl, rfl, rfl, rfl, rfl⟩
  | x :: t, s, ok, hx, hl => by
    have hx0 := hx x (by simp)
    have h1 := fun k => crash1_view ok keep hx0 hl (k := k)
    have hpl : (s.crash1 keep x).pend.length = s.pend.length := by simp [St.crash1, St.lose, St.last]
    have ok1 : (s.crash1 keep x).Ok := lose_Ok (last_Ok ok hx0 (keptN_le _ _ _)) (by simpa [St.last] using hx0)
    obtain ⟨i1, i2, i3, i4⟩ := crashTo_view keep t (s.crash1 keep x) ok1 (fun q hq => by rw [hpl]; exact hx q (by simp [hq])) (by rw [(h1 0).2.2.1, (h1 0).2.2.2]; exact hl)
    refine ⟨fun k h => i1 k ?_, i2.trans (h1 0).2.2.1, i3.trans (h1 0).2.2.2, i4⟩
    by_cases e : k / 8 = x.2
    · refine .inl ?_
      rw [(h1 k).1, if_pos e]
    · rcases h with h | ⟨q, hq, he⟩
      · refine .inl ?_
        rw [(h1 k).1, if_neg e, (h1 k).2.1 e]
        exact h
      · rcases List.mem_cons.1 hq with rfl | hq
        · exact absurd he.symm e
        · exact .inr ⟨q, hq, he⟩
theorem nzFrom_mem : ∀ (p : List (List (Nat × Nat))) (i j k : Nat), j ≤ k → k < j + p.length → p.getD (k - j) [] ≠ [] → ∃ x ∈ nzFrom p i j, x.2 = k
  | [], i, j, k, h1, h2, h => by simp at h2; omega
  | l :: t, i, j, k, h1, h2, h => by
    unfold nzFrom
    rw [List.length_cons] at h2
    by_cases e : k = j
    · subst e
      have hl : l ≠ [] := by simpa using h
      rw [if_neg hl]
      exact ⟨(i, k), by simp, rfl⟩
    · have hg : t.getD (k - (j + 1)) [] ≠ [] := by
        rw [show k - j = (k - (j + 1)) + 1 from by omega] at h
        simpa using h
      split
      · exact nzFrom_mem t i (j + 1) k (by omega) (by omega) hg
      · obtain ⟨x, hx, he⟩ := nzFrom_mem t (i + 1) (j + 1) k (by omega) (by omega) hg
        exact ⟨x, by simp [hx], he⟩
/-- Behind a crash what is seen has lasted. -/
theorem crash_view {s : St} (ok : s.Ok) (hJ : s.J) (hp : s.pend.length = s.nl) (hv : s.view.length = 8 * s.nl) (hl : s.lasted.length = 8 * s.nl) (keep : List Int) :
    (s.crash keep).view = (s.crash keep).lasted ∧ (s.crash keep).view.length = 8 * s.nl ∧ (s.crash keep).did = s.did ∧ (s.crash keep).nl = s.nl := by
  obtain ⟨h1, h2, h3, h4, h5, h6, h7⟩ := crashTo_view keep (nz s.pend) s ok (fun x hx => by have := nzFrom_bound _ _ _ x hx; omega) (by rw [hv, hl])
  refine ⟨List.ext_getElem? fun k => h1 k ?_, h3.trans hv, ?_, crashTo_nl _ _ _⟩
  · by_cases hk : k < 8 * s.nl
    · by_cases e : s.pend.getD (k / 8) [] = []
      · exact .inl (hJ k (by omega) e)
      · obtain ⟨x, hx, he⟩ := nzFrom_mem s.pend 0 0 (k / 8) (Nat.zero_le _) (by omega) (by simpa using e)
        exact .inr ⟨x, hx, he⟩
    · exact .inl (by rw [List.getElem?_eq_none (by omega), List.getElem?_eq_none (by omega)])
  · show (s.crashTo keep (nz s.pend)).ld + (s.crashTo keep (nz s.pend)).st + (s.crashTo keep (nz s.pend)).fl + (s.crashTo keep (nz s.pend)).fe = _
    rw [h4, h5, h6, h7]; rfl
/-- A memory to which k words of a value were stored, from b on. -/
structure TvI (w wr : World) (g0 g2 : Nat) (L : List (Nat × Nat)) (b : Nat) (ws : List Nat) (k : Nat) (y : Lay) (s : St) : Prop where
  mem : MemAt wr y s
  ok : s.Ok
  j : s.J
  nl : s.nl = 48
  st : s.st ≤ k
  oth : s.ld = 0 ∧ s.fl = 0 ∧ s.fe = 0
  few : ∀ l ∈ s.pend, l.length ≤ k
  view : ∀ i, i < k → s.view.getD (b / 8 + i) 0 = ws.getD i 0
  g : y.g = g0
  low : Below w.heap.size w wr
  fp : ∀ q, y.fp q → q ≠ g2 ∧ w.heap.size ≤ q
  cells : ∀ i, i < L.length → wr.cell? ⟨g2, i * 2, none⟩ = some (.int .u64 (((L.getD i (0, 0)).1 : Nat) : Int)) ∧ wr.cell? ⟨g2, i * 2 + 1, none⟩ = some (.int .u64 (((L.getD i (0, 0)).2 : Nat) : Int))
theorem TvI.vlen {w wr : World} {g0 g2 b k : Nat} {L : List (Nat × Nat)} {ws : List Nat} {y : Lay} {s : St} (h : TvI w wr g0 g2 L b ws k y s) : s.view.length = 384 := by
  have := ownsRow_len h.mem.vie
  rw [h.nl] at this
  exact this
theorem TvI.below {w wr w' : World} {g0 g2 b k : Nat} {L : List (Nat × Nat)} {ws : List Nat} {y : Lay} {s : St} (h : TvI w wr g0 g2 L b ws k y s) (hb : Below wr.heap.size wr w') : TvI w w' g0 g2 L b ws k y s :=
  ⟨h.mem.below hb, h.ok, h.j, h.nl, h.st, h.oth, h.few, h.view, h.g, Below.and h.low hb, h.fp, fun i hi => ⟨(hb.cell (block_lt_of_cell (h.cells i hi).1)).trans (h.cells i hi).1, (hb.cell (block_lt_of_cell (h.cells i hi).2)).trans (h.cells i hi).2⟩⟩
/-- One more store. -/
theorem TvI.store {w wr : World} {g0 g2 b k : Nat} {L : List (Nat × Nat)} {ws : List Nat} {y : Lay} {s : St} (h : TvI w wr g0 g2 L b ws k y s) (h8 : b % 8 = 0) (hb : b + 8 * k + 8 ≤ 3072) (hk : k ≤ 1000) (hv : ws.getD k 0 < 18446744073709551616) (hL : 0 < L.length) :
    Calls Tryd.prog 23 #[.pointer (some ⟨g0, 0, none⟩), .int .u64 ((b + 8 * k : Nat) : Int), .int .u64 ((ws.getD k 0 : Nat) : Int)] wr fun e w' => e = .returned (.int .i64 0) ∧ ∃ y' s', TvI w w' g0 g2 L b ws (k + 1) y' s' := by
  have hpl := h.mem.plen
  rw [h.nl] at hpl
  have hvl := h.vlen
  have hsto := store_ok h.mem (b + 8 * k) (ws.getD k 0) (by omega) (by rw [h.nl]; omega) hv (by have := h.st; omega) (fun l hl => by have := h.few l hl; omega)
  rw [h.g] at hsto
  refine hsto.mono ?_
  rintro e w' ⟨rfl, y', hm', ht⟩
  have hlt : (b + 8 * k) / 64 < s.pend.length := by omega
  have hg2 : g2 < wr.heap.size := block_lt_of_cell (h.cells 0 hL).1
  have hfew : (s.pend.getD ((b + 8 * k) / 64) []).length ≤ k := by rw [getD_at hlt]; exact h.few _ (List.getElem_mem _)
  refine ⟨rfl, y', s.store (b + 8 * k) (ws.getD k 0), hm', store_Ok h.ok (by omega) hlt hv (by have := h.st; omega) (by omega), store_J h.j hlt, h.nl, ?_, h.oth, ?_, ?_, ht.g.trans h.g, ?_, ?_, ?_⟩
  · have := h.st
    show s.st + 1 ≤ k + 1
    omega
  · intro l hl
    have hl' : l ∈ s.pend.set ((b + 8 * k) / 64) (s.pend.getD ((b + 8 * k) / 64) [] ++ [(b + 8 * k, ws.getD k 0)]) := hl
    rcases List.mem_or_eq_of_mem_set hl' with h1 | h1
    · have := h.few l h1; omega
    · rw [h1, List.length_append, List.length_singleton]; omega
  · intro i hi
    show (s.view.set ((b + 8 * k) / 8) (ws.getD k 0)).getD (b / 8 + i) 0 = _
    rw [List.getD_eq_getElem?_getD, List.getElem?_set]
    by_cases e : i = k
    · subst e
      rw [if_pos (by omega), if_pos (by omega)]; rfl
    · rw [if_neg (by omega), ← List.getD_eq_getElem?_getD]
      exact h.view i (by omega)
  · exact Below.trans h.low (ht.but.below h.low.size (fun q hq => (h.fp q hq).2))
  · intro q hq
    rcases ht.fp q hq with h1 | h1
    · exact h.fp q h1
    · have := h.low.size
      exact ⟨by omega, by omega⟩
  · intro i hi
    exact ⟨ht.but.cell (h.cells i hi).1 (fun e => (h.fp _ e).1 rfl), ht.but.cell (h.cells i hi).2 (fun e => (h.fp _ e).1 rfl)⟩
end Go.Proofs.YtnjecjcnkmgjmaaDoor
