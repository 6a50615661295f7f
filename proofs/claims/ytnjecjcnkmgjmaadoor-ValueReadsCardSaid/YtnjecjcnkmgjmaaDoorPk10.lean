/- Texts of this claim, packed: VSm, VPa. -/
import Derived.Test.YtnjecjcnkmgjmaaDoorPk04
import Derived.Test.YtnjecjcnkmgjmaaDoorPk07
import Derived.Test.YtnjecjcnkmgjmaaDoorPk09
/- How many words a value has, where a word stands, of which class a value is, and the text that words are; by the program and by the document's own answers; for any numbers, where geo.rooms holds what its initialiser lays. -/
namespace Go.Proofs.YtnjecjcnkmgjmaaDoor
open Go.RowKit Go.Sort Go.Shelf
set_option linter.unusedVariables false

/-- How many words a value of n bytes has; of which n is told. -/
def vw (n : Int) : Int := if 0 ≤ n ∧ n ≤ 120 then 1 + (n + 7) / 8 else 0
def cnt (n : Nat) : Nat := if n ≤ 120 then 1 + (n + 7) / 8 else 0
theorem cnt_le (n : Nat) : cnt n ≤ 16 := by unfold cnt; split <;> omega
theorem cnt_yes {n : Nat} (h : n ≤ 120) : cnt n = 1 + (n + 7) / 8 := if_pos h
theorem cnt_no {n : Nat} (h : ¬ n ≤ 120) : cnt n = 0 := if_neg h
theorem vw_cnt (n : Nat) : vw (n : Int) = (cnt n : Int) := by
  unfold vw cnt
  by_cases h : n ≤ 120
  · rw [if_pos (by omega), if_pos h]; omega
  · rw [if_neg (by omega), if_neg h]; rfl
theorem cnt_zero {n : Nat} : cnt n = 0 ↔ ¬ n ≤ 120 := by
  unfold cnt
  split <;> omega

theorem vWords_any (n : Int) (w : World) : Calls Tryd.prog 13 #[.int .i64 n] w fun e w' => e = .returned (.int .i64 (vw n)) ∧ w = w' := by
  by_cases h : 0 ≤ n ∧ n ≤ 120
  · rw [show vw n = 1 + (n + 7) / 8 from if_pos h]
    obtain ⟨h0, h1⟩ := h
    have d1 : decide (n < 0) = false := by simp; omega
    have d2 : decide (120 < n) = false := by simp; omega
    go_enter Tryd.func13, Tryd.ntmps13
    go_wp2
    go_ret
    exact ⟨gret_int (by omega), rfl⟩
  · rw [show vw n = 0 from if_neg h]
    by_cases h0 : n < 0
    · have d1 : decide (n < 0) = true := by simp; omega
      clear h
      go_enter Tryd.func13, Tryd.ntmps13
      go_wp2
      go_ret
      exact ⟨rfl, rfl⟩
    · have d1 : decide (n < 0) = false := by simp; omega
      have d2 : decide (120 < n) = true := by simp; omega
      clear h
      go_enter Tryd.func13, Tryd.ntmps13
      go_wp2
      go_ret
      exact ⟨rfl, rfl⟩
theorem r12Words_any (n : Int) (w : World) : Calls Tryd.prog 14 #[.int .i64 n] w fun e w' => e = .returned (.int .i64 (vw n)) ∧ w = w' := by
  by_cases h : 0 ≤ n ∧ n ≤ 120
  · rw [show vw n = 1 + (n + 7) / 8 from if_pos h]
    obtain ⟨h0, h1⟩ := h
    have d1 : decide (n < 0) = false := by simp; omega
    have d2 : decide (120 < n) = false := by simp; omega
    go_enter Tryd.func14, Tryd.ntmps14
    go_wp2
    clear d1 d2
    go_loop [3] (fun v => ∃ k : Nat, v = .int .i64 k ∧ 1 ≤ k ∧ (k : Int) ≤ 1 + (n + 7) / 8) (fun v => 17 - (intOf v).toNat)
    case atStart => exact ⟨1, rfl, by omega, by omega⟩
    case round =>
      obtain ⟨k, rfl, hk, hk2⟩ := hrel
      by_cases hlt : 8 * ((k : Int) - 1) < n
      · go_wp2
        go_round
        case rel => exact ⟨k + 1, by go_num, by omega, by omega⟩
        case measure => simp [intOf]; omega
      · go_wp2
        go_ret
        exact ⟨gret_int (by omega), rfl⟩
  · rw [show vw n = 0 from if_neg h]
    by_cases h0 : n < 0
    · have d1 : decide (n < 0) = true := by simp; omega
      clear h
      go_enter Tryd.func14, Tryd.ntmps14
      go_wp2
      go_ret
      exact ⟨rfl, rfl⟩
    · have d1 : decide (n < 0) = false := by simp; omega
      have d2 : decide (120 < n) = true := by simp; omega
      clear h
      go_enter Tryd.func14, Tryd.ntmps14
      go_wp2
      go_ret
      exact ⟨rfl, rfl⟩
theorem vcount_any (n : Nat) (w : World) : Calls Tryd.prog 46 #[.int .u64 (n : Int)] w fun e w' => e = .returned (.int .i64 (cnt n : Int)) ∧ w = w' := by
  by_cases h : n ≤ 120
  · have HW := Lib.hid (vWords_any (n : Int) w)
    rw [vw_cnt] at HW
    have d : decide (120 < (n : Int)) = false := by simp; omega
    have d2 : decide (120 < n) = false := by simp; omega
    obtain ⟨c, hc⟩ : ∃ c, c = cnt n := ⟨_, rfl⟩
    rw [← hc] at HW ⊢
    clear hc
    go_enter Tryd.func46, Tryd.ntmps46
    go_wp2_with fail
    refine HW.out.mono ?_
    rintro e w1 ⟨rfl, rfl⟩
    go_wp2
    go_ret
    exact ⟨rfl, rfl⟩
  · rw [cnt_no h]
    have d : decide (120 < (n : Int)) = true := by simp; omega
    have d2 : decide (120 < n) = true := by simp; omega
    go_enter Tryd.func46, Tryd.ntmps46
    go_wp2
    go_ret
    exact ⟨rfl, rfl⟩
theorem vwordAt_any (b k : Nat) (w : World) (h : b + 8 * k < 18446744073709551616) : Calls Tryd.prog 58 #[.int .u64 (b : Int), .int .i64 (k : Int)] w fun e w' => e = .returned (.int .u64 ((b + 8 * k : Nat) : Int)) ∧ w = w' := by
  have h1 : (b : Int) + k * 8 ≤ 18446744073709551615 := by omega
  have h2 : (k : Int) * 8 ≤ 18446744073709551615 := by omega
  have h3 : (k : Int) ≤ 18446744073709551615 := by omega
  clear h
  go_enter Tryd.func58, Tryd.ntmps58
  go_wp2
  go_ret
  exact ⟨gret_int (by omega), rfl⟩
/-- A value's class. -/
theorem vClass_any (s : ByteArray) (w : World) (R : Rms w) (hs : s.size ≤ maxLen) :
    Calls Tryd.prog 9 #[.string s] w fun e w' => e = .returned (.tuple #[.int .i64 (clsN s.size), .int .i64 (if clsN s.size = 0 then 10 else 0)]) ∧ Gr w w' := by
  have HC := Lib.hid (class_any (s.size : Int) w R)
  unfold maxLen at hs
  obtain ⟨c, hc⟩ : ∃ c, c = clsN (s.size : Int) := ⟨_, rfl⟩
  rw [← hc] at HC ⊢
  clear R hc
  by_cases h : c = 0
  · subst h
    go_enter Tryd.func9, Tryd.ntmps9
    go_wp2_with fail
    refine HC.out.mono ?_
    rintro e w1 ⟨rfl, hg⟩
    have HG := Lib.hid hg
    clear hg
    go_wp2
    go_ret2
    exact ⟨rfl, HG.out⟩
  · have d : (c == 0) = false := by simpa using h
    rw [if_neg h]
    clear h
    go_enter Tryd.func9, Tryd.ntmps9
    go_wp2_with fail
    refine HC.out.mono ?_
    rintro e w1 ⟨rfl, hg⟩
    have HG := Lib.hid hg
    clear hg
    go_wp2
    go_ret2
    exact ⟨rfl, HG.out⟩
/-- The text that a length and the words behind it are; why there is none. -/
def rdS (n : Nat) (t : List Nat) : ByteArray := if joinN ((spr t).drop n) = 0 then textOf n t else ⟨#[]⟩
def rdK (n : Nat) (t : List Nat) : Int := if joinN ((spr t).drop n) = 0 then 0 else 11
theorem unpack12 (n : Nat) (t : List Nat) (a : Addr) (len cap : Nat) (w : World) (hlen : t.length + 1 = len) (hn : n ≤ 120) (ht : len = cnt n) (hc : len ≤ cap) (hcm : cap ≤ maxLen) (hwd : Wrds t) (hs : Sl w (some a) ((n :: t).map wv)) :
    Calls Tryd.prog 65 #[.slice (some a) len cap] w fun e w' => e = .returned (.tuple #[.string (rdS n t), .int .i64 (rdK n t)]) ∧ Below w.heap.size w w' := by
  rw [cnt_yes hn] at ht
  unfold rdS rdK
  by_cases h : joinN ((spr t).drop n) = 0
  · rw [if_pos h, if_pos h]
    exact unpack_ok n t a len cap w hlen (by omega) hc hcm (by omega) hwd hs (by omega) (by omega) h
  · rw [if_neg h, if_neg h]
    exact unpack_bad n t a len cap w hlen (by omega) hc hcm (by omega) hwd hs (by omega) (by omega) h
theorem refUnpack12 (n : Nat) (t : List Nat) (a : Addr) (len cap : Nat) (w : World) (hlen : t.length + 1 = len) (hn : n ≤ 120) (ht : len = cnt n) (hc : len ≤ cap) (hwd : Wrds t) (hs : Sl w (some a) ((n :: t).map wv)) :
    Calls Tryd.prog 40 #[.slice (some a) len cap] w fun e w' => e = .returned (.tuple #[.string (rdS n t), .int .i64 (rdK n t)]) ∧ Below w.heap.size w w' := by
  rw [cnt_yes hn] at ht
  unfold rdS rdK
  by_cases h : joinN ((spr t).drop n) = 0
  · rw [if_pos h, if_pos h]
    exact refUnpack_ok n t a len cap w hlen (by omega) (by omega) hwd hs hc (by omega) (by omega) h
  · rw [if_neg h, if_neg h]
    exact refUnpack_bad n t a len cap w hlen (by omega) (by omega) hwd hs hc (by omega) (by omega) h
theorem cutW (a : Addr) (n c k : Nat) (h : k ≤ c) (W : World) : (Instr.slice 53 (.slice (some a) n c) none (some (.int .i64 (k : Int))) (some (.int .i64 (k : Int)))).run Tryd.prog W = .ok (.slice (some a) k k) W := by
  rw [run_slice_hm (w := W) 53 (some a) n c under37 .i64 .i64 k k (by omega) (by omega) (by omega), size_37]
  simp [sliced, add_zero']
/-- The text of words of which there are enough. -/
theorem vtext_any (n : Nat) (t u : List Nat) (a : Addr) (len cap : Nat) (w : World) (hlen : t.length + u.length + 1 = len) (hn : n ≤ 120) (ht : t.length + 1 = cnt n) (hc : len ≤ cap) (hcm : cap ≤ maxLen) (hwd : Wrds t) (hs : Sl w (some a) ((n :: t ++ u).map wv)) :
    Calls Tryd.prog 47 #[.slice (some a) len cap] w fun e w' => e = .returned (.tuple #[.string (rdS n t), .int .i64 (rdK n t)]) ∧ Below w.heap.size w w' := by
  have hc0 := hs.some_ (i := 0) (by simp)
  simp only [List.map_cons, List.cons_append, List.getElem_cons_zero, add_zero'] at hc0
  unfold wv at hc0
  have hs' : Sl w (some a) ((n :: t).map wv) := by
    intro i x hx
    exact hs i x (by
      rw [List.map_append, List.getElem?_append_left]
      · exact hx
      · exact (List.getElem?_eq_some_iff.1 hx).1)
  have HU := Lib.hid (unpack12 n t a (cnt n) (cnt n) w ht hn rfl (Nat.le_refl _) (by have := cnt_le n; unfold maxLen; omega) hwd hs')
  have HC := Lib.hid (vcount_any n w)
  have hk : cnt n ≤ cap := by omega
  have hl0 : 0 < len := by omega
  obtain ⟨k, hk'⟩ : ∃ k, k = cnt n := ⟨_, rfl⟩
  rw [← hk'] at HU HC hk
  obtain ⟨S, hS⟩ : ∃ S, S = rdS n t := ⟨_, rfl⟩
  obtain ⟨K, hK⟩ : ∃ K, K = rdK n t := ⟨_, rfl⟩
  rw [← hS, ← hK] at HU ⊢
  have q := fun W => cutW a len cap k hk W
  have HQ := Lib.hid q
  clear hk' hS hK hs hs' hlen ht hwd hk q
  unfold maxLen at hcm
  go_enter Tryd.func47, Tryd.ntmps47
  go_wp2_with fail
  refine HC.out.mono ?_
  rintro e w1 ⟨rfl, rfl⟩
  have q := HQ.out
  go_wp2_with fail
  refine HU.out.mono ?_
  rintro e w1 ⟨rfl, hb⟩
  have HB := Lib.hid hb
  clear hb q
  go_wp2
  go_ret2
  exact ⟨rfl, HB.out⟩
end Go.Proofs.YtnjecjcnkmgjmaaDoor
/- Parse: the value that stands in words of a block, or why there is none; for any class, at most 1000 words, where geo.rooms holds what its initialiser lays. -/
namespace Go.Proofs.YtnjecjcnkmgjmaaDoor
open Go.RowKit Go.Sort Go.Shelf
set_option linter.unusedVariables false
/-- What Parse answers. -/
def paK (c : Int) (l : List Nat) : Int :=
  if ¬ (c = 1 ∨ c = 2) ∨ l = [] then 2 else if ¬ l.headD 0 ≤ 120 ∨ clsN (l.headD 0) ≠ c then 11 else if l.length < cnt (l.headD 0) then 2 else rdK (l.headD 0) (l.tail.take (cnt (l.headD 0) - 1))
def paS (c : Int) (l : List Nat) : ByteArray :=
  if ¬ (c = 1 ∨ c = 2) ∨ l = [] then ⟨#[]⟩ else if ¬ l.headD 0 ≤ 120 ∨ clsN (l.headD 0) ≠ c then ⟨#[]⟩ else if l.length < cnt (l.headD 0) then ⟨#[]⟩ else rdS (l.headD 0) (l.tail.take (cnt (l.headD 0) - 1))
def PaPost (w : World) (S : ByteArray) (k : Int) (e : Ending) (w' : World) : Prop := e = .returned (.tuple #[.string S, .int .i64 k]) ∧ Below w.heap.size w w'
set_option maxRecDepth 100000 in
set_option maxHeartbeats 1600000 in
theorem vParse_any (c : Int) (l : List Nat) (A : Option Addr) (n cap : Nat) (w : World) (R : Rms w) (hn : l.length = n) (hl : n ≤ 1000) (hc : n ≤ cap) (hcm : cap ≤ maxLen) (hwd : Wrds l) (hs : Sl w A (l.map wv)) :
    Calls Tryd.prog 27 #[.int .i64 c, .slice A n cap] w (PaPost w (paS c l) (paK c l)) := by
  unfold paS paK
  by_cases h1 : ¬ (c = 1 ∨ c = 2) ∨ l = []
  · rw [if_pos h1, if_pos h1]
    by_cases hcc : c = 1 ∨ c = 2
    · have hl0 : l = [] := by
        rcases h1 with h | h
        · exact absurd hcc h
        · exact h
      subst hl0
      have hn0 : n = 0 := hn.symm
      subst hn0
      clear h1 hn hs hwd hc R
      rcases hcc with rfl | rfl
      all_goals
        go_enter Tryd.func27, Tryd.ntmps27
        go_wp2
        go_ret2
        exact ⟨rfl, Below.refl _ _⟩
    · have b1 : (c != 1) = true := by simp [bne]; omega
      have b2 : (c != 2) = true := by simp [bne]; omega
      have b3 : (c == 1) = false := by simp; omega
      have b4 : (c == 2) = false := by simp; omega
      clear h1 hs hn R hcc hwd
      go_enter Tryd.func27, Tryd.ntmps27
      go_wp2
      go_ret2
      exact ⟨rfl, Below.refl _ _⟩
  · rw [if_neg h1, if_neg h1]
    obtain ⟨hcc, hne⟩ := not_or.1 h1
    have hcc := Decidable.not_not.1 hcc
    obtain ⟨x, t, rfl⟩ : ∃ x t, l = x :: t := by
      cases l with
      | nil => exact absurd rfl hne
      | cons x t => exact ⟨x, t, rfl⟩
    show Calls Tryd.prog 27 #[.int .i64 c, .slice A n cap] w (PaPost w (if ¬ x ≤ 120 ∨ clsN x ≠ c then ⟨#[]⟩ else if (x :: t).length < cnt x then ⟨#[]⟩ else rdS x (t.take (cnt x - 1))) (if ¬ x ≤ 120 ∨ clsN x ≠ c then 11 else if (x :: t).length < cnt x then 2 else rdK x (t.take (cnt x - 1))))
    obtain ⟨a, rfl, hax⟩ := hs.at_ (i := 0) (by simp)
    simp only [List.map_cons, List.getElem_cons_zero, add_zero'] at hax
    unfold wv at hax
    have hxl : x < 18446744073709551616 := hwd x List.mem_cons_self
    have HC := Lib.hid fun (W : World) => vcount_any x W
    have HK := Lib.hid fun (W : World) (R : Rms W) => class_any (x : Int) W R
    have HR := Lib.hid R
    have hn0 : 0 < n := by rw [← hn]; simp
    have hnz : ((n : Int) == 0) = false := by simp; omega
    have guardC : (c = 1 → (c != 1) = false) ∧ (c = 2 → ((c != 1) = true ∧ (c != 2) = false)) := by
      constructor
      · rintro rfl; rfl
      · rintro rfl; exact ⟨rfl, rfl⟩
    by_cases hx : x ≤ 120
    · have hcx : ((cnt x : Nat) : Int) ≠ 0 := by rw [cnt_yes hx]; omega
      have hcx0 : (((cnt x : Nat) : Int) == 0) = false := by rw [beq_eq_false_iff_ne]; exact hcx
      have hc16 := cnt_le x
      by_cases hqc : clsN (x : Int) = c
      · have hno : ¬ (¬ x ≤ 120 ∨ clsN (x : Int) ≠ c) := by
          rintro (h | h)
          · exact h hx
          · exact h hqc
        rw [if_neg hno, if_neg hno]
        clear hno
        obtain ⟨q, hq⟩ : ∃ q, q = clsN (x : Int) := ⟨_, rfl⟩
        rw [← hq] at HK hqc
        have hqn : (q != c) = false := by simp [bne, hqc]
        have HQ := Lib.hid hqn
        by_cases hlt : (x :: t).length < cnt x
        · rw [if_pos hlt, if_pos hlt]
          have d : decide ((n : Int) < ((cnt x : Nat) : Int)) = true := by simp; omega
          have d2 : decide (n < cnt x) = true := by simp; omega
          obtain ⟨k, hk⟩ : ∃ k, k = cnt x := ⟨_, rfl⟩
          rw [← hk] at HC d d2 hcx0
          clear hk hcx hlt hqc hq R hs hwd h1 hne hn hxl hc16
          rcases hcc with rfl | rfl
          all_goals
            go_enter Tryd.func27, Tryd.ntmps27
            go_wp2_with fail
            refine (HC.out _).mono ?_
            rintro e w1 ⟨rfl, rfl⟩
            go_wp2_with fail
            refine (HK.out _ HR.out).mono ?_
            rintro e w2 ⟨rfl, hg⟩
            have HG := Lib.hid hg
            have hqn := HQ.out
            clear hg
            go_wp2
            go_ret2
            exact ⟨rfl, HG.out.all⟩
        · rw [if_neg hlt, if_neg hlt]
          have d : decide ((n : Int) < ((cnt x : Nat) : Int)) = false := by simp; omega
          have d2 : decide (n < cnt x) = false := by simp; omega
          have hlt' : t.length + 1 = n := by rw [← hn]; rfl
          have e1 : x :: t.take (cnt x - 1) ++ t.drop (cnt x - 1) = x :: t := by simp
          have htl : (t.take (cnt x - 1)).length + 1 = cnt x := by
            have := cnt_yes hx
            rw [List.length_take]; omega
          have HT := Lib.hid fun (W : World) (hs : Sl W (some a) ((x :: t).map wv)) => vtext_any x (t.take (cnt x - 1)) (t.drop (cnt x - 1)) a n cap W (by rw [← hlt', ← List.length_append, List.take_append_drop]) hx htl hc hcm (fun z hz => hwd z (List.mem_cons_of_mem _ (List.mem_of_mem_take hz))) (by rw [e1]; exact hs)
          have HSL := Lib.hid hs
          obtain ⟨k, hk⟩ : ∃ k, k = cnt x := ⟨_, rfl⟩
          rw [← hk] at HC d d2 hcx0 HT ⊢
          obtain ⟨S, hS⟩ : ∃ S, S = rdS x (t.take (k - 1)) := ⟨_, rfl⟩
          obtain ⟨K, hK⟩ : ∃ K, K = rdK x (t.take (k - 1)) := ⟨_, rfl⟩
          rw [← hS, ← hK] at HT ⊢
          clear hk hcx hlt hqc hq R hs hwd h1 hne hn hxl hc16 hS hK e1 htl hlt'
          rcases hcc with rfl | rfl
          all_goals
            go_enter Tryd.func27, Tryd.ntmps27
            go_wp2_with fail
            refine (HC.out _).mono ?_
            rintro e w1 ⟨rfl, rfl⟩
            go_wp2_with fail
            refine (HK.out _ HR.out).mono ?_
            rintro e w2 ⟨rfl, hg⟩
            have HG := Lib.hid hg
            have hqn := HQ.out
            have HT2 := Lib.hid (HT.out _ (HSL.out.below HG.out.all))
            clear hg
            go_wp2_with fail
            refine HT2.out.mono ?_
            rintro e w3 ⟨rfl, hb⟩
            have HB := Lib.hid hb
            clear hb
            go_wp2
            go_ret2
            exact ⟨rfl, Below.and HG.out.all HB.out⟩
      · rw [if_pos (.inr hqc), if_pos (.inr hqc)]
        obtain ⟨q, hq⟩ : ∃ q, q = clsN (x : Int) := ⟨_, rfl⟩
        rw [← hq] at HK hqc
        have hqn : (q != c) = true := by simp [bne, hqc]
        have HQ := Lib.hid hqn
        obtain ⟨k, hk⟩ : ∃ k, k = cnt x := ⟨_, rfl⟩
        rw [← hk] at HC hcx0
        clear hk hcx hqc hq R hs hwd h1 hne hn hxl hc16 hqn
        rcases hcc with rfl | rfl
        all_goals
          go_enter Tryd.func27, Tryd.ntmps27
          go_wp2_with fail
          refine (HC.out _).mono ?_
          rintro e w1 ⟨rfl, rfl⟩
          go_wp2_with fail
          refine (HK.out _ HR.out).mono ?_
          rintro e w2 ⟨rfl, hg⟩
          have HG := Lib.hid hg
          have hqn := HQ.out
          clear hg
          go_wp2
          go_ret2
          exact ⟨rfl, HG.out.all⟩
    · rw [if_pos (.inl hx), if_pos (.inl hx)]
      rw [cnt_no hx] at HC
      clear R hs hwd h1 hne hn hx hxl HK
      rcases hcc with rfl | rfl
      all_goals
        go_enter Tryd.func27, Tryd.ntmps27
        go_wp2_with fail
        refine (HC.out _).mono ?_
        rintro e w1 ⟨rfl, rfl⟩
        go_wp2
        go_ret2
        exact ⟨rfl, Below.refl _ _⟩
end Go.Proofs.YtnjecjcnkmgjmaaDoor
