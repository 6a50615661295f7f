/- WordUnpacks answers true for every list of words: the text that is so packed, or the error, and packed again it is the list. -/
import Derived.Test.YtjpdmdplcecglaaRefUnpack
namespace Go.Proofs.Ytjpdmdplcecglaa
open Go.RowKit
set_option linter.unusedVariables false
set_option maxHeartbeats 400000 in
theorem unpacks_long (A : Option Addr) (len cap : Nat) (w : World) (h : 300 < len) :
    Calls Try.prog 8 #[.slice A len cap] w fun e w' => e = .returned (.bool true) ∧ Below w.heap.size w w' := by
  go_enter Try.func8, Try.ntmps8
  go_wp2_with fail
  refine (known_any _).mono ?_
  rintro e w3 ⟨rfl, hb3⟩
  go_wp2
  go_ret
  exact ⟨rfl, hb3⟩
set_option maxHeartbeats 400000 in
theorem unpacks_none (w : World) :
    Calls Try.prog 8 #[.slice none 0 0] w fun e w' => e = .returned (.bool true) ∧ Below w.heap.size w w' := by
  go_enter Try.func8, Try.ntmps8
  go_wp2_with fail
  refine (unpack_nil none 0 _).mono ?_
  rintro e w1 ⟨rfl, hb1⟩
  go_wp2_with fail
  refine (refUnpack_nil none 0 _).mono ?_
  rintro e w2 ⟨rfl, hb2⟩
  go_wp2_with fail
  refine (known_any _).mono ?_
  rintro e w3 ⟨rfl, hb3⟩
  go_wp2
  go_ret
  exact ⟨rfl, Below.and hb1 (Below.and hb2 hb3)⟩
/-- What Unpack, and the document's, answer of these words, wherever they lie. -/
def Answers (f : Nat) (l : List Nat) (len : Nat) (S : ByteArray) (c : Int) : Prop :=
  ∀ (A : Option Addr) (cap : Nat) (w : World), len ≤ cap → cap ≤ maxLen → Sl w A (l.map wv) → Calls Try.prog f #[.slice A len cap] w fun e w' => e = .returned (.tuple #[.string S, .int .i64 c]) ∧ Below w.heap.size w w'
set_option maxHeartbeats 800000 in
theorem unpacks_err (l : List Nat) (x : Addr) (len cap : Nat) (w : World) (hlen : l.length = len) (hl : len ≤ 300) (hc : len ≤ cap) (hcm : cap ≤ maxLen) (hs : Sl w (some x) (l.map wv))
    (HU : Hid (Answers 26 l len ⟨#[]⟩ 11)) (HR : Hid (Answers 28 l len ⟨#[]⟩ 11)) :
    Calls Try.prog 8 #[.slice (some x) len cap] w fun e w' => e = .returned (.bool true) ∧ Below w.heap.size w w' := by
  obtain ⟨i0, hi, hz0, hz1, hz2⟩ := info_parts info22
  have hown0 := World.ownsRow_nil w w.heap.size 22 1
  have hll : (l.map wv).length = len * 1 := by rw [List.length_map]; omega
  have hcells : ∀ j u, (l.map wv)[j]? = some u → w.cell? (x.add j) = some u := by
    intro j u hu
    obtain ⟨a, e, hc⟩ := hs j u hu
    cases e
    exact hc
  have m1 : 0 + len ≤ maxLen := by unfold maxLen; omega
  have m2 : (0 + len) * 8 ≤ 140737488355328 := by omega
  clear hlen
  go_enter Try.func8, Try.ntmps8
  go_wp2_with (at_builtin; refine wpList_append_own _ rfl (.const (.slice none 0 0)) (.tmp 12) 37 rfl w.heap.size 22 i0 (.int .u64 0) 1 8 Try.underlying37 hi hz0 hz1 hz2 rfl (by decide) _ 0 [] rfl hown0 x len cap (l.map wv) rfl hll hcells (wv_ones l) m1 m2 (Nat.le_refl _) ?_; intro v1 w1 hown1 hgrow1 hnil)
  simp only [Nat.zero_add, List.nil_append] at hown1
  have hb1 : Below w.heap.size w w1 := (Below.refl _ _).grown hgrow1 (Nat.le_refl _) (by intro q hq; cases hq)
  obtain ⟨A1, c1, rfl, hc1, hc1m, hs1, _⟩ := own_sl hown1
  clear hgrow1 hnil hown1 hown0 hcells hll
  have hsb := hs.below hb1
  refine (HU.out A1 c1 _ hc1 hc1m hs1).mono ?_
  rintro e w2 ⟨rfl, hb2⟩
  have hsb2 := hsb.below hb2
  go_wp2_with fail
  refine (HR.out (some x) cap _ hc hcm hsb2).mono ?_
  rintro e w3 ⟨rfl, hb3⟩
  go_wp2_with fail
  refine (known_any _).mono ?_
  rintro e w4 ⟨rfl, hb4⟩
  go_wp2
  go_ret
  exact ⟨rfl, Below.and hb1 (Below.and hb2 (Below.and hb3 hb4))⟩
set_option maxHeartbeats 800000 in
theorem unpacks_ok (l : List Nat) (S : ByteArray) (x : Addr) (len cap : Nat) (w : World) (hlen : l.length = len) (hl : len ≤ 300) (hc : len ≤ cap) (hcm : cap ≤ maxLen) (hs : Sl w (some x) (l.map wv))
    (HU : Hid (Answers 26 l len S 0)) (HR : Hid (Answers 28 l len S 0)) (hS : S.size ≤ 1000000) (hP : packN S = l) :
    Calls Try.prog 8 #[.slice (some x) len cap] w fun e w' => e = .returned (.bool true) ∧ Below w.heap.size w w' := by
  obtain ⟨i0, hi, hz0, hz1, hz2⟩ := info_parts info22
  have HP := Lib.hid fun w => pack_at S l len w hS hP hlen
  have HSM := Lib.hid fun A c w h1 h2 => same_yes l len A (some x) c cap w hlen (by omega) h1 h2
  have hown0 := World.ownsRow_nil w w.heap.size 22 1
  have hll : (l.map wv).length = len * 1 := by rw [List.length_map]; omega
  have hcells : ∀ j u, (l.map wv)[j]? = some u → w.cell? (x.add j) = some u := by
    intro j u hu
    obtain ⟨a, e, hc⟩ := hs j u hu
    cases e
    exact hc
  have m1 : 0 + len ≤ maxLen := by unfold maxLen; omega
  have m2 : (0 + len) * 8 ≤ 140737488355328 := by omega
  have hss : (S.toList == S.toList) = true := by simp
  clear hlen hP
  go_enter Try.func8, Try.ntmps8
  go_wp2_with (at_builtin; refine wpList_append_own _ rfl (.const (.slice none 0 0)) (.tmp 12) 37 rfl w.heap.size 22 i0 (.int .u64 0) 1 8 Try.underlying37 hi hz0 hz1 hz2 rfl (by decide) _ 0 [] rfl hown0 x len cap (l.map wv) rfl hll hcells (wv_ones l) m1 m2 (Nat.le_refl _) ?_; intro v1 w1 hown1 hgrow1 hnil)
  simp only [Nat.zero_add, List.nil_append] at hown1
  have hb1 : Below w.heap.size w w1 := (Below.refl _ _).grown hgrow1 (Nat.le_refl _) (by intro q hq; cases hq)
  obtain ⟨A1, c1, rfl, hc1, hc1m, hs1, _⟩ := own_sl hown1
  clear hgrow1 hnil hown1 hown0 hcells hll
  have hsb := hs.below hb1
  refine (HU.out A1 c1 _ hc1 hc1m hs1).mono ?_
  rintro e w2 ⟨rfl, hb2⟩
  have hsb2 := hsb.below hb2
  go_wp2_with fail
  refine (HR.out (some x) cap _ hc hcm hsb2).mono ?_
  rintro e w3 ⟨rfl, hb3⟩
  have hsb3 := hsb2.below hb3
  go_wp2_with fail
  refine (HP.out _).mono ?_
  rintro e w4 ⟨A4, c4, rfl, hs4, hb4⟩
  go_wp2_with fail
  refine (HSM.out _ _ _ hs4 (hsb3.below hb4)).mono ?_
  rintro e w5 ⟨rfl, q5, hw5⟩
  have hb5 : Below w4.heap.size w4 w5 := by rw [hw5]; exact drewN_below _ _
  clear hw5
  go_wp2_with fail
  refine (known_any _).mono ?_
  rintro e w6 ⟨rfl, hb6⟩
  go_wp2
  go_ret
  exact ⟨rfl, Below.and hb1 (Below.and hb2 (Below.and hb3 (Below.and hb4 (Below.and hb5 hb6))))⟩
theorem unpacks_all (A : Option Addr) (len cap : Nat) (zs : List Int) (w : World) (h0 : InRow .u64 w A len cap zs) :
    Calls Try.prog 8 #[.slice A len cap] w fun e w' => e = .returned (.bool true) ∧ Below w.heap.size w w' := by
  have hcm : cap ≤ maxLen := by
    rcases h0 with ⟨_, _, rfl, _⟩ | ⟨_, _, _, h, _⟩
    · exact Nat.zero_le _
    · exact h
  obtain ⟨l, hlen, hwd, hs, hc, hnil⟩ := h0.read wf_word
  have hs' : Sl w A (l.map wv) := hs
  by_cases hl : 300 < len
  · exact unpacks_long A len cap w hl
  · rcases A with _ | x
    · obtain ⟨rfl, rfl⟩ := hnil rfl
      exact unpacks_none w
    · rcases l with _ | ⟨n, t⟩
      · have h0 : len = 0 := hlen.symm
        subst h0
        exact unpacks_err [] x 0 cap w rfl (by omega) hc hcm hs' (Lib.hid fun A c w _ _ _ => unpack_nil A c w) (Lib.hid fun A c w _ _ _ => refUnpack_nil A c w)
      · have hlen' : t.length + 1 = len := by simpa using hlen
        have hn : n < 18446744073709551616 := hwd n (by simp)
        have ht : Wrds t := fun x hx => hwd x (by simp [hx])
        have hsome : ∀ {A : Option Addr} {w : World}, Sl w A ((n :: t).map wv) → ∃ a, A = some a ∧ w.cell? a = some (wv n) := by
          intro A w h
          obtain ⟨a, e, hc⟩ := h.at_ (i := 0) (by simp)
          refine ⟨a, e, ?_⟩
          rw [add_zero'] at hc
          simpa using hc
        by_cases hroom : 8 * t.length < n ∨ 8 ≤ 8 * t.length - n
        · refine unpacks_err (n :: t) x len cap w hlen (by omega) hc hcm hs' (Lib.hid fun A c w _ _ h => ?_) (Lib.hid fun A c w _ _ h => ?_)
          · obtain ⟨a, rfl, hc⟩ := hsome h
            exact unpack_room n t.length a len c w hlen' (by omega) hn hc hroom
          · obtain ⟨a, rfl, hc⟩ := hsome h
            exact refUnpack_room n t.length a len c w hlen' (by omega) hn hc hroom
        · by_cases hz : joinN ((spr t).drop n) = 0
          · refine unpacks_ok (n :: t) (textOf n t) x len cap w hlen (by omega) hc hcm hs' (Lib.hid fun A c w h1 h2 h => ?_) (Lib.hid fun A c w h1 h2 h => ?_) ?_ (pack_text n t ht (by omega) (by omega) hz)
            · obtain ⟨a, rfl, _⟩ := hsome h
              exact unpack_ok n t a len c w hlen' (by omega) h1 h2 hn ht h (by omega) (by omega) hz
            · obtain ⟨a, rfl, _⟩ := hsome h
              exact refUnpack_ok n t a len c w hlen' (by omega) hn ht h h1 (by omega) (by omega) hz
            · unfold textOf
              rw [strOf_size, List.length_take]
              omega
          · refine unpacks_err (n :: t) x len cap w hlen (by omega) hc hcm hs' (Lib.hid fun A c w h1 h2 h => ?_) (Lib.hid fun A c w h1 h2 h => ?_)
            · obtain ⟨a, rfl, _⟩ := hsome h
              exact unpack_bad n t a len c w hlen' (by omega) h1 h2 hn ht h (by omega) (by omega) hz
            · obtain ⟨a, rfl, _⟩ := hsome h
              exact refUnpack_bad n t a len c w hlen' (by omega) hn ht h h1 (by omega) (by omega) hz
end Go.Proofs.Ytjpdmdplcecglaa
