/- Texts of this claim, packed: N9Mv, N9Set. -/
import Derived.Test.YtbadlmicbbjkaaaPe16
import Derived.Test.YtbadlmicbbjkaaaPe14
import Derived.WalkMore
/- fast's takeOut and makeRoom: of any node; conditions: a base that may be, places of its. -/
namespace Go.Proofs.Ytbadlmicbbjkaaa
open Go.RowKit
set_option linter.unusedVariables false
/-- The stores that close a gap: so many entries behind it. -/
def dnL (base : Int) (n : Nd) : Nat → Nat → List (Int × Int)
  | i, 0 => [(pA base i, 0)]
  | i, c + 1 => (kA base i, n.key (i + 1)) :: (pA base i, n.ptr (i + 1)) :: dnL base n (i + 1) c
theorem dnL_len (base : Int) (n : Nd) : ∀ c i, (dnL base n i c).length = 2 * c + 1
  | 0, i => rfl
  | c + 1, i => by rw [dnL, List.length_cons, List.length_cons, dnL_len base n c]; omega
theorem ChAt.key {w : World} {B b : Nat} {base : Int} {n : Nd} {l : List (Int × Int)} (h : ChAt w B b base n l) {i : Nat} (hi : i < 8) : w.cell? ⟨b, 6 + i, none⟩ = some (.int .u64 (n.key i)) := by
  have := h.node (5 + i) _ (n.at_key hi)
  rw [show 1 + (5 + i) = 6 + i by omega] at this
  exact this
theorem ChAt.ptr {w : World} {B b : Nat} {base : Int} {n : Nd} {l : List (Int × Int)} (h : ChAt w B b base n l) {i : Nat} (hi : i < 8) : w.cell? ⟨b, 14 + i, none⟩ = some (.int .u64 (n.ptr i)) := by
  have := h.node (13 + i) _ (n.at_ptr hi)
  rw [show 1 + (13 + i) = 14 + i by omega] at this
  exact this
theorem app2 {l : List (Int × Int)} {a b : Int × Int} : l ++ [a] ++ [b] = l ++ [a, b] := by simp
set_option maxRecDepth 100000 in
set_option maxHeartbeats 4000000 in
theorem takeOut_any {w : World} {B b : Nat} {base : Int} {n : Nd} {l : List (Int × Int)} (h : ChAt w B b base n l) (hl : l.length ≤ 100) (hb : 0 ≤ base ∧ base ≤ 1099511627776) {p : Nat} (hp : p < n.len) :
    Calls Try.prog 46 #[.pointer (some ⟨b, 0, none⟩), .int .i64 (p : Int)] w fun e w' => e = .returned (.tuple #[]) ∧ ChAt w' B b base n (l ++ dnL base n p (n.len - 1 - p)) ∧ Below B w w' := by
  have hln := n.len_le
  have HL := Lib.hid (len_any n w)
  have HN := Lib.hid h.node
  have HCH := Lib.hid h
  obtain ⟨q, hq⟩ : ∃ q, n.len = q + 1 := ⟨n.len - 1, by omega⟩
  have HQ := Lib.hid hq
  rw [hq] at HL
  have hq1 : ((q + 1 : Nat) : Int) - 1 = (q : Int) := by omega
  have hpq : p ≤ q := by omega
  have hq8 : q < 8 := by omega
  have hlt := h.lt
  obtain ⟨hBb, _⟩ := h
  have HBw := Lib.hid (show B ≤ w.heap.size by omega)
  clear hq hp hln
  go_enter Try.func46, Try.ntmps46
  go_wp2_with (first
    | (refine wpList_load_mid rfl _ _ rfl b 1 rfl n.cl _ HN.out Try.underlying27 rfl ndI ?_)
    | (go_at_call 49; refine HL.out.mono ?_; rintro e w1 ⟨rfl, h1⟩; have HC1 := Lib.hid (HCH.out.low h1)))
  go_loopw [5] (fun i wr => ∃ k : Nat, p ≤ k ∧ k ≤ q ∧ i = .int .i64 (k : Int) ∧ ∃ m : List (Int × Int), ChAt wr B b base n m ∧ m ++ dnL base n k (q - k) = l ++ dnL base n p (q - p) ∧ m.length ≤ 100 + 2 * k ∧ Below B w wr) (fun i _ => q - (intOf i).toNat)
  case atStart => exact ⟨p, Nat.le_refl _, hpq, rfl, l, HC1.out, rfl, by omega, h1.mono HBw.out⟩
  case round =>
    rename World => wr
    obtain ⟨k, hpk, hkq, rfl, m, hc, hm, hml, hbl⟩ := hrel
    have HC := Lib.hid hc
    have HM := Lib.hid hm
    have HBl := Lib.hid hbl
    clear hc hm hbl
    by_cases hlt : k < q
    · have ck := HC.out.key (i := k + 1) (by omega)
      have hk8 : (k : Int) + 1 < 8 := by omega
      have HS1 := Lib.hid (ckey_any HC.out (by omega) hb (p := k) (by omega) (n.key (k + 1)))
      have HS2 := Lib.hid (fun W (h : ChAt W B b base n (m ++ [(kA base k, n.key (k + 1))])) => cptr_any h (by rw [List.length_append, List.length_singleton]; omega) hb (p := k) (by omega) (n.ptr (k + 1)))
      have HST := Lib.hid (show dnL base n k (q - k) = [(kA base k, n.key (k + 1)), (pA base k, n.ptr (k + 1))] ++ dnL base n (k + 1) (q - (k + 1)) by rw [show q - k = (q - (k + 1)) + 1 by omega]; rfl)
      obtain ⟨y, hy⟩ : ∃ y, y = n.key (k + 1) := ⟨_, rfl⟩
      obtain ⟨z, hz⟩ : ∃ z, z = n.ptr (k + 1) := ⟨_, rfl⟩
      have HPt := Lib.hid (fun W (h : ChAt W B b base n (m ++ [(kA base k, y)])) => (show W.cell? ⟨b, 14 + (k + 1), none⟩ = some (.int .u64 z) by rw [hz]; exact h.ptr (by omega)))
      rw [← hy] at ck HS1 HS2 HST
      rw [← hz] at HS2 HST
      clear hy hz
      go_wp2_with (first
        | (go_at_call 56; refine HS1.out.mono ?_; rintro e w2 ⟨rfl, h2, hb2⟩; have cp := HPt.out _ h2)
        | (go_at_call 57; refine (HS2.out _ h2).mono ?_; rintro e w3 ⟨rfl, h3, hb3⟩))
      refine ⟨⟨k + 1, by omega, by omega, by go_num, _, h3, ?_, by rw [List.length_append, List.length_append]; simp; omega, HBl.out.trans (hb2.trans hb3)⟩, by simp [intOf]; omega⟩
      rw [← HM.out, HST.out, app2, List.append_assoc]
    · obtain rfl : k = q := by omega
      have HS2 := Lib.hid (cptr_any HC.out (by omega) hb (p := k) (by omega) 0)
      have HE := Lib.hid (show m ++ [(pA base k, 0)] = l ++ dnL base n p (k - p) by rw [← HM.out, Nat.sub_self]; rfl)
      go_wp2_with (first
        | (go_at_call 57; refine HS2.out.mono ?_; rintro e w3 ⟨rfl, h3, hb3⟩))
      go_end0
      rw [HQ.out, Nat.add_sub_cancel, ← HE.out]
      exact ⟨rfl, h3, HBl.out.trans hb3⟩
/-- The stores that make room: so many entries from a place on go one place further, the last one first. -/
def upN (base : Int) (n : Nd) (p : Nat) : Nat → List (Int × Int)
  | 0 => []
  | c + 1 => (pA base (p + c + 1), n.ptr (p + c)) :: (kA base (p + c + 1), n.key (p + c)) :: upN base n p c
theorem upN_len (base : Int) (n : Nd) (p : Nat) : ∀ c, (upN base n p c).length = 2 * c
  | 0 => rfl
  | c + 1 => by rw [upN, List.length_cons, List.length_cons, upN_len base n p c]; omega
/-- All of makeRoom's. -/
def mkRoom (base : Int) (n : Nd) (p : Nat) : List (Int × Int) := (if n.len < 7 then [(pA base (n.len + 1), 0)] else []) ++ (upN base n p (n.len - p) ++ [(pA base p, n.ahd p)])
set_option maxRecDepth 100000 in
set_option maxHeartbeats 4000000 in
theorem makeRoom_any {w : World} {B b : Nat} {base : Int} {n : Nd} {l : List (Int × Int)} (h : ChAt w B b base n l) (hl : l.length ≤ 100) (hb : 0 ≤ base ∧ base ≤ 1099511627776) {p : Nat} (hp : p ≤ n.len) (h7 : n.len ≤ 7) :
    Calls Try.prog 55 #[.pointer (some ⟨b, 0, none⟩), .int .i64 (p : Int)] w fun e w' => e = .returned (.tuple #[]) ∧ ChAt w' B b base n (l ++ mkRoom base n p) ∧ Below B w w' := by
  have HL := Lib.hid (len_any n w)
  have HN := Lib.hid h.node
  have HCH := Lib.hid h
  have HMK := Lib.hid (show mkRoom base n p = (if n.len < 7 then [(pA base (n.len + 1), 0)] else []) ++ (upN base n p (n.len - p) ++ [(pA base p, n.ahd p)]) from rfl)
  obtain ⟨q, hq⟩ : ∃ q, q = n.len := ⟨_, rfl⟩
  rw [← hq] at HL hp h7 HMK
  have hlt := h.lt
  obtain ⟨hBb, _⟩ := h
  have HBw := Lib.hid (show B ≤ w.heap.size by omega)
  clear hq
  go_enter Try.func55, Try.ntmps55
  go_wp2_with fail
  go_step3
  go_wp2_with (first
    | (refine wpList_load_mid rfl _ _ rfl b 1 rfl n.cl _ HN.out Try.underlying27 rfl ndI ?_)
    | (go_at_call 49; refine HL.out.mono ?_; rintro e w1 ⟨rfl, h1⟩; have HC1 := Lib.hid (HCH.out.low h1)))
  go_step3
  go_wp2
  go_loopw [5] (fun i wr => ∃ k : Nat, p ≤ k ∧ k ≤ q + 1 ∧ i = .int .i64 (k : Int) ∧ ∃ m : List (Int × Int), ChAt wr B b base n m ∧ m ++ (if k = q + 1 then mkRoom base n p else upN base n p (k - p) ++ [(pA base p, n.ahd p)]) = l ++ mkRoom base n p ∧ m.length + 2 * k ≤ 200 ∧ Below B w wr) (fun i _ => (intOf i).toNat)
  case atStart => exact ⟨q + 1, by omega, Nat.le_refl _, by go_num, l, HC1.out, by rw [if_pos rfl], by omega, h1.mono HBw.out⟩
  case round =>
    rename World => wr
    obtain ⟨k, hpk, hkq, rfl, m, hc, hm, hml, hbl⟩ := hrel
    have HC := Lib.hid hc
    have HM := Lib.hid hm
    have HBl := Lib.hid hbl
    clear hc hm hbl
    obtain hk1 | hk1 : k = q + 1 ∨ k ≤ q := by omega
    · subst hk1
      obtain h7b | h7b : q < 7 ∨ q = 7 := by omega
      · have hk8 : (((q + 1 : Nat) : Int) == 8) = false := by simp; omega
        have hkq2 : (q : Int) < ((q + 1 : Nat) : Int) := by omega
        have hk1 : ((q + 1 : Nat) : Int) - 1 = (q : Int) := by omega
        have HS := Lib.hid (cptr_any HC.out (by omega) hb (p := q + 1) (by omega) 0)
        have HX := Lib.hid (show (m ++ [(pA base (q + 1), 0)]) ++ (if q = q + 1 then mkRoom base n p else upN base n p (q - p) ++ [(pA base p, n.ahd p)]) = l ++ mkRoom base n p by
          rw [if_neg (by omega), ← HM.out, if_pos rfl, HMK.out, if_pos h7b]
          simp)
        go_wp2_with (first
          | (go_at_call 57; refine HS.out.mono ?_; rintro e w3 ⟨rfl, h3, hb3⟩))
        exact ⟨⟨q, by omega, by omega, by go_num, _, h3, HX.out, by rw [List.length_append, List.length_singleton]; omega, HBl.out.trans hb3⟩, by simp [intOf]⟩
      · subst h7b
        have HX := Lib.hid (show m ++ (if 7 = 7 + 1 then mkRoom base n p else upN base n p (7 - p) ++ [(pA base p, n.ahd p)]) = l ++ mkRoom base n p by
          rw [if_neg (by omega), ← HM.out, if_pos rfl, HMK.out, if_neg (by omega)]
          simp)
        go_wp2
        exact ⟨⟨7, by omega, by omega, by rfl, _, HC.out, HX.out, by omega, HBl.out⟩, by simp [intOf]⟩
    · have hk8 : ((k : Int) == 8) = false := by simp; omega
      have hkq2 : ¬ (q : Int) < (k : Int) := by omega
      have HMk := Lib.hid (show m ++ (upN base n p (k - p) ++ [(pA base p, n.ahd p)]) = l ++ mkRoom base n p by rw [← HM.out, if_neg (by omega)])
      obtain hpk2 | hpk2 : k = p ∨ p < k := by omega
      · subst hpk2
        have HA := Lib.hid (fun W' => fahead_any n (p := k) (by omega) W')
        have HNd := Lib.hid HC.out.node
        obtain ⟨y, hy⟩ : ∃ y, y = n.ahd k := ⟨_, rfl⟩
        have HE := Lib.hid (show m ++ [(pA base k, y)] = l ++ mkRoom base n k by rw [← HMk.out, Nat.sub_self, hy]; rfl)
        rw [← hy] at HA
        have HS := Lib.hid (fun W (h : ChAt W B b base n m) => cptr_any h (by omega) hb (p := k) (by omega) y)
        clear hy
        go_wp2_with (first
          | (refine wpList_load_mid rfl _ _ rfl b 1 rfl n.cl _ HNd.out Try.underlying27 rfl ndI ?_)
          | (go_at_call 58; refine (HA.out _).mono ?_; rintro e w2 ⟨rfl, h2⟩; have HC2 := Lib.hid (HC.out.low h2); have HB2 := Lib.hid (HBl.out.trans (h2.mono (Nat.le_trans HBw.out HBl.out.size))))
          | (go_at_call 57; refine (HS.out _ HC2.out).mono ?_; rintro e w3 ⟨rfl, h3, hb3⟩))
        rw [Exit.noGoto_normal]
        go_end0
        rw [← HE.out]
        exact ⟨rfl, h3, HB2.out.trans hb3⟩
      · have hpk3 : (p : Int) < (k : Int) := by omega
        obtain ⟨j, rfl⟩ : ∃ j, k = j + 1 := ⟨k - 1, by omega⟩
        have hj1 : ((j + 1 : Nat) : Int) - 1 = (j : Int) := by omega
        have hj8 : (j : Int) < 8 := by omega
        have cp := HC.out.ptr (i := j) (by omega)
        have HS1 := Lib.hid (cptr_any HC.out (by omega) hb (p := j + 1) (by omega) (n.ptr j))
        have HS2 := Lib.hid (fun W (h : ChAt W B b base n (m ++ [(pA base (j + 1), n.ptr j)])) => ckey_any h (by rw [List.length_append, List.length_singleton]; omega) hb (p := j + 1) (by omega) (n.key j))
        have HST := Lib.hid (show upN base n p (j + 1 - p) = [(pA base (j + 1), n.ptr j), (kA base (j + 1), n.key j)] ++ upN base n p (j - p) by
          obtain ⟨c, rfl⟩ : ∃ c, j = p + c := ⟨j - p, by omega⟩
          rw [show p + c + 1 - p = c + 1 by omega, show p + c - p = c by omega]
          rfl)
        obtain ⟨y, hy⟩ : ∃ y, y = n.key j := ⟨_, rfl⟩
        obtain ⟨z, hz⟩ : ∃ z, z = n.ptr j := ⟨_, rfl⟩
        have HKy := Lib.hid (fun W (h : ChAt W B b base n (m ++ [(pA base (j + 1), z)])) => (show W.cell? ⟨b, 6 + j, none⟩ = some (.int .u64 y) by rw [hy]; exact h.key (by omega)))
        rw [← hy] at HS2 HST
        rw [← hz] at cp HS1 HS2 HST
        clear hy hz
        go_wp2_with (first
          | (go_at_call 57; refine HS1.out.mono ?_; rintro e w2 ⟨rfl, h2, hb2⟩; have cky := HKy.out _ h2)
          | (go_at_call 56; refine (HS2.out _ h2).mono ?_; rintro e w3 ⟨rfl, h3, hb3⟩))
        refine ⟨⟨j, by omega, by omega, by go_num, _, h3, ?_, by rw [List.length_append, List.length_append]; simp; omega, HBl.out.trans (hb2.trans hb3)⟩, by simp [intOf]⟩
        rw [if_neg (by omega), ← HMk.out, HST.out, app2]
        simp
end Go.Proofs.Ytbadlmicbbjkaaa
/- fast's set: a word of a node is stored, or refused; of any node in memory; conditions: numbers of the width. -/
namespace Go.Proofs.Ytbadlmicbbjkaaa
open Go.RowKit
set_option linter.unusedVariables false
/-- What a store makes of a node in a block, and of the world. -/
def SetOut (w : World) (b : Nat) (r : Option Nd) (e : Ending) (w' : World) : Prop :=
  match r with
  | some m => e = .returned (.bool true) ∧ ∃ i u, w' = w.setCell ⟨b, i, none⟩ u ∧ NdAt w' b m
  | none => e = .returned (.bool false) ∧ w' = w
theorem at_k {at_ : Int} (h : 64 ≤ at_ ∧ at_ < 192) (h16 : at_ % 16 = 0) : ∃ i : Nat, i < 8 ∧ at_ = 64 + 16 * (i : Int) := ⟨((at_ - 64) / 16).toNat, by omega, by omega⟩
theorem at_p {at_ : Int} (h : 64 ≤ at_ ∧ at_ < 192) (h8 : at_ % 8 = 0) (h16 : at_ % 16 ≠ 0) : ∃ i : Nat, i < 8 ∧ at_ = 72 + 16 * (i : Int) := ⟨((at_ - 64) / 16).toNat, by omega, by omega⟩
theorem setK_cl (n : Nd) {i : Nat} (hi : i < 8) (x : Int) : n.cl.set (5 + i) (uw x) = (n.setK i x).cl := by
  rcases lt8 hi with rfl | rfl | rfl | rfl | rfl | rfl | rfl | rfl <;> rfl
theorem setP_cl (n : Nd) {i : Nat} (hi : i < 8) (x : Int) : n.cl.set (13 + i) (uw x) = (n.setP i x).cl := by
  rcases lt8 hi with rfl | rfl | rfl | rfl | rfl | rfl | rfl | rfl <;> rfl
theorem set_row {w : World} {b i : Nat} {n m : Nd} {u : Value} (h : NdAt w b n) (hm : n.cl.set i u = m.cl) : NdAt (w.setCell ⟨b, i, none⟩ u) b m := by
  have := Row.set h i u
  rw [List.setIfInBounds_toArray, hm] at this
  exact this
set_option maxRecDepth 100000 in
set_option maxHeartbeats 4000000 in
theorem set_any {w : World} {b : Nat} {n : Nd} (h : NdAt w b n) {at_ : Int} (ha : 0 ≤ at_ ∧ at_ < 18446744073709551616) (word : Int) : Calls Try.prog 43 #[.pointer (some ⟨b, 0, none⟩), .int .u64 at_, .int .u64 word] w (SetOut w b (ap 0 n (at_, word))) := by
  have HR := Lib.hid h
  have hfree := fun i => h.free i
  have hcells := fun i => ndAt_at h i
  have hlt := h.lt
  obtain h1 | h1 : at_ = 8 ∨ at_ ≠ 8 := by omega
  · subst h1
    have f := hfree 1
    have c := hcells 1
    have HE := Lib.hid (show ap 0 n (8, word) = some { n with lo := word } from rfl)
    clear h hfree hcells
    go_enter Try.func43, Try.ntmps43
    go_wp2
    go_ret
    rw [HE.out]
    exact ⟨rfl, 1, _, rfl, set_row HR.out (rfl)⟩
  · have b1 : (at_ == 8) = false := by simpa using h1
    obtain h2 | h2 : at_ = 16 ∨ at_ ≠ 16 := by omega
    · subst h2
      have f := hfree 2
      have c := hcells 2
      have HE := Lib.hid (show ap 0 n (16, word) = some { n with nx := word } from rfl)
      clear h hfree hcells
      go_enter Try.func43, Try.ntmps43
      go_wp2
      go_ret
      rw [HE.out]
      exact ⟨rfl, 2, _, rfl, set_row HR.out (rfl)⟩
    · have b2 : (at_ == 16) = false := by simpa using h2
      obtain h3 | h3 : at_ = 24 ∨ at_ ≠ 24 := by omega
      · subst h3
        have f := hfree 3
        have c := hcells 3
        have HE := Lib.hid (show ap 0 n (24, word) = some { n with ct := word } from rfl)
        clear h hfree hcells
        go_enter Try.func43, Try.ntmps43
        go_wp2
        go_ret
        rw [HE.out]
        exact ⟨rfl, 3, _, rfl, set_row HR.out (rfl)⟩
      · have b3 : (at_ == 24) = false := by simpa using h3
        obtain h4 | h4 : at_ = 32 ∨ at_ ≠ 32 := by omega
        · subst h4
          have f := hfree 4
          have c := hcells 4
          have HE := Lib.hid (show ap 0 n (32, word) = some { n with fi := word } from rfl)
          clear h hfree hcells
          go_enter Try.func43, Try.ntmps43
          go_wp2
          go_ret
          rw [HE.out]
          exact ⟨rfl, 4, _, rfl, set_row HR.out (rfl)⟩
        · have b4 : (at_ == 32) = false := by simpa using h4
          obtain h5 | h5 : at_ = 0 ∨ at_ ≠ 0 := by omega
          · have b5 : (at_ == 0) = true := by simpa using h5
            have HE := Lib.hid (show ap 0 n (at_, word) = none by unfold ap; dsimp only; rw [if_neg (by omega), if_neg (by omega), if_neg (by omega), if_neg (by omega), if_neg (by omega)])
            clear h hfree hcells
            go_enter Try.func43, Try.ntmps43
            go_wp2
            go_ret
            rw [HE.out]
            exact ⟨rfl, rfl⟩
          · have b5 : (at_ == 0) = false := by simpa using h5
            obtain h6 | h6 : at_ < 64 ∨ ¬ at_ < 64 := by omega
            · obtain h7 | h7 : 32 < at_ ∨ ¬ 32 < at_ := by omega
              · have HE := Lib.hid (show ap 0 n (at_, word) = none by unfold ap; dsimp only; rw [if_neg (by omega), if_neg (by omega), if_neg (by omega), if_neg (by omega), if_neg (by omega)])
                clear h hfree hcells
                go_enter Try.func43, Try.ntmps43
                go_wp2
                go_ret
                rw [HE.out]
                exact ⟨rfl, rfl⟩
              · have hm : at_.tmod 8 = at_ % 8 := Int.tmod_eq_emod_of_nonneg ha.1
                have h8 : at_ % 8 ≠ 0 := by omega
                have b8 : (at_ % 8 != 0) = true := by simpa using h8
                have b8' : (at_.tmod 8 != 0) = true := by rw [hm]; simpa using h8
                have h9 : ¬ 192 ≤ at_ := by omega
                clear hm
                have HE := Lib.hid (show ap 0 n (at_, word) = none by unfold ap; dsimp only; rw [if_neg (by omega), if_neg (by omega), if_neg (by omega), if_neg (by omega), if_neg (by omega)])
                clear h hfree hcells
                go_enter Try.func43, Try.ntmps43
                go_wp2
                go_ret
                rw [HE.out]
                exact ⟨rfl, rfl⟩
            · obtain h7 | h7 : 192 ≤ at_ ∨ ¬ 192 ≤ at_ := by omega
              · have h8 : 32 < at_ := by omega
                have HE := Lib.hid (show ap 0 n (at_, word) = none by unfold ap; dsimp only; rw [if_neg (by omega), if_neg (by omega), if_neg (by omega), if_neg (by omega), if_neg (by omega)])
                clear h hfree hcells
                go_enter Try.func43, Try.ntmps43
                go_wp2
                go_ret
                rw [HE.out]
                exact ⟨rfl, rfl⟩
              · have h8 : 32 < at_ := by omega
                have hm : at_.tmod 8 = at_ % 8 := Int.tmod_eq_emod_of_nonneg ha.1
                have hm16 : at_.tmod 16 = at_ % 16 := Int.tmod_eq_emod_of_nonneg ha.1
                obtain h9 | h9 : at_ % 8 ≠ 0 ∨ at_ % 8 = 0 := by omega
                · have b8 : (at_ % 8 != 0) = true := by simpa using h9
                  have b8' : (at_.tmod 8 != 0) = true := by rw [hm]; simpa using h9
                  clear hm hm16
                  have HE := Lib.hid (show ap 0 n (at_, word) = none by unfold ap; dsimp only; rw [if_neg (by omega), if_neg (by omega), if_neg (by omega), if_neg (by omega), if_neg (by omega)])
                  clear h hfree hcells
                  go_enter Try.func43, Try.ntmps43
                  go_wp2
                  go_ret
                  rw [HE.out]
                  exact ⟨rfl, rfl⟩
                · obtain h10 | h10 : at_ % 16 = 0 ∨ at_ % 16 ≠ 0 := by omega
                  · obtain ⟨i, hi, he⟩ := at_k (by omega) h10
                    have HE := Lib.hid (show ap 0 n (at_, word) = some (n.setK i word) by have := ap_k 0 n hi word; unfold kA at this; rw [he, show (64 + 16 * (i : Int)) = 0 + 64 + 16 * (i : Int) by omega]; exact this)
                    have f := hfree (5 + i)
                    have c := ndAt_key h hi
                    have b8 : (at_ % 8 != 0) = false := by simpa using h9
                    have hs : IntKind.u64.wrap (at_ - 64) = at_ - 64 := by rw [IntKind.wrap_u64]; omega
                    have hq : (at_ - 64).tdiv 16 = (i : Int) := by rw [Int.tdiv_eq_ediv_of_nonneg (by omega)]; omega
                    have hq2 : (at_ - 64) / 16 = (i : Int) := by omega
                    have hi8 : (i : Int) < 8 := by omega
                    have b16 : (at_ % 16 == 0) = true := by simpa using h10
                    clear h hfree hcells hm hm16 he h9 h10
                    go_enter Try.func43, Try.ntmps43
                    go_wp2
                    go_ret
                    rw [HE.out]
                    exact ⟨rfl, 5 + i, _, rfl, set_row HR.out (setK_cl n hi word)⟩
                  · obtain ⟨i, hi, he⟩ := at_p (by omega) h9 h10
                    have HE := Lib.hid (show ap 0 n (at_, word) = some (n.setP i word) by have := ap_p 0 n hi word; unfold pA at this; rw [he, show (72 + 16 * (i : Int)) = 0 + 72 + 16 * (i : Int) by omega]; exact this)
                    have f := hfree (13 + i)
                    have c := ndAt_ptr h hi
                    have b8 : (at_ % 8 != 0) = false := by simpa using h9
                    have hs : IntKind.u64.wrap (at_ - 64) = at_ - 64 := by rw [IntKind.wrap_u64]; omega
                    have hq : (at_ - 64).tdiv 16 = (i : Int) := by rw [Int.tdiv_eq_ediv_of_nonneg (by omega)]; omega
                    have hq2 : (at_ - 64) / 16 = (i : Int) := by omega
                    have hi8 : (i : Int) < 8 := by omega
                    have b16 : (at_ % 16 == 0) = false := by simpa using h10
                    clear h hfree hcells hm hm16 he h9 h10
                    go_enter Try.func43, Try.ntmps43
                    go_wp2
                    go_ret
                    rw [HE.out]
                    exact ⟨rfl, 13 + i, _, rfl, set_row HR.out (setP_cl n hi word)⟩
end Go.Proofs.Ytbadlmicbbjkaaa
