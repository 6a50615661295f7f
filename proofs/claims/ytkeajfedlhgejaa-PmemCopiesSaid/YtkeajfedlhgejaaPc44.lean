/- Texts of this claim, packed: R2Do2, R2Beg, R2Pl, R2PlW, R2LaS. -/
import Derived.Test.YtkeajfedlhgejaaPc34
import Derived.Test.YtkeajfedlhgejaaPc38
import Derived.Test.YtkeajfedlhgejaaPc39
import Derived.Test.YtkeajfedlhgejaaPc40
import Derived.Test.YtkeajfedlhgejaaPc41
import Derived.Test.YtkeajfedlhgejaaPc42
import Derived.Test.YtkeajfedlhgejaaPc37
import Derived.Test.YtkeajfedlhgejaaPc20
import Derived.Test.YtkeajfedlhgejaaPc22
import Derived.Test.YtkeajfedlhgejaaPc32
import Derived.Test.YtkeajfedlhgejaaPc43
/- game.do of any act: both memories turn likewise and look alike; for memories of at most eight lines, at most a thousand acts. -/
namespace Go.Proofs.Ytkeajfedlhgejaa
open Go Go.RowKit
set_option linter.unusedVariables false
def actA (x : Act2) (ks : Value) : Value := .agg #[.int .i64 x.k, .int .i64 x.c, .int .u64 (x.a : Int), .int .u64 (x.v : Int), .int .i64 x.n, ks]
theorem nl_do {x : Act2} {s : St} {r : Rf} {m : Nat} (h : RelAt s r) (hm : Sm2 r m) (hmx : m ≤ 1000000) (hv : x.v < 18446744073709551616) : (doS x s).nl = s.nl := by
  rw [← (rel_do h hm hmx x hv).nl, ← h.nl]
  unfold doR
  repeat' split
  all_goals first | rfl | exact (crash_nums _ _ _).1
theorem gdo_anyP {P : Nat → Prop} {w : World} {gg : Nat} {s : St} {r : Rf} {m : Nat} (hgs : GSP P w gg s r) (hrel : RelAt s r) (sm : Sm2 r m) (hnl : s.nl ≤ 8) (hm : m ≤ 900) (x : Act2) (ks : Value) (hK : KB P w ks x.kp) (ha : x.a < 18446744073709551616) (hv : x.v < 18446744073709551616) :
    Calls Try.prog 13 #[.pointer (some ⟨gg, 0, none⟩), actA x ks] w (DoPost2 P gg (doS x s) (doR x s r) w) := by
  have hR := rel_do hrel sm (by omega) x hv
  have hn := nl_do hrel sm (by omega) hv
  have ok := hrel.ok
  have hld := sm.ld
  have hst := sm.st
  have hfl := sm.fl
  have hfe := sm.fe
  have hL := sm.l
  have hrn := hrel.nl
  have had : ∀ y ∈ r.L, y.a < 18446744073709551616 := fun y hy => by have := (hrel.ad y hy).2.1; omega
  have hpl : ∀ j, j < s.nl → (s.pend.getD j []).length ≤ 900 := fun j hj => by
    rw [hrel.pcount j hj]
    have : (pen j r.L).length ≤ r.L.length := List.length_filter_le _ _
    omega
  obtain ⟨k, c, a, v, n, kp⟩ := x
  have hnl' : (doS ⟨k, c, a, v, n, kp⟩ s).nl ≤ 8 := by rw [hn]; exact hnl
  by_cases k1 : k = 1
  · subst k1
    by_cases hw : wd2 s.nl a = true
    · obtain ⟨h8, h64⟩ := wd2_iff.1 hw
      refine gdo_1 (E := 0) hgs hR hnl' c a v n ks ha (fun W y hm2 => ?_) (fun W g vF vL ms hd => ?_)
      · have e : doS ⟨1, c, a, v, n, kp⟩ s = s.store a v := by simp [doS, hw]
        rw [e]
        exact store_ok hm2 a v h8 h64 hv (by have := hrel.ss; omega) ok.few
      · have e : doR ⟨1, c, a, v, n, kp⟩ s r = r.store a v := by simp [doR, hw]
        rw [e]
        exact r2Store_yes hd a v (by omega) ha ⟨h8, by omega⟩ hv (by omega) (by omega)
    · have hw' : ¬ (a % 8 = 0 ∧ a < 64 * s.nl) := fun q => hw (wd2_iff.2 q)
      have e : doS ⟨1, c, a, v, n, kp⟩ s = s := by simp [doS, hw]
      have e2 : doR ⟨1, c, a, v, n, kp⟩ s r = r := by simp [doR, hw]
      rw [e] at hR hnl' ⊢
      rw [e2] at hR ⊢
      exact gdo_1 (E := 3) hgs hR hnl' c a v n ks ha (PC.same fun W y hm2 => store_range hm2 a v (by omega)) (RC.same fun W g vF vL ms hd => r2Store_no hd a v (by omega) ha (by rw [hrn]; exact hw'))
  by_cases k2 : k = 2
  · subst k2
    by_cases hw : wd2 s.nl a = true
    · obtain ⟨h8, h64⟩ := wd2_iff.1 hw
      have e : doS ⟨2, c, a, v, n, kp⟩ s = { s with ld := s.ld + 1 } := by simp [doS, hw]
      have e2 : doR ⟨2, c, a, v, n, kp⟩ s r = r.load := by simp [doR, hw]
      rw [e] at hR hnl' ⊢
      rw [e2] at hR ⊢
      refine gdo_2 (X := ((s.view.getD (a / 8) 0 : Nat) : Int)) (E := 0) hgs hR hnl' c a v n ks ha (.inl rfl) (fun W y hm2 => load_ok hm2 ok a h8 h64) (fun W g vF vL ms hd => ?_)
      refine (r2Load_yes hd a (by omega) ha ⟨h8, by omega⟩ (by rw [hrn]; exact hrel.fl) hrel.fw (fun y hy => ⟨(hrel.ad y hy).1, had y hy⟩) (by omega)).mono ?_
      rintro e W' ⟨⟨z, rfl, hz⟩, hp⟩
      refine ⟨?_, hp⟩
      rw [← hrel.view] at hz
      rw [List.getD_eq_getElem?_getD, hz]
      rfl
    · have hw' : ¬ (a % 8 = 0 ∧ a < 64 * s.nl) := fun q => hw (wd2_iff.2 q)
      have e : doS ⟨2, c, a, v, n, kp⟩ s = s := by simp [doS, hw]
      have e2 : doR ⟨2, c, a, v, n, kp⟩ s r = r := by simp [doR, hw]
      rw [e] at hR hnl' ⊢
      rw [e2] at hR ⊢
      exact gdo_2 (X := 0) (E := 3) hgs hR hnl' c a v n ks ha (.inr (.inr rfl)) (PC.same fun W y hm2 => load_range hm2 a (by omega)) (RC.same fun W g vF vL ms hd => r2Load_no hd a (by omega) ha (by rw [hrn]; exact hw'))
  by_cases k3 : k = 3
  · subst k3
    by_cases hc : cl2 c = true
    · obtain ⟨c0, c1⟩ := cl2_iff.1 hc
      obtain ⟨cn, rfl⟩ : ∃ cn : Nat, c = (cn : Int) := ⟨c.toNat, by omega⟩
      by_cases hw : wd2 s.nl a = true
      · obtain ⟨h8, h64⟩ := wd2_iff.1 hw
        have e : doS ⟨3, cn, a, v, n, kp⟩ s = s.flush cn a := by simp [doS, hw, hc]
        have e2 : doR ⟨3, cn, a, v, n, kp⟩ s r = r.flush cn a := by simp [doR, hw, hc]
        rw [e] at hR hnl' ⊢
        rw [e2] at hR ⊢
        exact gdo_3 (E := 0) hgs hR hnl' cn a v n ks ha (fun W y hm2 => flush_ok hm2 ok cn a (by omega) h8 h64) (fun W g vF vL ms hd => r2Flush_yes hd cn a (by omega) (by omega) ha ⟨h8, by omega⟩ had (fun y hy => by have := sm.mq y hy; omega) (by omega))
      · have hw' : ¬ (a % 8 = 0 ∧ a < 64 * s.nl) := fun q => hw (wd2_iff.2 q)
        have e : doS ⟨3, cn, a, v, n, kp⟩ s = s := by simp [doS, hw]
        have e2 : doR ⟨3, cn, a, v, n, kp⟩ s r = r := by simp [doR, hw]
        rw [e] at hR hnl' ⊢
        rw [e2] at hR ⊢
        exact gdo_3 (E := 3) hgs hR hnl' cn a v n ks ha (PC.same fun W y hm2 => flush_range hm2 cn a ⟨c0, c1⟩ (by omega)) (RC.same fun W g vF vL ms hd => r2Flush_no hd cn a (by omega) (by omega) ha (by rw [hrn]; exact hw'))
    · have hc' : c < 0 ∨ 64 < c := by
        have : ¬ (0 ≤ c ∧ c ≤ 64) := fun q => hc (cl2_iff.2 q)
        omega
      have e : doS ⟨3, c, a, v, n, kp⟩ s = s := by simp [doS, hc]
      have e2 : doR ⟨3, c, a, v, n, kp⟩ s r = r := by simp [doR, hc]
      rw [e] at hR hnl' ⊢
      rw [e2] at hR ⊢
      exact gdo_3 (E := 2) hgs hR hnl' c a v n ks ha (PC.same fun W y hm2 => flush_arg hm2 c a hc') (RC.same fun W g vF vL ms hd => r2Flush_arg g c a hc')
  by_cases k4 : k = 4
  · subst k4
    by_cases hc : cl2 c = true
    · obtain ⟨c0, c1⟩ := cl2_iff.1 hc
      obtain ⟨cn, rfl⟩ : ∃ cn : Nat, c = (cn : Int) := ⟨c.toNat, by omega⟩
      have e : doS ⟨4, cn, a, v, n, kp⟩ s = s.fence cn := by simp [doS, hc]
      have e2 : doR ⟨4, cn, a, v, n, kp⟩ s r = r.fence cn := by simp [doR, hc]
      rw [e] at hR hnl' ⊢
      rw [e2] at hR ⊢
      exact gdo_4 (E := 0) hgs hR hnl' cn a v n ks ha (fun W y hm2 => fence_ok hm2 ok cn (by omega) (by have := hrel.se; omega)) (fun W g vF vL ms hd => r2Fence_yes hd cn (by omega) (by omega))
    · have hc' : c < 0 ∨ 64 < c := by
        have : ¬ (0 ≤ c ∧ c ≤ 64) := fun q => hc (cl2_iff.2 q)
        omega
      have e : doS ⟨4, c, a, v, n, kp⟩ s = s := by simp [doS, hc]
      have e2 : doR ⟨4, c, a, v, n, kp⟩ s r = r := by simp [doR, hc]
      rw [e] at hR hnl' ⊢
      rw [e2] at hR ⊢
      exact gdo_4 (E := 2) hgs hR hnl' c a v n ks ha (PC.same fun W y hm2 => fence_arg hm2 c hc') (RC.same fun W g vF vL ms hd => r2Fence_no g c hc')
  by_cases k5 : k = 5
  · subst k5
    by_cases hn0 : 0 ≤ n
    · obtain ⟨nn, rfl⟩ : ∃ nn : Nat, n = (nn : Int) := ⟨n.toNat, by omega⟩
      by_cases hw : wd2 s.nl a = true
      · obtain ⟨h8, h64⟩ := wd2_iff.1 hw
        have e : doS ⟨5, c, a, v, nn, kp⟩ s = s.last (a / 64) (min nn (s.pend.getD (a / 64) []).length) := by simp [doS, hw]
        have e2 : doR ⟨5, c, a, v, nn, kp⟩ s r = r.evict (a / 64) nn := by simp [doR, hw]
        rw [e] at hR hnl' ⊢
        rw [e2] at hR ⊢
        have hpc := hrel.pcount (a / 64) (by omega)
        have hq : (min nn (s.pend.getD (a / 64) []).length) ≤ 900 := by have := hpl (a / 64) (by omega); omega
        exact gdo_5 (X := ((min nn (s.pend.getD (a / 64) []).length : Nat) : Int)) (E := 0) hgs hR hnl' c a v nn ks ha (.inl rfl) (fun W y hm2 => evict_ok hm2 ok a nn h8 h64) (fun W g vF vL ms hd => by rw [hpc]; exact r2Evict_yes hd a nn (by omega) ha ⟨h8, by omega⟩ had)
      · have hw' : ¬ (a % 8 = 0 ∧ a < 64 * s.nl) := fun q => hw (wd2_iff.2 q)
        have e : doS ⟨5, c, a, v, nn, kp⟩ s = s := by simp [doS, hw]
        have e2 : doR ⟨5, c, a, v, nn, kp⟩ s r = r := by simp [doR, hw]
        rw [e] at hR hnl' ⊢
        rw [e2] at hR ⊢
        exact gdo_5 (X := 0) (E := 3) hgs hR hnl' c a v nn ks ha (.inr (.inr rfl)) (PC.same fun W y hm2 => evict_range hm2 a nn (by omega)) (RC.same fun W g vF vL ms hd => r2Evict_no hd a nn (by omega) ha (by rw [hrn]; exact hw'))
    · have e : doS ⟨5, c, a, v, n, kp⟩ s = s := by simp [doS, hn0]
      have e2 : doR ⟨5, c, a, v, n, kp⟩ s r = r := by simp [doR, hn0]
      rw [e] at hR hnl' ⊢
      rw [e2] at hR ⊢
      exact gdo_5 (X := 0) (E := 2) hgs hR hnl' c a v n ks ha (.inr (.inl rfl)) (PC.same fun W y hm2 => evict_arg hm2 a n (by omega)) (RC.same fun W g vF vL ms hd => r2Evict_arg g a n (by omega))
  by_cases k6 : k = 6
  · subst k6
    exact gdo_6 hgs hR hnl' c a v n ks ha (kp := kp) (by simp [doS]) (by simp [doR]) hrel hnl (by omega) hK
  by_cases k7 : k = 7
  · subst k7
    exact gdo_7 hgs hR hnl' c a v n ks ha (by simp [doS]) (by simp [doR])
  · have e : doS ⟨k, c, a, v, n, kp⟩ s = s := by simp [doS, k1, k2, k3, k4, k5, k6]
    have e2 : doR ⟨k, c, a, v, n, kp⟩ s r = r := by simp [doR, k1, k2, k3, k4, k5, k6]
    rw [e] at hR hnl' ⊢
    rw [e2] at hR ⊢
    exact gdo_8 hgs hR hnl' k ⟨k1, k2, k3, k4, k5, k6, k7⟩ c a v n ks ha
theorem gdo_any {B : Nat} {w : World} {gg : Nat} {s : St} {r : Rf} {m : Nat} (h : GA B w gg s r m) (hnl : s.nl ≤ 8) (hm : m ≤ 900) (x : Act2) (ks : Value) (hK : KB (fun q => q < B) w ks x.kp) (ha : x.a < 18446744073709551616) (hv : x.v < 18446744073709551616) :
    Calls Try.prog 13 #[.pointer (some ⟨gg, 0, none⟩), actA x ks] w fun e w' => e = .returned (.bool true) ∧ GA B w' gg (doS x s) (doR x s r) (m + 1) ∧ Below B w w' :=
  (gdo_anyP h.gs.toP h.rel h.sm hnl hm x ks hK ha hv).mono (by rintro e w' ⟨rfl, q1, q2⟩; exact ⟨rfl, ⟨q1.toB, rel_do h.rel h.sm (by omega) x hv, doR_small h.sm⟩, q2.below⟩)
end Go.Proofs.Ytkeajfedlhgejaa
/- few, begin, fits, May: a game of bytes, or none. -/
namespace Go.Proofs.Ytkeajfedlhgejaa
open Go Go.RowKit
set_option linter.unusedVariables false
theorem ofB8 (b : List Nat) (h : b.length = 8) (hb : ∀ x ∈ b, x < 256) : wbytes (ofB b) = b := by
  match b, h with
  | [b0, b1, b2, b3, b4, b5, b6, b7], _ =>
    have h0 := hb b0 (by simp)
    have h1 := hb b1 (by simp)
    have h2 := hb b2 (by simp)
    have h3 := hb b3 (by simp)
    have h4 := hb b4 (by simp)
    have h5 := hb b5 (by simp)
    have h6 := hb b6 (by simp)
    have h7 := hb b7 (by simp)
    have e : (List.range 8) = [0, 1, 2, 3, 4, 5, 6, 7] := rfl
    simp only [wbytes, e, List.map_cons, List.map_nil, wbyt, ofB, List.cons.injEq, and_true]
    refine ⟨?_, ?_, ?_, ?_, ?_, ?_, ?_, ?_⟩ <;> omega
theorem bytesL_words {l : List Nat} (hb : ∀ x ∈ l, x < 256) : ∀ n, 8 * n ≤ l.length → bytesL (wordsK l l.length n) = l.take (8 * n)
  | 0, _ => by simp [wordsK, bytesL]
  | n + 1, h => by
    have ih := bytesL_words hb n (by omega)
    unfold wordsK at ih ⊢
    rw [List.range_succ, List.map_append, List.map_cons, List.map_nil]
    have e : ∀ a b, bytesL (a ++ b) = bytesL a ++ bytesL b := fun a b => by simp [bytesL]
    rw [e, ih]
    have e2 : bytesL [pw l l.length n] = (l.drop (8 * n)).take 8 := by
      have : bytesL [pw l l.length n] = wbytes (pw l l.length n) := by simp [bytesL]
      rw [this]
      unfold pw
      rw [List.take_length]
      exact ofB8 _ (by simp; omega) (fun x hx => hb x (List.mem_of_mem_drop (List.mem_of_mem_take hx)))
    rw [e2, show 8 * (n + 1) = 8 * n + 8 from by omega, List.take_add]
theorem bytesL_wordsK {l : List Nat} {nl : Nat} (hl : l.length = 64 * nl) (hb : ∀ x ∈ l, x < 256) : bytesL (wordsK l (64 * nl) (8 * nl)) = l := by
  have := bytesL_words hb (8 * nl) (by omega)
  rw [hl] at this
  rw [this, show 8 * (8 * nl) = l.length from by omega, List.take_length]
/-- The document's memory at first. -/
def rf0 (nl : Nat) (l : List Nat) : Rf := ⟨nl, wordsK l (64 * nl) (8 * nl), [], 0, 0, 0, 0⟩
theorem rel0 {nl : Nat} {l : List Nat} (hl : l.length = 64 * nl) (hb : ∀ x ∈ l, x < 256) (h0 : 0 < nl) : RelAt (St.ofBytes nl l) (rf0 nl l) :=
  rel_new (F := wordsK l (64 * nl) (8 * nl)) h0 (wordsK_len _ _ _) (fun x hx => (ofBytes_Ok (nl := nl) hb).las x hx) (ofBytes_Ok hb)
theorem sm0 (nl : Nat) (l : List Nat) : Sm2 (rf0 nl l) 0 := ⟨Nat.le_refl _, Nat.le_refl _, Nat.le_refl _, Nat.le_refl _, Nat.le_refl _, fun x hx => by cases hx⟩
set_option maxRecDepth 100000 in
set_option maxHeartbeats 1600000 in
theorem pOf_no {w : World} {A : Option Addr} {n cap : Nat} (hm : mayB (n : Int) = false) : Calls Try.prog 11 #[.slice A n cap] w fun e w' => e = .returned (.tuple #[.pointer none, .int .i64 2]) ∧ w = w' := by
  have HN := Lib.hid (new_no (n : Int) w hm)
  clear hm
  go_enter Try.func11, Try.ntmps11
  go_wp2_with fail
  refine HN.out.mono ?_
  rintro e w1 ⟨rfl, rfl⟩
  go_wp2
  go_ret2
  exact ⟨rfl, rfl⟩
/-- Bytes that lie in memory, as an argument. -/
structure BsAt (w : World) (A : Option Addr) (n cap : Nat) (l : List Nat) : Prop where
  len : l.length = n
  b : ∀ x ∈ l, x < 256
  sl : Sl w A (l.map bv)
  no : A = none → n = 0 ∧ cap = 0
theorem BsAt.below {w w' : World} {A : Option Addr} {n cap : Nat} {l : List Nat} (h : BsAt w A n cap l) (hb : Below w.heap.size w w') : BsAt w' A n cap l := ⟨h.len, h.b, h.sl.below hb, h.no⟩
set_option maxRecDepth 100000 in
set_option maxHeartbeats 1600000 in
theorem begin_no {w : World} {A : Option Addr} {n cap : Nat} {l : List Nat} (h : BsAt w A n cap l) (hn : n ≤ 1000000) (hm : mayB (n : Int) = false) : Calls Try.prog 9 #[.slice A n cap] w fun e w' => e = .returned (.pointer none) ∧ Below w.heap.size w w' := by
  obtain ⟨i0, hi, hz0, hz1, hz2⟩ := info_parts info5
  cases A with
  | none =>
    obtain ⟨rfl, rfl⟩ := h.no rfl
    have HO := Lib.hid (pOf_no (w := w) (A := none) (n := 0) (cap := 0) (by simpa using hm))
    clear h hm
    go_enter Try.func9, Try.ntmps9
    go_wp2_with fail
    refine HO.out.mono ?_
    rintro e w1 ⟨rfl, rfl⟩
    go_wp2
    go_ret
    exact ⟨rfl, Below.refl _ _⟩
  | some a =>
    have HC := Lib.hid (sl_cells h.sl)
    have HL := Lib.hid h.len
    have HMM := Lib.hid hm
    clear h hm
    go_enter Try.func9, Try.ntmps9
    go_wp2_with (at_builtin; refine wpList_append_own_at _ rfl _ _ 22 rfl w.heap.size 5 i0 (.int .u8 0) 1 1 Try.underlying22 hi hz0 hz1 hz2 rfl (by decide) (.slice none 0 0) 0 [] (by rfl) (World.ownsRow_nil _ _ _ _) a n _ (l.map bv) (by rfl) (by rw [List.length_map, HL.out]; omega) HC.out (by intro u hu; simp only [List.mem_map] at hu; obtain ⟨_, _, rfl⟩ := hu; rfl) (by unfold maxLen; omega) (by omega) (Nat.le_refl _) ?_; intro v' w2 hown hgrow _ _)
    rw [Nat.zero_add] at hown
    obtain ⟨A', c', rfl, _⟩ := own_sl hown
    have hlow : Below w.heap.size w w2 := (Below.refl _ _).grown hgrow (Nat.le_refl _) (by intro q hq; cases hq)
    have HLOW := Lib.hid hlow
    clear hown hgrow hlow
    go_wp2_with fail
    refine (pOf_no HMM.out).mono ?_
    rintro e w1 ⟨rfl, rfl⟩
    go_wp2
    go_ret
    exact ⟨rfl, HLOW.out⟩
set_option maxRecDepth 100000 in
set_option maxHeartbeats 4000000 in
theorem begin_yes {w : World} {A : Option Addr} {n cap nl : Nat} {l : List Nat} (h : BsAt w A n cap l) (hn : n = 64 * nl) (h0 : 0 < nl) (h1 : nl ≤ 8) : Calls Try.prog 9 #[.slice A n cap] w fun e w' => ∃ gg, e = .returned (.pointer (some ⟨gg, 0, none⟩)) ∧ GS w.heap.size w' gg (St.ofBytes nl l) (rf0 nl l) ∧ Below w.heap.size w w' := by
  obtain ⟨i0, hi, hz0, hz1, hz2⟩ := info_parts info5
  obtain ⟨a, rfl⟩ : ∃ a, A = some a := by
    cases A with
    | none => have := (h.no rfl).1; omega
    | some a => exact ⟨a, rfl⟩
  have hll : l.length = 64 * nl := h.len.trans hn
  have HC := Lib.hid (sl_cells h.sl)
  have HS := Lib.hid h.sl
  have HB := Lib.hid h.b
  have HL := Lib.hid h.len
  have HLL := Lib.hid hll
  have HN := Lib.hid hn
  have hnx : n ≤ 512 := by omega
  have hn0 : 0 < n := by omega
  clear h hn hll
  go_enter Try.func9, Try.ntmps9
  go_wp2_with (at_builtin; refine wpList_append_own_at _ rfl _ _ 22 rfl w.heap.size 5 i0 (.int .u8 0) 1 1 Try.underlying22 hi hz0 hz1 hz2 rfl (by decide) (.slice none 0 0) 0 [] (by rfl) (World.ownsRow_nil _ _ _ _) a n _ (l.map bv) (by rfl) (by rw [List.length_map, HL.out]; omega) HC.out (by intro u hu; simp only [List.mem_map] at hu; obtain ⟨_, _, rfl⟩ := hu; rfl) (by unfold maxLen; omega) (by omega) (Nat.le_refl _) ?_; intro v' w2 hown hgrow _ _)
  rw [Nat.zero_add, List.nil_append] at hown
  obtain ⟨A', c', rfl, _, _, hsl, _⟩ := own_sl hown
  have hlow : Below w.heap.size w w2 := (Below.refl _ _).grown hgrow (Nat.le_refl _) (by intro q hq; cases hq)
  have HO := Lib.hid (show Calls Try.prog 11 #[.slice A' n c'] w2 (MadeMem w2 (St.ofBytes nl l)) by rw [HN.out]; exact pOf_yes HLL.out hsl HB.out h0 (by omega))
  have HLOW := Lib.hid hlow
  clear hown hgrow hlow hsl
  go_wp2_with fail
  refine HO.out.mono ?_
  rintro e w3 ⟨y, rfl, hm, hf, hb3⟩
  have hb03 : Below w.heap.size w w3 := Below.and HLOW.out hb3
  have HC3 := Lib.hid (sl_cells (HS.out.below hb03))
  have HM := Lib.hid hm
  have HF := Lib.hid hf
  have HB3 := Lib.hid hb3
  have HB03 := Lib.hid hb03
  clear hm hf hb3 hb03 HO
  go_wp2_with (at_builtin; refine wpList_append_own_at _ rfl _ _ 22 rfl w3.heap.size 5 i0 (.int .u8 0) 1 1 Try.underlying22 hi hz0 hz1 hz2 rfl (by decide) (.slice none 0 0) 0 [] (by rfl) (World.ownsRow_nil _ _ _ _) a n _ (l.map bv) (by rfl) (by rw [List.length_map, HL.out]; omega) HC3.out (by intro u hu; simp only [List.mem_map] at hu; obtain ⟨_, _, rfl⟩ := hu; rfl) (by unfold maxLen; omega) (by omega) (Nat.le_refl _) ?_; intro v4 w4 hown4 hgrow4 _ _; rw [Nat.zero_add, List.nil_append] at hown4; obtain ⟨A4, c4, hv4e, _⟩ := own_sl hown4; subst hv4e)
  have hlow4 : Below w3.heap.size w3 w4 := (Below.refl _ _).grown hgrow4 (Nat.le_refl _) (by intro q hq; cases hq)
  have HE : Hid (GS w.heap.size ((w4.alloc (.cells #[.slice A4 n c4, .slice none 0 0, .int .u64 0, .int .u64 0, .int .u64 0, .int .u64 0] 65)).alloc (.cells #[.pointer (some ⟨y.g, 0, none⟩), .pointer (some ⟨w4.heap.size, 0, none⟩)] 44)) (w4.heap.size + 1) (St.ofBytes nl l) (rf0 nl l) ∧ Below w.heap.size w ((w4.alloc (.cells #[.slice A4 n c4, .slice none 0 0, .int .u64 0, .int .u64 0, .int .u64 0, .int .u64 0] 65)).alloc (.cells #[.pointer (some ⟨y.g, 0, none⟩), .pointer (some ⟨w4.heap.size, 0, none⟩)] 44))) := Lib.hid (by
    have hs2 : w.heap.size ≤ w2.heap.size := HLOW.out.size
    have hs3 : w2.heap.size ≤ w3.heap.size := HB3.out.size
    have hs4 : w3.heap.size ≤ w4.heap.size := hlow4.size
    have b5 : Below w4.heap.size w4 (w4.alloc (.cells #[.slice A4 n c4, .slice none 0 0, .int .u64 0, .int .u64 0, .int .u64 0, .int .u64 0] 65)) := alloc_below _ _
    have b6 := Below.and b5 (alloc_below _ (.cells #[.pointer (some ⟨y.g, 0, none⟩), .pointer (some ⟨w4.heap.size, 0, none⟩)] 44))
    have hm6 := (HM.out.below hlow4).below b6
    have hv4 : ∀ k, (Value.slice A4 n c4).ownBlock = some k → w3.heap.size ≤ k := own_fromI hown4
    have hd : R2At (w4.alloc (.cells #[.slice A4 n c4, .slice none 0 0, .int .u64 0, .int .u64 0, .int .u64 0, .int .u64 0] 65)) w4.heap.size (rf0 nl l) (.slice A4 n c4) (.slice none 0 0) [] := by
      refine ⟨Row.new _ _ _, ?_, World.ownsRow_nil _ _ _ _, rfl, fun i v x hi => by simp at hi⟩
      show World.ownsRow _ 0 5 1 (.slice A4 n c4) (64 * nl) ((bytesL (wordsK l (64 * nl) (8 * nl))).map bv)
      rw [bytesL_wordsK HLL.out HB.out, ← HN.out]
      exact own_weak (own2_same hown4 fun k hk => b5.block k (by obtain ⟨cs, hc⟩ := own2_tg hown4 hk; exact (Array.getElem?_eq_some_iff.1 hc).1))
    refine ⟨⟨y, w4.heap.size, .slice A4 n c4, .slice none 0 0, [], ⟨?_, hm6, hd.below (alloc_below _ _)⟩, ⟨by omega, fun k hk => by have := HF.out k hk; omega, ?_⟩⟩, Below.and HB03.out (Below.and hlow4 b6)⟩
    · have := Row.new (w4.alloc (.cells #[.slice A4 n c4, .slice none 0 0, .int .u64 0, .int .u64 0, .int .u64 0, .int .u64 0] 65)) 44 #[.pointer (some ⟨y.g, 0, none⟩), .pointer (some ⟨w4.heap.size, 0, none⟩)]
      simpa using this
    · rintro k (rfl | hk | hk | ⟨v, hv, _⟩)
      · omega
      · have := hv4 k hk; omega
      · cases hk
      · cases hv)
  clear hown4 hgrow4 hlow4
  go_wp2
  go_ret
  exact ⟨_, rfl, HE.out⟩
end Go.Proofs.Ytkeajfedlhgejaa
/- PmemPlays: any acts of any bytes, call by call; no conditions. -/
namespace Go.Proofs.Ytkeajfedlhgejaa
open Go Go.RowKit
set_option linter.unusedVariables false
/-- What game.do is handed of a list of acts. -/
theorem Acts2At.cells {w : World} {x : Addr} {l : List Act2} {ks : Nat → Value} (h : Acts2At w x l ks) {i : Nat} (hi : i < l.length) :
    w.cell? (x.add (i * 6)) = some (.int .i64 (act2 l i).k) ∧ w.cell? ⟨(x.add (i * 6)).block, (x.add (i * 6)).off + 1, none⟩ = some (.int .i64 (act2 l i).c) ∧ w.cell? ⟨(x.add (i * 6)).block, (x.add (i * 6)).off + 2, none⟩ = some (.int .u64 ((act2 l i).a : Int)) ∧ w.cell? ⟨(x.add (i * 6)).block, (x.add (i * 6)).off + 3, none⟩ = some (.int .u64 ((act2 l i).v : Int)) ∧ w.cell? ⟨(x.add (i * 6)).block, (x.add (i * 6)).off + 4, none⟩ = some (.int .i64 (act2 l i).n) ∧ w.cell? ⟨(x.add (i * 6)).block, (x.add (i * 6)).off + 5, none⟩ = some (ks i) :=
  ⟨by have := h.c i hi 0 _ rfl; rwa [add_zero'] at this, h.c i hi 1 _ rfl, h.c i hi 2 _ rfl, h.c i hi 3 _ rfl, h.c i hi 4 _ rfl, h.c i hi 5 _ rfl⟩
/-- The game behind some acts. -/
def PlI (w : World) (gg nl m : Nat) (wr : World) : Prop := ∃ s r, GA w.heap.size wr gg s r m ∧ s.nl = nl ∧ Below w.heap.size w wr
theorem PlI.step {w wr : World} {gg nl m : Nat} (h : PlI w gg nl m wr) (hnl : nl ≤ 8) (hm : m ≤ 900) {x : Addr} {l : List Act2} {ks : Nat → Value} (hA : Acts2At w x l ks) {i : Nat} (hi : i < l.length) (h20 : (act2 l i).kp.length ≤ 20) :
    Calls Try.prog 13 #[.pointer (some ⟨gg, 0, none⟩), actA (act2 l i) (ks i)] wr fun e w' => e = .returned (.bool true) ∧ PlI w gg nl (m + 1) w' := by
  obtain ⟨s, r, hG, hn, hB⟩ := h
  have hb := hA.a i hi
  refine (gdo_any hG (by omega) hm (act2 l i) (ks i) ((KB.of (hA.kp i hi) (by omega)).keep (keepB hB)) hb.1 hb.2).mono ?_
  rintro e w' ⟨rfl, h1, h2⟩
  exact ⟨rfl, _, _, h1, (nl_do hG.rel hG.sm (by omega) hb.2).trans hn, belowT hB h2⟩
set_option maxRecDepth 100000 in
set_option maxHeartbeats 4000000 in
theorem plays2_any {w : World} {A A2 : Option Addr} {n cap n2 cap2 : Nat} {bs : List Nat} {l : List Act2} (hb : BsAt w A n cap bs) (hl : Acts2In w A2 n2 cap2 l) (hn : n ≤ 9223372036854775807) :
    Calls Try.prog 3 #[.slice A n cap, .slice A2 n2 cap2] w fun e w' => e = .returned (.bool true) ∧ Below w.heap.size w w' := by
  have HF := Lib.hid (few_any2 hl 80 (by omega))
  have HBS := Lib.hid hb
  have HLS := Lib.hid hl
  clear hb hl
  cases hfew : fewB l 80
  · rw [hfew] at HF
    have HX := Lib.hid hfew
    clear hfew
    go_enter Try.func3, Try.ntmps3
    go_wp2_with fail
    refine HF.out.mono ?_
    rintro e w1 ⟨rfl, rfl⟩
    go_wp2_with fail
    refine (known_any w).mono ?_
    rintro e w1 ⟨rfl, hb⟩
    go_wp2
    go_ret
    exact ⟨rfl, hb⟩
  · rw [hfew] at HF
    obtain ⟨hlen, h20⟩ := fewB_iff.1 hfew
    obtain ⟨hl2, _, _, hat⟩ := HLS.out
    have H20 := Lib.hid h20
    have HL2 := Lib.hid hl2
    have HAT := Lib.hid hat
    have hn2 : n2 ≤ 80 := by omega
    clear hfew h20 hl2 hat hlen HLS
    by_cases h512 : n ≤ 512
    · have d512 : decide ((512 : Int) < (n : Int)) = false := by simp; omega
      have e512 : ¬ 512 < n := by omega
      have HM := Lib.hid (may2_any (n : Int))
      cases hmay : mayB (n : Int)
      · rw [hmay] at HM
        have HBG := Lib.hid (begin_no HBS.out (by omega) hmay)
        have HOF := Lib.hid (fun W => pOf_no (w := W) (A := A) (cap := cap) hmay)
        clear hmay
        go_enter Try.func3, Try.ntmps3
        go_wp2_with fail
        refine HF.out.mono ?_
        rintro e w1 ⟨rfl, rfl⟩
        go_wp2_with fail
        refine HBG.out.mono ?_
        rintro e w1 ⟨rfl, hb1⟩
        go_wp2_with fail
        refine (HM.out w1).mono ?_
        rintro e w2 ⟨rfl, rfl⟩
        go_wp2_with fail
        refine (HOF.out w1).mono ?_
        rintro e w2 ⟨rfl, rfl⟩
        go_wp2_with fail
        refine (known_any w1).mono ?_
        rintro e w2 ⟨rfl, hb2⟩
        have HB2 := Lib.hid (Below.and hb1 hb2)
        clear hb1 hb2
        go_wp2
        go_ret
        exact ⟨rfl, HB2.out⟩
      · rw [hmay] at HM
        have hmm : 64 ≤ (n : Int) ∧ (n : Int) ≤ 1048576 ∧ (n : Int) % 64 = 0 := by simpa [mayB] using hmay
        obtain ⟨nl, hnl⟩ : ∃ nl, n = 64 * nl := ⟨n / 64, by omega⟩
        have hnl0 : 0 < nl := by omega
        have hnl8 : nl ≤ 8 := by omega
        have HBG := Lib.hid (begin_yes HBS.out hnl hnl0 hnl8)
        have HR0 := Lib.hid (rel0 (HBS.out.len.trans hnl) HBS.out.b hnl0)
        clear hmay hmm hnl
        go_enter Try.func3, Try.ntmps3
        go_wp2_with fail
        refine HF.out.mono ?_
        rintro e w1 ⟨rfl, rfl⟩
        go_wp2_with fail
        refine HBG.out.mono ?_
        rintro e w1 ⟨gg, rfl, hgs, hb1⟩
        go_wp2_with fail
        refine (HM.out w1).mono ?_
        rintro e w2 ⟨rfl, rfl⟩
        obtain ⟨y, g, vF, vL, ms, h3, hnw⟩ := hgs
        have HG1 := Lib.hid (gsame_any (h3.g2 HR0.out) hnl8)
        have HP : Hid (PlI w gg nl 0 w1) := Lib.hid ⟨_, _, ⟨⟨y, g, vF, vL, ms, h3, hnw⟩, HR0.out, sm0 nl bs⟩, rfl, hb1⟩
        clear h3 hnw hb1
        go_wp2_with fail
        refine HG1.out.mono ?_
        rintro e w2 ⟨rfl, hb2⟩
        have HP2 : Hid (PlI w gg nl 0 w2) := Lib.hid (by
          obtain ⟨s, r, q1, q2, q3⟩ := HP.out
          exact ⟨s, r, q1.below hb2, q2, belowT q3 (belowB hb2 q1.gs.lt)⟩)
        clear hb2 HP HG1
        go_wp2
        go_loopg [8] n2 (fun k v wr => ∃ j : Nat, v = .int .i64 (j : Int) ∧ j ≤ n2 ∧ n2 - j ≤ k ∧ PlI w gg nl j wr)
        case atStart => exact ⟨0, rfl, by omega, by omega, HP2.out⟩
        case round =>
          obtain ⟨j, rfl, hjn, hk, hP⟩ := hrel
          rename World => wr
          have HPJ := Lib.hid hP
          clear hP HP2
          by_cases hlt : j < n2
          · obtain ⟨ga, ks, rfl, hA⟩ := HAT.out (by rw [HL2.out]; omega)
            have hjl : j < l.length := by rw [HL2.out]; exact hlt
            obtain ⟨s, r, hGA, _, hBw⟩ := HPJ.out
            obtain ⟨c0, c1, c2, c3, c4, c5⟩ := (hA.below hBw).cells hjl
            have HST := Lib.hid (HPJ.out.step hnl8 (by omega) hA hjl (H20.out j hjl))
            unfold actA at HST
            clear hA hjl hGA hBw
            go_wp2_with fail
            refine HST.out.mono ?_
            rintro e w3 ⟨rfl, hP3⟩
            have HP3 := Lib.hid hP3
            clear hP3
            go_wp2
            go_roundg (n2 - (j + 1))
            case measure => omega
            case rel => exact ⟨j + 1, by go_num, by omega, by omega, HP3.out⟩
          · have hje : j = n2 := by omega
            have hdj : decide ((j : Int) < (n2 : Int)) = false := by simp; omega
            have hBL : Hid (Below w.heap.size w wr) := Lib.hid (by obtain ⟨s, r, _, _, q⟩ := HPJ.out; exact q)
            go_wp2_with fail
            refine (known_any wr).mono ?_
            rintro e w3 ⟨rfl, hb3⟩
            have HE := Lib.hid (belowT hBL.out (belowB hb3 hBL.out.size))
            go_wp2
            go_ret
            exact ⟨rfl, HE.out⟩
    · have d512 : decide ((512 : Int) < (n : Int)) = true := by simp; omega
      have e512 : 512 < n := by omega
      go_enter Try.func3, Try.ntmps3
      go_wp2_with fail
      refine HF.out.mono ?_
      rintro e w1 ⟨rfl, rfl⟩
      go_wp2_with fail
      refine (known_any w).mono ?_
      rintro e w1 ⟨rfl, hb⟩
      go_wp2
      go_ret
      exact ⟨rfl, hb⟩
end Go.Proofs.Ytkeajfedlhgejaa
/- PmemPlays as its row hands it its arguments; no conditions. -/
namespace Go.Proofs.Ytkeajfedlhgejaa
open Go Go.RowKit
set_option linter.unusedVariables false
theorem bsAt_of {W : World} {a : Option Addr} {n cap : Nat} {zs : List Int} (h : InRow .u8 W a n cap zs) : (∃ l, BsAt W a n cap l) ∧ n ≤ 9223372036854775807 := by
  refine ⟨?_, ?_⟩
  · obtain ⟨l, hl, hb, hs, hc, hno⟩ := h.read wf_byte
    exact ⟨l, hl, hb, hs, hno⟩
  · rcases h with ⟨_, rfl, _, _⟩ | ⟨x, _, h1, h2, _⟩
    · omega
    · unfold maxLen at h2; omega
theorem plays_walk (a0 : Option Addr) (len0 cap0 : Nat) (z0 : List Int) (a1 : Option Addr) (len1 cap1 : Nat) (z1 : List Act2) (W : World) (w0 : InRow .u8 W a0 len0 cap0 z0) (w1 : Acts2In W a1 len1 cap1 z1) :
    Calls Try.prog 3 #[.slice a0 len0 cap0, .slice a1 len1 cap1] W fun e w' => e = .returned (.bool true) ∧ Below W.heap.size W w' := by
  obtain ⟨⟨l, hb⟩, hn⟩ := bsAt_of w0
  exact plays2_any hb w1 hn
end Go.Proofs.Ytkeajfedlhgejaa
/- What PmemLasts holds on its way: the game, a line that is seen as it was, all of it that is pending marked by a client. -/
namespace Go.Proofs.Ytkeajfedlhgejaa
open Go Go.RowKit
set_option linter.unusedVariables false
/-- The game's own calls that look. -/
structure Looks (W : World) (gg : Nat) (s : St) (r : Rf) (yg : Nat) : Prop where
  c0 : W.cell? ⟨gg, 0, none⟩ = some (.pointer (some ⟨yg, 0, none⟩))
  view : Calls Try.prog 17 #[.pointer (some ⟨yg, 0, none⟩)] W (BytesPost W (bytesL s.view))
  image : Calls Try.prog 16 #[.pointer (some ⟨yg, 0, none⟩)] W (BytesPost W (bytesL s.lasted))
  pend : ∀ a : Nat, Calls Try.prog 19 #[.pointer (some ⟨yg, 0, none⟩), .int .u64 (a : Int)] W fun e w' => e = .returned (.int .i64 (pcnt r a : Int)) ∧ Below W.heap.size W w'
theorem GS.looks {B : Nat} {W : World} {gg : Nat} {s : St} {r : Rf} (h : GS B W gg s r) (hr : RelAt s r) : ∃ yg, ∀ W', Below W.heap.size W W' → Looks W' gg s r yg := by
  obtain ⟨y, g, vF, vL, ms, h3, hn⟩ := h
  refine ⟨y.g, fun W' hb => ⟨?_, view_yes (h3.m.below hb) hr.ok.vie, image_yes (h3.m.below hb) hr.ok.las, fun a => pendP (h3.m.below hb) hr a⟩⟩
  have := (h3.row.below hb h3.row.lt).cell 0
  simpa using this
def LsI (w : World) (gg nl m j c : Nat) (V : List Nat) (wr : World) : Prop := ∃ s r, GA w.heap.size wr gg s r m ∧ s.nl = nl ∧ Below w.heap.size w wr ∧ LI j c V r
theorem LsI.below {w wr w' : World} {gg nl m j c : Nat} {V : List Nat} (h : LsI w gg nl m j c V wr) (hb : Below wr.heap.size wr w') : LsI w gg nl m j c V w' := by
  obtain ⟨s, r, h1, h2, h3, h4⟩ := h
  exact ⟨s, r, h1.below hb, h2, belowT h3 (belowB hb h1.gs.lt), h4⟩
theorem LsI.mono {w wr : World} {gg nl m m' j c : Nat} {V : List Nat} (h : LsI w gg nl m j c V wr) (hm : m ≤ m') : LsI w gg nl m' j c V wr := by
  obtain ⟨s, r, h1, h2, h3, h4⟩ := h
  exact ⟨s, r, h1.mono hm, h2, h3, h4⟩
theorem z64 : 0 < 18446744073709551616 := by decide
theorem KB.nil (P : Nat → Prop) (w : World) : KB P w (.slice none 0 0) [] := ⟨none, 0, rfl, fun i u hu => (by simp at hu), fun _ => rfl, fun a e _ => (by cases e), fun z hz => (by cases hz), Nat.zero_le _⟩
/-- The Flush. -/
theorem PlI.flush {w wr : World} {gg nl m : Nat} (h : PlI w gg nl m wr) (hnl : nl ≤ 8) (hm : m ≤ 900) {c a : Nat} (hc : c ≤ 64) (h8 : a % 8 = 0) (ha : a < 64 * nl) :
    Calls Try.prog 13 #[.pointer (some ⟨gg, 0, none⟩), .agg #[.int .i64 3, .int .i64 (c : Int), .int .u64 (a : Int), .int .u64 0, .int .i64 0, .slice none 0 0]] wr fun e w' => e = .returned (.bool true) ∧ ∃ (V : List Nat) (yg : Nat), V.length = 8 * nl ∧ LsI w gg nl (m + 1) (a / 64) c V w' ∧ ∀ W', Below w'.heap.size w' W' → W'.cell? ⟨gg, 0, none⟩ = some (.pointer (some ⟨yg, 0, none⟩)) ∧ Calls Try.prog 17 #[.pointer (some ⟨yg, 0, none⟩)] W' (BytesPost W' (bytesL V)) := by
  obtain ⟨s, r, hG, hn, hB⟩ := h
  have hx := gdo_any hG (by omega) hm ⟨3, c, a, 0, 0, []⟩ (.slice none 0 0) (KB.nil _ _) (by show a < _; omega) z64
  have hR := rel_do hG.rel hG.sm (by omega) ⟨3, c, a, 0, 0, []⟩ z64
  have hN := nl_do (x := ⟨3, c, a, 0, 0, []⟩) hG.rel hG.sm (by omega) z64
  have e2 : doR ⟨3, c, a, 0, 0, []⟩ s r = r.flush c a := by
    have hw : wd2 s.nl a = true := wd2_iff.2 ⟨h8, by omega⟩
    have hcl : cl2 (c : Int) = true := cl2_iff.2 ⟨by omega, by omega⟩
    simp [doR, hw, hcl]
  refine hx.mono ?_
  rintro e w' ⟨rfl, h1, h2⟩
  obtain ⟨yg, hl⟩ := h1.gs.looks hR
  refine ⟨rfl, (doS ⟨3, c, a, 0, 0, []⟩ s).view, yg, by rw [hR.vl, hN, hn], ⟨_, _, h1, hN.trans hn, belowT hB h2, ?_⟩, fun W' hb => ⟨(hl W' hb).c0, (hl W' hb).view⟩⟩
  refine ⟨?_, fun k _ => by rw [hR.view]⟩
  rw [e2]
  exact (LI.start r).mq
/-- A step between. -/
theorem LsI.step {w wr : World} {gg nl m jl c : Nat} {V : List Nat} (h : LsI w gg nl m jl c V wr) (hnl : nl ≤ 8) (hm : m ≤ 900) {x : Addr} {l : List Act2} {ks : Nat → Value} (hA : Acts2At w x l ks) {i : Nat} (hi : i < l.length) (h20 : (act2 l i).kp.length ≤ 20) (h6 : (act2 l i).k ≠ 6) (h1 : ¬ ((act2 l i).k = 1 ∧ (act2 l i).a / 64 = jl)) :
    Calls Try.prog 13 #[.pointer (some ⟨gg, 0, none⟩), actA (act2 l i) (ks i)] wr fun e w' => e = .returned (.bool true) ∧ LsI w gg nl (m + 1) jl c V w' := by
  obtain ⟨s, r, hG, hn, hB, hL⟩ := h
  have hb := hA.a i hi
  refine (gdo_any hG (by omega) hm (act2 l i) (ks i) ((KB.of (hA.kp i hi) (by omega)).keep (keepB hB)) hb.1 hb.2).mono ?_
  rintro e w' ⟨rfl, q1, q2⟩
  exact ⟨rfl, _, _, q1, (nl_do hG.rel hG.sm (by omega) hb.2).trans hn, belowT hB q2, hL.act h6 h1⟩
/-- The Fence. -/
theorem LsI.fence {w wr : World} {gg nl m jl c : Nat} {V : List Nat} (h : LsI w gg nl m jl c V wr) (hnl : nl ≤ 8) (hm : m ≤ 900) (hc : c ≤ 64) (hj : jl < nl) :
    Calls Try.prog 13 #[.pointer (some ⟨gg, 0, none⟩), .agg #[.int .i64 4, .int .i64 (c : Int), .int .u64 0, .int .u64 0, .int .i64 0, .slice none 0 0]] wr fun e w' => e = .returned (.bool true) ∧ Below w.heap.size w w' ∧ ∃ (U : List Nat) (yg : Nat), U.length = 8 * nl ∧ lineB U jl = lineB V jl ∧ ∀ W', Below w'.heap.size w' W' → W'.cell? ⟨gg, 0, none⟩ = some (.pointer (some ⟨yg, 0, none⟩)) ∧ Calls Try.prog 16 #[.pointer (some ⟨yg, 0, none⟩)] W' (BytesPost W' (bytesL U)) ∧ ∀ a : Nat, a / 64 = jl → Calls Try.prog 19 #[.pointer (some ⟨yg, 0, none⟩), .int .u64 (a : Int)] W' fun e w' => e = .returned (.int .i64 0) ∧ Below W'.heap.size W' w' := by
  obtain ⟨s, r, hG, hn, hB, hL⟩ := h
  have hx := gdo_any hG (by omega) hm ⟨4, c, 0, 0, 0, []⟩ (.slice none 0 0) (KB.nil _ _) z64 z64
  have hR := rel_do hG.rel hG.sm (by omega) ⟨4, c, 0, 0, 0, []⟩ z64
  have hN := nl_do (x := ⟨4, c, 0, 0, 0, []⟩) hG.rel hG.sm (by omega) z64
  have e2 : doR ⟨4, c, 0, 0, 0, []⟩ s r = r.fence c := by
    have hcl : cl2 (c : Int) = true := cl2_iff.2 ⟨by omega, by omega⟩
    simp [doR, hcl]
  obtain ⟨f1, f2⟩ := hL.fin
  rw [← e2] at f1 f2
  refine hx.mono ?_
  rintro e w' ⟨rfl, h1, h2⟩
  obtain ⟨yg, hl⟩ := h1.gs.looks hR
  refine ⟨rfl, belowT hB h2, (doS ⟨4, c, 0, 0, 0, []⟩ s).lasted, yg, by rw [hR.ll, hN, hn], lineB_eq fun k hk => by rw [hR.image]; exact f2 k hk, fun W' hb => ⟨(hl W' hb).c0, (hl W' hb).image, fun a ha => ?_⟩⟩
  refine ((hl W' hb).pend a).mono ?_
  rintro e w2 ⟨rfl, hb2⟩
  refine ⟨?_, hb2⟩
  congr 2
  unfold pcnt
  rw [ha, f1]
  split <;> rfl
end Go.Proofs.Ytkeajfedlhgejaa
