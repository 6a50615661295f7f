/- Texts of this claim, packed: R2Ev, R2Do, R2Las. -/
import Derived.Test.YtkeajfedlhgejaaPc21
import Derived.Test.YtkeajfedlhgejaaPc15
import Derived.Test.YtkeajfedlhgejaaPc04
/- Evict of the document's memory: the elder pending stores of a line last. -/
namespace Go.Proofs.Ytkeajfedlhgejaa
open Go.RowKit
set_option linter.unusedVariables false
theorem ev_min (j n : Nat) (l : List Md) : ev j (min n (pen j l).length) l = ev j n l := by
  induction l generalizing n with
  | nil => rfl
  | cons x t ih =>
    by_cases hp : isPen j x = true
    · have e : pen j (x :: t) = x :: pen j t := by simp [pen, hp]
      rw [e, List.length_cons]
      by_cases hn : n = 0
      · subst hn; simp
      · have h0 : min n ((pen j t).length + 1) ≠ 0 := by omega
        simp only [ev, hn, h0, hp, ne_eq, not_false_eq_true, and_self, if_true]
        rw [show min n ((pen j t).length + 1) - 1 = min (n - 1) (pen j t).length from by omega, ih]
    · have e : pen j (x :: t) = pen j t := by simp [pen, hp]
      rw [e]
      simp only [ev, hp, and_false, if_false, Bool.false_eq_true]
      rw [ih]
def prefE (j n : Nat) (L : List Md) (i : Nat) : List Md := ev j n (L.take i) ++ L.drop i
theorem prefE_zero (j n : Nat) (L : List Md) : prefE j n L 0 = L := by simp [prefE, ev]
theorem prefE_len (j n : Nat) (L : List Md) (i : Nat) : (prefE j n L i).length = L.length := by simp [prefE, ev_length]; omega
theorem prefE_get {j n : Nat} {L : List Md} {i : Nat} {x : Md} (h : L[i]? = some x) : (prefE j n L i)[i]? = some x := by
  have hi := (List.getElem?_eq_some_iff.1 h).1
  unfold prefE
  rw [List.getElem?_append_right (by simp [ev_length]; omega)]
  simp only [ev_length, List.length_take, List.getElem?_drop]
  rw [show i + (i - min i L.length) = i from by omega]
  exact h
theorem prefE_set {j n : Nat} {L : List Md} {i : Nat} {x : Md} (h : L[i]? = some x) (hp : isPen j x = true) (hn : (pen j (L.take i)).length < n) : (prefE j n L i).set i x.set = prefE j n L (i + 1) := by
  have hi := (List.getElem?_eq_some_iff.1 h).1
  have hx := (List.getElem?_eq_some_iff.1 h).2
  unfold prefE
  rw [List.set_append, if_neg (by simp [ev_length]; omega), List.take_succ_eq_append_getElem hi, ev_append, List.append_assoc, List.drop_eq_getElem_cons hi]
  simp only [ev_length, List.length_take]
  rw [show i - min i L.length = 0 from by omega]
  have h0 : n - (pen j (L.take i)).length ≠ 0 := by omega
  simp only [hx, List.set_cons_zero, ev, hp, h0, ne_eq, not_false_eq_true, and_self, if_true, List.cons_append, List.nil_append]
theorem prefE_keep {j n : Nat} {L : List Md} {i : Nat} {x : Md} (h : L[i]? = some x) (hp : isPen j x = false) : prefE j n L i = prefE j n L (i + 1) := by
  have hi := (List.getElem?_eq_some_iff.1 h).1
  have hx := (List.getElem?_eq_some_iff.1 h).2
  unfold prefE
  rw [List.take_succ_eq_append_getElem hi, ev_append, List.append_assoc, List.drop_eq_getElem_cons hi]
  simp [hx, ev, hp]
theorem prefE_all (j n : Nat) (L : List Md) : prefE j n L L.length = ev j n L := by simp [prefE]
theorem prefE_full {j n : Nat} {L : List Md} {i : Nat} (hn : n ≤ (pen j (L.take i)).length) : prefE j n L i = ev j n L := by
  unfold prefE
  conv => rhs; rw [← List.take_append_drop i L, ev_append, show n - (pen j (L.take i)).length = 0 from by omega, ev_zero]
theorem pen_take_le (j : Nat) (L : List Md) (i : Nat) : (pen j (L.take i)).length ≤ (pen j L).length := by
  conv => rhs; rw [← List.take_append_drop i L, pen_append, List.length_append]
  omega
set_option maxRecDepth 100000 in
set_option maxHeartbeats 2000000 in
theorem r2Evict_arg {w : World} (g : Nat) (a n : Int) (hn : n < 0) :
    Calls Try.prog 42 #[.pointer (some ⟨g, 0, none⟩), .int .u64 a, .int .i64 n] w fun e w' => e = .returned (.tuple #[.int .i64 0, .int .i64 2]) ∧ w = w' := by
  have d0 : decide (n < 0) = true := by simpa using hn
  go_enter Try.func42, Try.ntmps42
  go_wp2
  go_ret2
  exact ⟨rfl, rfl⟩
set_option maxRecDepth 100000 in
set_option maxHeartbeats 2000000 in
theorem r2Evict_no {w : World} {g : Nat} {r : Rf} {vF vL : Value} {ms : List Value} (h : R2At w g r vF vL ms) (a n : Nat) (hn : r.nl ≤ 16384) (ha : a < 18446744073709551616) (hb : ¬ (a % 8 = 0 ∧ a < 64 * r.nl)) :
    Calls Try.prog 42 #[.pointer (some ⟨g, 0, none⟩), .int .u64 (a : Int), .int .i64 (n : Int)] w fun e w' => e = .returned (.tuple #[.int .i64 0, .int .i64 3]) ∧ w = w' := by
  have HI := r2Is_any h a hn ha
  rw [decide_eq_false hb] at HI
  have HI := Lib.hid HI
  have d0 : decide ((n : Int) < 0) = false := by simp
  clear h hb
  go_enter Try.func42, Try.ntmps42
  go_wp2_with fail
  refine HI.out.mono ?_
  rintro e w1 ⟨rfl, rfl⟩
  go_wp2
  go_ret2
  exact ⟨rfl, rfl⟩
set_option maxRecDepth 100000 in
set_option maxHeartbeats 8000000 in
theorem r2Evict_yes {w : World} {g : Nat} {r : Rf} {vF vL : Value} {ms : List Value} (h : R2At w g r vF vL ms) (a n : Nat) (hnl : r.nl ≤ 16384) (ha : a < 18446744073709551616) (hb : a % 8 = 0 ∧ a < 64 * r.nl) (had : ∀ x ∈ r.L, x.a < 18446744073709551616) :
    Calls Try.prog 42 #[.pointer (some ⟨g, 0, none⟩), .int .u64 (a : Int), .int .i64 (n : Int)] w fun e w' => e = .returned (.tuple #[.int .i64 ((min n (pen (a / 64) r.L).length : Nat) : Int), .int .i64 0]) ∧ P2 w g vF vL ms (r.evict (a / 64) n) w' := by
  have HI := r2Is_any h a hnl ha
  rw [decide_eq_true hb] at HI
  have HI := Lib.hid HI
  have HL := Lib.hid fun W => r2line_any a W ha
  have HX := Lib.hid fun (x : Md) (hx : x ∈ r.L) (W : World) => r2line_any x.a W (had x hx)
  have d0 : decide ((n : Int) < 0) = false := by simp
  obtain ⟨A, cap, rfl, hm⟩ := own4_sl h.li
  obtain ⟨q, hq⟩ : ∃ q, r.L.length = q := ⟨_, rfl⟩
  rw [hq] at h hm
  obtain ⟨l, hl⟩ : ∃ l : Nat, l = a / 64 := ⟨_, rfl⟩
  rw [← hl] at HL ⊢
  have hqx : q ≤ 9223372036854775807 := by unfold maxLen at hm; omega
  have H := Lib.hid h
  have HQ := Lib.hid hq
  have HLL := Lib.hid hl
  rw [hq]
  clear h hm hq hb had hl
  go_enter Try.func42, Try.ntmps42
  go_wp2_with fail
  refine HI.out.mono ?_
  rintro e w1 ⟨rfl, rfl⟩
  go_wp2
  go_loopg [8, 9] q (fun k u v wr => ∃ i d : Nat, v = .int .i64 (i : Int) ∧ u = .int .i64 (d : Int) ∧ d = min n (pen l (r.L.take i)).length ∧ i ≤ q ∧ q - i ≤ k ∧ R2At wr g { r with L := prefE l n r.L i } vF (.slice A q cap) ms ∧ But w wr (fp2 g vF (.slice A q cap) ms))
  case atStart => exact ⟨0, 0, rfl, rfl, by simp [pen], by omega, by omega, by rw [prefE_zero]; exact H.out, But.refl _ _⟩
  case round =>
    obtain ⟨i, d, rfl, rfl, hd, hin, hk, hr, hbt⟩ := hrel
    rename World => wr
    have c1 := hr.row.cell 1
    simp only [List.getElem?_toArray, List.getElem?_cons_succ, List.getElem?_cons_zero] at c1
    have hdi : d ≤ i := by
      have : (pen l (r.L.take i)).length ≤ (r.L.take i).length := List.length_filter_le _ _
      simp at this; omega
    by_cases hlt : i < q
    · obtain ⟨x, hx⟩ : ∃ x, r.L[i]? = some x := ⟨_, List.getElem?_eq_getElem (by rw [HQ.out]; exact hlt)⟩
      have hln : (prefE l n r.L i).length = q := by rw [prefE_len, HQ.out]
      have hx2 : (prefE l n r.L i)[i]? = some x := prefE_get hx
      have hxe := (List.getElem?_eq_some_iff.1 hx).2
      have hsn := pen_snoc l r.L i (by rw [HQ.out]; exact hlt)
      rw [hxe] at hsn
      obtain ⟨gl, v, rfl, hv, x0, x1, x2, x3, fr, ho⟩ := hr.cellsX hln hx2
      have fr2 := fr (i * 4 + 2)
      have HXX := Lib.hid (fun W => HX.out x (List.mem_of_getElem? hx) W)
      by_cases hdn : d < n
      · cases hxd : x.d
        · rw [hxd] at x2
          by_cases hll : x.a / 64 = l
          · have hle : (((x.a / 64 : Nat) : Int) == (l : Int)) = true := by simp; omega
            have hp : isPen l x = true := by simp [isPen, hxd, hll]
            have HR := hr.setX hln hx2
            change R2At _ g { r with L := (prefE l n r.L i).set i x.set } _ _ _ at HR
            rw [prefE_set hx hp (by omega)] at HR
            have HR := Lib.hid HR
            have HB2 := Lib.hid (But.set hbt (p := ⟨gl, i * 4 + 2, none⟩) (.inr (.inr (.inl rfl))) (.bool true))
            have HD : Hid (d + 1 = min n (pen l (r.L.take (i + 1))).length) := Lib.hid (by rw [hsn, if_pos hp]; omega)
            clear hr hbt hx hx2 hln hv x1 x3 fr ho hp hxe hsn hd
            go_wp2_with fail
            refine (HXX.out _).mono ?_
            rintro e w1 ⟨rfl, rfl⟩
            go_wp2_with fail
            refine (HL.out _).mono ?_
            rintro e w1 ⟨rfl, rfl⟩
            go_wp2
            go_roundg (q - (i + 1))
            case measure => omega
            case rel => exact ⟨i + 1, d + 1, by go_num, by go_num, HD.out, by omega, by omega, HR.out, HB2.out⟩
          · have hle : (((x.a / 64 : Nat) : Int) == (l : Int)) = false := by simp; omega
            have hp : isPen l x = false := by simp [isPen, hxd, hll]
            rw [prefE_keep hx hp] at hr
            have HR := Lib.hid hr
            have HB2 := Lib.hid hbt
            have HD : Hid (d = min n (pen l (r.L.take (i + 1))).length) := Lib.hid (by rw [hsn, hp]; simpa using hd)
            clear hr hbt hx hx2 hln hv x1 x3 fr fr2 ho hp hxe hsn hd
            go_wp2_with fail
            refine (HXX.out _).mono ?_
            rintro e w1 ⟨rfl, rfl⟩
            go_wp2_with fail
            refine (HL.out _).mono ?_
            rintro e w1 ⟨rfl, rfl⟩
            go_wp2
            go_roundg (q - (i + 1))
            case measure => omega
            case rel => exact ⟨i + 1, d, by go_num, rfl, HD.out, by omega, by omega, HR.out, HB2.out⟩
        · rw [hxd] at x2
          have hp : isPen l x = false := by simp [isPen, hxd]
          rw [prefE_keep hx hp] at hr
          have HR := Lib.hid hr
          have HB2 := Lib.hid hbt
          have HD : Hid (d = min n (pen l (r.L.take (i + 1))).length) := Lib.hid (by rw [hsn, hp]; simpa using hd)
          clear hr hbt hx hx2 hln hv x0 x1 x3 fr fr2 ho hp hxe hsn hd
          go_wp2
          go_roundg (q - (i + 1))
          case measure => omega
          case rel => exact ⟨i + 1, d, by go_num, rfl, HD.out, by omega, by omega, HR.out, HB2.out⟩
      · have hdd : decide ((d : Int) < (n : Int)) = false := by simp; omega
        have hen : n ≤ (pen l (r.L.take i)).length := by omega
        have HD : Hid (d = min n (pen l r.L).length) := Lib.hid (by have := pen_take_le l r.L i; omega)
        have HE : Hid (P2 w g vF (.slice (some ⟨gl, 0, none⟩) q cap) ms (r.evict l n) wr) := Lib.hid (by
          refine ⟨vF, .slice (some ⟨gl, 0, none⟩) q cap, ms, ?_, hbt, fun k hk => .inl hk⟩
          rw [prefE_full hen] at hr
          exact hr)
        clear hr hbt hx hx2 hln hv x0 x1 x2 x3 fr fr2 ho hxe hsn hd
        go_wp2
        go_ret2
        exact ⟨by rw [HD.out]; rfl, HE.out⟩
    · have hie : i = q := by omega
      have hid : decide ((i : Int) < (q : Int)) = false := by simp; omega
      have HD : Hid (d = min n (pen l r.L).length) := Lib.hid (by rw [hd, hie, ← HQ.out, List.take_length])
      have HE : Hid (P2 w g vF (.slice A q cap) ms (r.evict l n) wr) := Lib.hid (by
        refine ⟨vF, .slice A q cap, ms, ?_, hbt, fun k hk => .inl hk⟩
        rw [hie, ← HQ.out, prefE_all] at hr
        rw [← HQ.out]
        exact hr)
      clear hr hbt hd
      go_wp2
      go_ret2
      exact ⟨by rw [HD.out]; rfl, HE.out⟩
end Go.Proofs.Ytkeajfedlhgejaa
/- What an act does to the program's memory and to the document's: plain; both go on saying the same; the numbers stay small. -/
namespace Go.Proofs.Ytkeajfedlhgejaa
set_option linter.unusedVariables false
/-- An act. -/
structure Act2 where
  k : Int
  c : Int
  a : Nat
  v : Nat
  n : Int
  kp : List Int
def wd2 (nl a : Nat) : Bool := decide (a % 8 = 0 ∧ a < 64 * nl)
def cl2 (c : Int) : Bool := decide (0 ≤ c ∧ c ≤ 64)
def doS (x : Act2) (s : St) : St :=
  if x.k = 1 then (if wd2 s.nl x.a = true then s.store x.a x.v else s)
  else if x.k = 2 then (if wd2 s.nl x.a = true then { s with ld := s.ld + 1 } else s)
  else if x.k = 3 then (if cl2 x.c = true ∧ wd2 s.nl x.a = true then s.flush x.c.toNat x.a else s)
  else if x.k = 4 then (if cl2 x.c = true then s.fence x.c.toNat else s)
  else if x.k = 5 then (if 0 ≤ x.n ∧ wd2 s.nl x.a = true then s.last (x.a / 64) (min x.n.toNat (s.pend.getD (x.a / 64) []).length) else s)
  else if x.k = 6 then s.crash x.kp
  else s
def doR (x : Act2) (s : St) (r : Rf) : Rf :=
  if x.k = 1 then (if wd2 s.nl x.a = true then r.store x.a x.v else r)
  else if x.k = 2 then (if wd2 s.nl x.a = true then r.load else r)
  else if x.k = 3 then (if cl2 x.c = true ∧ wd2 s.nl x.a = true then r.flush x.c.toNat x.a else r)
  else if x.k = 4 then (if cl2 x.c = true then r.fence x.c.toNat else r)
  else if x.k = 5 then (if 0 ≤ x.n ∧ wd2 s.nl x.a = true then r.evict (x.a / 64) x.n.toNat else r)
  else if x.k = 6 then r.crash x.kp (nz s.pend)
  else r
/-- The numbers are at most m. -/
structure Sm2 (r : Rf) (m : Nat) : Prop where
  ld : r.ld ≤ m
  st : r.st ≤ m
  fl : r.fl ≤ m
  fe : r.fe ≤ m
  l : r.L.length ≤ m
  mq : ∀ x ∈ r.L, x.m.length ≤ m
theorem Sm2.mono {r : Rf} {m n : Nat} (h : Sm2 r m) (hn : m ≤ n) : Sm2 r n := ⟨by have := h.ld; omega, by have := h.st; omega, by have := h.fl; omega, by have := h.fe; omega, by have := h.l; omega, fun x hx => by have := h.mq x hx; omega⟩
theorem ev_marks {j n : Nat} {l : List Md} {x : Md} (h : x ∈ ev j n l) : ∃ y ∈ l, x.m = y.m := by
  induction l generalizing n with
  | nil => cases h
  | cons a t ih =>
    simp only [ev] at h
    split at h
    · rcases List.mem_cons.1 h with h | h
      · exact ⟨a, by simp, by rw [h]; rfl⟩
      · obtain ⟨y, hy, e⟩ := ih h
        exact ⟨y, by simp [hy], e⟩
    · rcases List.mem_cons.1 h with h | h
      · exact ⟨a, by simp, by rw [h]⟩
      · obtain ⟨y, hy, e⟩ := ih h
        exact ⟨y, by simp [hy], e⟩
theorem crash_nums (keep : List Int) (xs : List (Nat × Nat)) (r : Rf) : (r.crash keep xs).nl = r.nl ∧ (r.crash keep xs).ld = r.ld ∧ (r.crash keep xs).st = r.st ∧ (r.crash keep xs).fl = r.fl ∧ (r.crash keep xs).fe = r.fe := by
  have h : ∀ (xs : List (Nat × Nat)) (r : Rf), (r.crashTo keep xs).nl = r.nl ∧ (r.crashTo keep xs).ld = r.ld ∧ (r.crashTo keep xs).st = r.st ∧ (r.crashTo keep xs).fl = r.fl ∧ (r.crashTo keep xs).fe = r.fe := by
    intro xs
    induction xs with
    | nil => exact fun r => ⟨rfl, rfl, rfl, rfl, rfl⟩
    | cons x t ih => exact fun r => ih (r.crash1 keep x)
  exact h xs r
theorem doR_small {x : Act2} {s : St} {r : Rf} {m : Nat} (h : Sm2 r m) : Sm2 (doR x s r) (m + 1) := by
  have h' := h.mono (Nat.le_succ m)
  obtain ⟨h1, h2, h3, h4, h5, h6⟩ := h
  unfold doR
  split
  · split
    · refine ⟨by simp [Rf.store]; omega, by simp [Rf.store]; omega, by simp [Rf.store]; omega, by simp [Rf.store]; omega, by simp [Rf.store]; omega, ?_⟩
      intro y hy
      rcases List.mem_append.1 hy with hy | hy
      · exact h'.mq y hy
      · simp at hy; subst hy; simp
    · exact h'
  · split
    · split
      · exact ⟨by simp [Rf.load]; omega, h'.st, h'.fl, h'.fe, h'.l, h'.mq⟩
      · exact h'
    · split
      · split
        · refine ⟨h'.ld, h'.st, by simp [Rf.flush]; omega, h'.fe, by simp [Rf.flush]; omega, ?_⟩
          intro y hy
          obtain ⟨z, hz, rfl⟩ := List.mem_map.1 (show y ∈ r.L.map (flM x.c.toNat x.a) from hy)
          have := h6 z hz
          unfold flM
          split
          · simp; omega
          · omega
        · exact h'
      · split
        · split
          · refine ⟨h'.ld, h'.st, h'.fl, by simp [Rf.fence]; omega, by simp [Rf.fence]; omega, ?_⟩
            intro y hy
            obtain ⟨z, hz, rfl⟩ := List.mem_map.1 (show y ∈ r.L.map (feM x.c.toNat) from hy)
            rw [(feM_a _ z).2.2]
            exact h'.mq z hz
          · exact h'
        · split
          · split
            · refine ⟨h'.ld, h'.st, h'.fl, h'.fe, by simp [Rf.evict, ev_length]; omega, ?_⟩
              intro y hy
              obtain ⟨z, hz, e⟩ := ev_marks (show y ∈ ev _ _ r.L from hy)
              rw [e]
              exact h'.mq z hz
            · exact h'
          · split
            · obtain ⟨n0, n1, n2, n3, n4⟩ := crash_nums x.kp (nz s.pend) r
              exact ⟨by omega, by omega, by omega, by omega, by simp [Rf.crash, Rf.fin], fun y hy => by simp [Rf.crash, Rf.fin] at hy⟩
            · exact h'
theorem wd2_iff {nl a : Nat} : wd2 nl a = true ↔ a % 8 = 0 ∧ a < 64 * nl := by simp [wd2]
theorem cl2_iff {c : Int} : cl2 c = true ↔ 0 ≤ c ∧ c ≤ 64 := by simp [cl2]
theorem lastO {s : St} {r : Rf} (h : RelAt s r) {j n : Nat} (hj : j < s.nl) (hn : n ≤ (s.pend.getD j []).length) : (s.last j n).Ok := last_Ok h.ok (by rw [h.pl]; exact hj) hn
theorem rel_do {s : St} {r : Rf} (h : RelAt s r) {m : Nat} (hm : Sm2 r m) (hmx : m ≤ 1000000) (x : Act2) (hv : x.v < 18446744073709551616) : RelAt (doS x s) (doR x s r) := by
  have hsd := h.sd
  have hss := h.ss
  have hsf := h.sf
  have hse := h.se
  have hld := hm.ld
  have hst := hm.st
  have hfl := hm.fl
  have hfe := hm.fe
  have hL := hm.l
  unfold doS doR
  split
  · split
    · rename_i hw
      obtain ⟨h8, ha⟩ := wd2_iff.1 hw
      refine rel_store h h8 ha hv (store_Ok h.ok h8 (by rw [h.pl]; omega) hv (by omega) ?_)
      rw [h.pcount _ (by omega)]
      have : (pen (x.a / 64) r.L).length ≤ r.L.length := List.length_filter_le _ _
      omega
    · exact h
  · split
    · split
      · refine rel_load h ?_
        have o := h.ok
        exact ⟨o.las, o.vie, o.put, o.few, o.mks, by show s.ld + 1 < _; omega, o.num.2⟩
      · exact h
    · split
      · split
        · rename_i hw
          obtain ⟨h8, ha⟩ := wd2_iff.1 hw.2
          obtain ⟨c0, c1⟩ := cl2_iff.1 hw.1
          exact rel_flush h (by omega) ha (flush_Ok h.ok (by omega))
        · exact h
      · split
        · split
          · rename_i hw
            obtain ⟨c0, c1⟩ := cl2_iff.1 hw
            exact rel_fence h (by omega) (fence_Ok h.ok (by omega))
          · exact h
        · split
          · split
            · rename_i hw
              obtain ⟨h8, ha⟩ := wd2_iff.1 hw.2
              have hj : x.a / 64 < s.nl := by omega
              have := rel_evict h hj (Nat.min_le_right x.n.toNat (s.pend.getD (x.a / 64) []).length)
              rw [show r.evict (x.a / 64) (min x.n.toNat (s.pend.getD (x.a / 64) []).length) = r.evict (x.a / 64) x.n.toNat from by
                unfold Rf.evict
                rw [h.pcount _ hj, ev_min]] at this
              exact this
            · exact h
          · split
            · exact rel_crash h x.kp (crash_Ok h.ok x.kp)
            · exact h
end Go.Proofs.Ytkeajfedlhgejaa
/- What has lasted behind Flush and Fence of a client; fronts of a line's stores: plain, on the document's memory. -/
namespace Go.Proofs.Ytkeajfedlhgejaa
set_option linter.unusedVariables false
/-- A line's bytes. -/
def lineB (l : List Nat) (j : Nat) : List Nat := ((bytesL l).drop (64 * j)).take 64
theorem wbytes_len (n : Nat) : (wbytes n).length = 8 := by simp [wbytes]
theorem bytesL_drop : ∀ (l : List Nat) (n : Nat), (bytesL l).drop (8 * n) = bytesL (l.drop n)
  | l, 0 => by simp
  | [], n + 1 => by simp [bytesL]
  | a :: t, n + 1 => by
    have e : bytesL (a :: t) = wbytes a ++ bytesL t := by simp [bytesL]
    rw [e, show 8 * (n + 1) = (wbytes a).length + 8 * n from by rw [wbytes_len]; omega, List.drop_append, Nat.add_sub_cancel_left, bytesL_drop t n]
    simp
theorem bytesL_take : ∀ (l : List Nat) (n : Nat), (bytesL l).take (8 * n) = bytesL (l.take n)
  | l, 0 => by simp [bytesL]
  | [], n + 1 => by simp [bytesL]
  | a :: t, n + 1 => by
    have e : bytesL (a :: t) = wbytes a ++ bytesL t := by simp [bytesL]
    rw [e, show 8 * (n + 1) = (wbytes a).length + 8 * n from by rw [wbytes_len]; omega, List.take_append, Nat.add_sub_cancel_left, bytesL_take t n, List.take_of_length_le (by omega)]
    simp [bytesL]
theorem lineB_words (l : List Nat) (j : Nat) : lineB l j = bytesL ((l.drop (8 * j)).take 8) := by
  unfold lineB
  rw [show 64 * j = 8 * (8 * j) from by omega, bytesL_drop, show 64 = 8 * 8 from rfl, bytesL_take]
theorem lineB_eq {l l' : List Nat} {j : Nat} (h : ∀ k, k / 8 = j → l[k]? = l'[k]?) : lineB l j = lineB l' j := by
  rw [lineB_words, lineB_words]
  congr 1
  apply List.ext_getElem?
  intro i
  rw [List.getElem?_take, List.getElem?_take]
  split
  · rw [List.getElem?_drop, List.getElem?_drop]
    exact h _ (by omega)
  · rfl
theorem bytesL_len (l : List Nat) : (bytesL l).length = 8 * l.length := by
  induction l with
  | nil => rfl
  | cons a t ih =>
    have e : bytesL (a :: t) = wbytes a ++ bytesL t := by simp [bytesL]
    rw [e, List.length_append, wbytes_len, ih]
    simp; omega
theorem lineB_len {l : List Nat} {j nl : Nat} (h : l.length = 8 * nl) (hj : j < nl) : (lineB l j).length = 64 := by
  unfold lineB
  rw [List.length_take, List.length_drop, bytesL_len, h]
  omega
theorem onl_keep {f : Md → Md} (hf : ∀ x, (f x).a = x.a) (hw : ∀ x, (f x).w = x.w) (l : List Md) : prs (l.map f) = prs l := prs_map hf hw l
theorem ev_prs (j n : Nat) (l : List Md) : prs (ev j n l) = prs l := by
  induction l generalizing n with
  | nil => rfl
  | cons x t ih =>
    simp only [ev]
    split
    · show (x.set.a, x.set.w) :: prs (ev j (n - 1) t) = (x.a, x.w) :: prs t
      rw [ih]; rfl
    · show (x.a, x.w) :: prs (ev j n t) = (x.a, x.w) :: prs t
      rw [ih]
/-- The stores in order, where nothing crashes. -/
theorem prs_do {x : Act2} {s : St} {r : Rf} (h6 : x.k ≠ 6) : (doR x s r).F = r.F ∧ prs (doR x s r).L = if x.k = 1 ∧ wd2 s.nl x.a = true then prs r.L ++ [(x.a, x.v)] else prs r.L := by
  by_cases k1 : x.k = 1
  · by_cases hw : wd2 s.nl x.a = true
    · simp [doR, k1, hw, Rf.store, prs]
    · simp [doR, k1, hw]
  · rw [if_neg (by intro q; exact k1 q.1)]
    unfold doR
    rw [if_neg k1]
    split
    · split
      · exact ⟨rfl, rfl⟩
      · exact ⟨rfl, rfl⟩
    · split
      · split
        · exact ⟨rfl, prs_map (fun y => (flM_a _ _ y).1) (fun y => (flM_a _ _ y).2.1) _⟩
        · exact ⟨rfl, rfl⟩
      · split
        · split
          · exact ⟨rfl, prs_map (fun y => (feM_a _ y).1) (fun y => (feM_a _ y).2.1) _⟩
          · exact ⟨rfl, rfl⟩
        · split
          · split
            · exact ⟨rfl, ev_prs _ _ _⟩
            · exact ⟨rfl, rfl⟩
          · exact ⟨rfl, rfl⟩
/-- All that is pending of a line is marked by a client; the line is seen as V. -/
structure LI (j c : Nat) (V : List Nat) (r : Rf) : Prop where
  mq : ∀ x ∈ r.L, isPen j x = true → c ∈ x.m
  v : ∀ k, k / 8 = j → (lastW r.F (prs r.L))[k]? = V[k]?
theorem ev_pen {j i n : Nat} {l : List Md} {x : Md} (h : x ∈ ev i n l) (hp : isPen j x = true) : ∃ y ∈ l, isPen j y = true ∧ x.m = y.m := by
  induction l generalizing n with
  | nil => cases h
  | cons a t ih =>
    simp only [ev] at h
    split at h
    · rcases List.mem_cons.1 h with h | h
      · subst h; simp [isPen, Md.set] at hp
      · obtain ⟨y, hy, e⟩ := ih h
        exact ⟨y, by simp [hy], e⟩
    · rcases List.mem_cons.1 h with h | h
      · subst h; exact ⟨x, by simp, hp, rfl⟩
      · obtain ⟨y, hy, e⟩ := ih h
        exact ⟨y, by simp [hy], e⟩
theorem LI.act {j c : Nat} {V : List Nat} {s : St} {r : Rf} (h : LI j c V r) {x : Act2} (h6 : x.k ≠ 6) (h1 : ¬ (x.k = 1 ∧ x.a / 64 = j)) : LI j c V (doR x s r) := by
  obtain ⟨eF, eP⟩ := prs_do (s := s) (r := r) h6
  refine ⟨?_, ?_⟩
  · unfold doR
    split
    · split
      · intro y hy hp
        rcases List.mem_append.1 hy with hy | hy
        · exact h.mq y hy hp
        · simp at hy; subst hy
          exfalso
          simp [isPen] at hp
          exact h1 ⟨by assumption, hp⟩
      · exact h.mq
    · split
      · split
        · exact h.mq
        · exact h.mq
      · split
        · split
          · intro y hy hp
            obtain ⟨z, hz, rfl⟩ := List.mem_map.1 (show y ∈ r.L.map (flM x.c.toNat x.a) from hy)
            have hz2 : isPen j z = true := by rw [← hp]; unfold isPen; rw [(flM_a _ _ z).1, (flM_a _ _ z).2.2]
            have := h.mq z hz hz2
            unfold flM
            split
            · simp [this]
            · exact this
          · exact h.mq
        · split
          · split
            · intro y hy hp
              obtain ⟨z, hz, rfl⟩ := List.mem_map.1 (show y ∈ r.L.map (feM x.c.toNat) from hy)
              have hz2 : isPen j z = true := by
                unfold feM at hp
                split at hp
                · simp [isPen, Md.set] at hp
                · exact hp
              rw [(feM_a _ z).2.2]
              exact h.mq z hz hz2
            · exact h.mq
          · split
            · split
              · intro y hy hp
                obtain ⟨z, hz, hz2, e⟩ := ev_pen (show y ∈ ev _ _ r.L from hy) hp
                rw [e]
                exact h.mq z hz hz2
              · exact h.mq
            · exact h.mq
  · intro k hk
    rw [eF, eP]
    split
    · rename_i q
      rw [lastW_append]
      refine Eq.trans ?_ (h.v k hk)
      show ((lastW r.F (prs r.L)).set (x.a / 8) x.v)[k]? = _
      exact List.getElem?_set_ne (by intro e; apply h1; exact ⟨q.1, by omega⟩)
    · exact h.v k hk
/-- Behind the Flush. -/
theorem LI.start {c a : Nat} (r : Rf) : LI (a / 64) c (lastW r.F (prs r.L)) (r.flush c a) := by
  refine ⟨?_, ?_⟩
  · intro y hy hp
    obtain ⟨z, hz, rfl⟩ := List.mem_map.1 (show y ∈ r.L.map (flM c a) from hy)
    have hz2 : isPen (a / 64) z = true := by rw [← hp]; unfold isPen; rw [(flM_a _ _ z).1, (flM_a _ _ z).2.2]
    exact (flM_mem hz2 c).2 (.inr rfl)
  · intro k _
    show (lastW r.F (prs (r.L.map (flM c a))))[k]? = _
    rw [prs_map (fun y => (flM_a _ _ y).1) (fun y => (flM_a _ _ y).2.1)]
/-- Behind the Fence. -/
theorem LI.fin {j c : Nat} {V : List Nat} {r : Rf} (h : LI j c V r) : pen j (r.fence c).L = [] ∧ ∀ k, k / 8 = j → (lastW (r.fence c).F (prs (las (r.fence c).L)))[k]? = V[k]? := by
  have hp : ∀ x ∈ (r.fence c).L, isPen j x = false := by
    intro y hy
    obtain ⟨z, hz, rfl⟩ := List.mem_map.1 (show y ∈ r.L.map (feM c) from hy)
    by_cases hz2 : isPen j z = true
    · have := h.mq z hz hz2
      simp [feM, this, isPen, Md.set]
    · have hz3 : isPen j z = false := by simpa using hz2
      unfold feM
      split
      · simp [isPen, Md.set]
      · exact hz3
  refine ⟨List.filter_eq_nil_iff.2 fun x hx => by rw [hp x hx]; simp, ?_⟩
  intro k hk
  have e1 : onl (k / 8) (las (r.fence c).L) = onl (k / 8) (r.fence c).L := by
    unfold onl las
    rw [List.filter_filter]
    apply List.filter_congr
    intro x hx
    have := hp x hx
    rw [hk]
    by_cases ha : x.a / 64 = j
    · simp [isPen, ha] at this
      simp [this]
    · simp [ha]
  rw [lastW_onl, e1, ← lastW_onl]
  show (lastW r.F (prs (r.L.map (feM c))))[k]? = _
  rw [prs_map (fun y => (feM_a _ y).1) (fun y => (feM_a _ y).2.1)]
  exact h.v k hk
theorem front_take {α : Type} (p : α → Bool) : ∀ (l D P : List α), l.filter p = D ++ P → ∃ i, i ≤ l.length ∧ (l.take i).filter p = D
  | [], D, P, h => by
    have : D = [] := by cases D with
      | nil => rfl
      | cons a t => simp at h
    exact ⟨0, Nat.le_refl _, by rw [this]; rfl⟩
  | a :: t, [], P, h => ⟨0, Nat.zero_le _, rfl⟩
  | a :: t, d :: D, P, h => by
    by_cases hp : p a = true
    · rw [List.filter_cons, if_pos hp, List.cons_append] at h
      injection h with h1 h2
      obtain ⟨i, hi, e⟩ := front_take p t D P h2
      exact ⟨i + 1, by simpa using hi, by rw [List.take_succ_cons, List.filter_cons, if_pos hp, e, h1]⟩
    · rw [List.filter_cons, if_neg hp] at h
      obtain ⟨i, hi, e⟩ := front_take p t (d :: D) P h
      exact ⟨i + 1, by simpa using hi, by rw [List.take_succ_cons, List.filter_cons, if_neg hp, e]⟩
/-- What has lasted of a line is what a front of the stores made of it. -/
theorem front_at {s : St} {r : Rf} (h : RelAt s r) {j : Nat} (hj : j < s.nl) : ∃ i, i ≤ (prs r.L).length ∧ lineB (lastW r.F ((prs r.L).take i)) j = lineB s.lasted j := by
  obtain ⟨D, P, q⟩ := h.ln j hj
  obtain ⟨i, hi, e⟩ := front_take _ _ _ _ q.l
  refine ⟨i, by rw [prs_len]; exact hi, lineB_eq fun k hk => ?_⟩
  rw [prs_take, lastW_onl, hk, show onl j (r.L.take i) = D from e, ← q.las k hk]
end Go.Proofs.Ytkeajfedlhgejaa
