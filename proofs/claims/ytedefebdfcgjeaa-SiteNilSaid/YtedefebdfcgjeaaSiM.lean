/- Whole of the law's machine; the reference's Whole, which tells the same. -/
import Derived.Test.YtedefebdfcgjeaaSiR
import Derived.Deep.DeepCutAuto
namespace Go.Proofs.Ytedefebdfcgjeaa
open Go.RowKit Go.Shelf
set_option linter.unusedVariables false
def dnL (l : List Sp) (k : Nat) : Bool := (spK l k).done
def erL (l : List Sp) (k : Nat) : Int := (spK l k).bad
def odL (l : List Sp) (k : Nat) : Bool := decide (1 < (spK l k).did)
def totL (l : List Sp) (t : Nat) : Nat → Nat
  | 0 => t
  | k + 1 => totL l t k + (spK l k).did.toNat
/-- Steps of none to nine primitives. -/
def FewL (l : List Sp) : Prop := ∀ x ∈ l, 0 ≤ x.did ∧ x.did ≤ 9
theorem spAt_mem {l : List Sp} {i : Nat} (h : i < l.length) : spAt l i ∈ l := by
  unfold spAt
  rw [List.getD_eq_getElem?_getD, List.getElem?_eq_getElem h]
  exact List.getElem_mem h
theorem FewL.at_ {l : List Sp} (h : FewL l) (k : Nat) : 0 ≤ (spK l k).did ∧ (spK l k).did ≤ 9 := by
  unfold spK
  split
  · rename_i hk
    exact h _ (spAt_mem hk)
  · split
    · exact ⟨Int.le_refl _, by decide⟩
    · rename_i h1 h2
      have : 0 < l.length := List.length_pos_iff.2 h2
      exact h _ (spAt_mem (by omega))
theorem totL_le {l : List Sp} (h : FewL l) (t k : Nat) : totL l t k ≤ t + 9 * k := by
  induction k with
  | zero => exact Nat.le_refl _
  | succ k ih =>
    have := h.at_ k
    show totL l t k + _ ≤ _
    omega
theorem odT_tot {l : List Sp} (h : FewL l) (t : Nat) : odT (totL l t) = odL l := by
  funext k
  have := h.at_ k
  show decide (totL l t k + 1 < totL l t k + (spK l k).did.toNat) = decide (1 < (spK l k).did)
  rw [Bool.eq_iff_iff]
  simp only [decide_eq_true_eq]
  omega
/-- Behind k steps. -/
def RI (w : World) (y0 : Lay) (gr nl N : Nat) (A : Option Addr) (n cap : Nat) (l : List Sp) (t : Nat) (P : Nat → Prop) (k : Nat) (W : World) : Prop :=
  ∃ y s, MemAt W y s ∧ Lds nl (N + 9 * k) s ∧ s.tot = totL l t k ∧ TR w W y0 y gr ∧ Row W gr 35 (rcell y0.g A n cap k) ∧ (∀ q, P q → ¬ y.fp q ∧ q ≠ gr ∧ w.heap.size ≤ q ∧ q < W.heap.size)
theorem stepsIn_tr {w W : World} {y0 y : Lay} {gr : Nat} {A : Option Addr} {n cap : Nat} {l : List Sp} (h : StepsIn w A n cap l) (t : TR w W y0 y gr) (ha : ∀ a, A = some a → 0 < n → ¬ y0.fp a.block ∧ a.block ≠ gr) : StepsIn W A n cap l := by
  obtain ⟨h1, h2, h3, h4⟩ := h
  refine ⟨h1, h2, h3, fun h0 => ?_⟩
  obtain ⟨a, hA, hst⟩ := h4 h0
  refine ⟨a, hA, hst.but t.but ?_⟩
  have := ha a hA (by omega)
  rintro (hf | hf)
  · exact this.1 hf
  · exact this.2 hf
theorem runner_mach {w : World} {y0 : Lay} {s0 : St} {gr nl N n cap : Nat} {A : Option Addr} {l : List Sp} {most : Int} (h : MemAt w y0 s0) (hL : Lds nl N s0) (hN : N ≤ 1000) (hnl : 1 ≤ nl) (hr : Row w gr 35 (rcell y0.g A n cap 0))
    (hS : StepsIn w A n cap l) (hn : n ≤ 1000) (hf : FewL l) (sep : ¬ y0.fp gr) (ha : ∀ a, A = some a → 0 < n → ¬ y0.fp a.block ∧ a.block ≠ gr) (hm : most ≤ 1000) :
    Mach w y0.g 11 (.pointer (some ⟨gr, 0, none⟩)) most (RI w y0 gr nl N A n cap l s0.tot) (totL l s0.tot) (dnL l) (erL l) := by
  have ht0 : s0.tot ≤ 4 * N := by have := hL.num; unfold St.tot; omega
  refine ⟨fun args W => enters_of Try.func11 (by kernel_rfl) rfl args W, by omega, fun k hk => ?_, fun W P hb hP => ?_, fun P k W hI => ?_, fun P k W W' hI hb => ?_, fun P k W hI hk _ => ?_⟩
  · have := totL_le hf s0.tot k
    omega
  · exact ⟨y0, s0, h.below hb, hL, rfl, TR.of_below y0 hb gr, hr.below hb hr.lt, fun q hq => ⟨fun hf2 => by have := h.lt _ hf2; have := (hP q hq).1; omega, by have := hr.lt; have := (hP q hq).1; omega, (hP q hq).1, (hP q hq).2⟩⟩
  · obtain ⟨y, s, hmem, _, ht, hT, _, hP⟩ := hI
    exact ⟨y, s, hT.g, hmem, ht, fun q hq => (hP q hq).1⟩
  · obtain ⟨y, s, hmem, hl, ht, hT, hrr, hP⟩ := hI
    refine ⟨y, s, hmem.but hb (fun q hq hp => (hP q hp).1 hq), hl, ht, ⟨hT.g, hT.but.trans hb (fun q hq => .inr (hP q hq).2.2.1), hT.fp⟩, hb.row hrr (fun hp => (hP _ hp).2.1 rfl), fun q hq => ⟨(hP q hq).1, (hP q hq).2.1, (hP q hq).2.2.1, Nat.lt_of_lt_of_le (hP q hq).2.2.2 hb.size⟩⟩
  · obtain ⟨y, s, hmem, hl, ht, hT, hrr, hP⟩ := hI
    have hd := hf.at_ k
    have hrr' : Row W gr 35 (rcell y.g A n cap k) := by rw [hT.g]; exact hrr
    have sep' : ¬ y.fp gr := fun hf2 => by
      rcases hT.fp _ hf2 with h1 | h1
      · exact sep h1
      · have := hr.lt; omega
    refine (rstep_any hmem hl (by omega) hnl hrr' (stepsIn_tr hS hT ha) (by omega) (by omega) sep' hd.1 hd.2).mono ?_
    rintro e W' ⟨rfl, y', s', hm', hl', ht', hT', hr'⟩
    refine ⟨rfl, ⟨y', s', hm', hl'.mono (by omega), by rw [ht', ht]; rfl, hT.trans hT', by rw [hT.g] at hr'; exact hr', fun q hq => ⟨fun hf2 => ?_, (hP q hq).2.1, (hP q hq).2.2.1, Nat.lt_of_lt_of_le (hP q hq).2.2.2 hT'.but.size⟩⟩, hT'.but.mono fun q hq hp => ?_⟩
    · rcases hT'.fp _ hf2 with h1 | h1
      · exact (hP q hq).1 h1
      · have := (hP q hq).2.2.2; omega
    · rcases hq with h1 | h1
      · exact (hP q hp).1 h1
      · exact (hP q hp).2.1 h1
/-- What is told, and what stands behind it. -/
def RWPost (w : World) (y0 : Lay) (gr nl N : Nat) (A : Option Addr) (n cap : Nat) (l : List Sp) (most : Int) (r : Nat × Bool × Int) (e : Ending) (w' : World) : Prop :=
  e = .returned (.tuple #[.int .i64 (r.1 : Int), .bool r.2.1, .int .i64 r.2.2]) ∧ ∃ y s, MemAt w' y s ∧ Lds nl (N + 9 * r.1) s ∧ s.tot = totL l N r.1 ∧ TR w w' y0 y gr ∧ Row w' gr 35 (rcell y0.g A n cap r.1)
theorem runner_whole {w : World} {y0 : Lay} {s0 : St} {gr nl N t n cap : Nat} {A : Option Addr} {l : List Sp} {most : Int} (h : MemAt w y0 s0) (hL : Lds nl N s0) (hN : N ≤ 1000) (hnl : 1 ≤ nl) (ht : s0.tot = t) (hr : Row w gr 35 (rcell y0.g A n cap 0))
    (hS : StepsIn w A n cap l) (hn : n ≤ 1000) (hf : FewL l) (sep : ¬ y0.fp gr) (ha : ∀ a, A = some a → 0 < n → ¬ y0.fp a.block ∧ a.block ≠ gr) (hm : most ≤ 1000) :
    Calls Try.prog 10 #[.pointer (some ⟨y0.g, 0, none⟩), .func (.func 11) #[.pointer (some ⟨gr, 0, none⟩)] #[], .int .i64 most] w fun e w' =>
      ∃ r : Nat × Bool × Int, r = runP (odL l) (dnL l) (erL l) most.toNat 0 false ∧ r.1 ≤ most.toNat ∧ e = .returned (.tuple #[.int .i64 (r.1 : Int), .bool r.2.1, .int .i64 r.2.2]) ∧ ∃ y s, MemAt w' y s ∧ Lds nl (N + 9 * r.1) s ∧ s.tot = totL l t r.1 ∧ TR w w' y0 y gr ∧ Row w' gr 35 (rcell y0.g A n cap r.1) := by
  refine (whole_any (runner_mach h hL hN hnl hr hS hn hf sep ha hm)).mono ?_
  rintro e w' ⟨k, o, c, P, hrun, rfl, hI, _⟩
  obtain ⟨y, s, hmem, hl, ht', hT, hrr, _⟩ := hI
  rw [odT_tot hf] at hrun
  have hle := runP_le (odL l) (dnL l) (erL l) most.toNat 0 false
  rw [hrun] at hle
  refine ⟨(k, o, c), hrun.symm, by simpa using hle, rfl, y, s, hmem, hl, by rw [ht', ht], hT, hrr⟩
/-- The reference's rounds. -/
def RfI (w : World) (l : List Sp) (most : Int) (f : Nat) (a b : Value) (wr : World) : Prop :=
  ∃ (k : Nat) (o : Bool), a = .bool o ∧ b = .int .i64 (k : Int) ∧ k + f = most.toNat ∧ runP (odL l) (dnL l) (erL l) f k o = runP (odL l) (dnL l) (erL l) most.toNat 0 false ∧ Below w.heap.size w wr
def RfPost (w : World) (l : List Sp) (most : Int) (e : Ending) (w' : World) : Prop :=
  ∃ r : Nat × Bool × Int, r = runP (odL l) (dnL l) (erL l) most.toNat 0 false ∧ e = .returned (.tuple #[.int .i64 (r.1 : Int), .bool r.2.1, .int .i64 r.2.2]) ∧ Below w.heap.size w w'
set_option maxRecDepth 100000 in
set_option maxHeartbeats 2000000 in
theorem rfWhole_any {w : World} {n cap : Nat} {A : Option Addr} {l : List Sp} {most : Int} (hS : StepsIn w A n cap l) (hn : n ≤ 1000000) (hm : most ≤ 1000000) :
    Calls Try.prog 12 #[.slice A n cap, .int .i64 most] w (RfPost w l most) := by
  have mixed : Try.prog.follows .mixedOrders = true := by kernel_rfl
  have HS := Lib.hid hS
  have H0 := Lib.hid (show RfI w l most most.toNat (.bool false) (.int .i64 0) w from ⟨0, false, rfl, rfl, by omega, rfl, Below.refl _ _⟩)
  clear hS
  go_enter Try.func12, Try.ntmps12
  go_wp2
  go_loopg [7, 8] most.toNat (fun f a b wr => RfI w l most f a b wr)
  case atStart => exact H0.out
  case round =>
    obtain ⟨k, o, rfl, rfl, hk, hrun, hb⟩ := hrel
    rename World => wr
    by_cases h0 : (k : Int) < most
    · obtain ⟨f, hf⟩ : ∃ f, gk = f + 1 := ⟨gk - 1, by omega⟩
      obtain ⟨⟨xd, xdn, xbd⟩, hx⟩ : ∃ x, x = spK l k := ⟨_, rfl⟩
      have HXX := Lib.hid hx
      have HB := Lib.hid hb
      have HRUN := Lib.hid hrun
      have HF := Lib.hid hf
      have hk1 : (k : Int) + 1 ≤ 1000000 := by omega
      have HKK := Lib.hid hk
      have hlt : f < gk := by omega
      have hsn := HS.out.1
      have HSN := Lib.hid hsn
      have H0L := Lib.hid h0
      have HLT := Lib.hid hlt
      have HN := Lib.hid hn
      have HMO := Lib.hid hm
      have HK1 := Lib.hid hk1
      clear hx hb hrun hf hk hsn
      go_upto_region 6 with (fail)
      clear h0 hlt hn hm hk1
      obtain ⟨W1, hW1⟩ : ∃ W1, W1 = wr.alloc (.cells #[.int .i64 0, .bool false, .int .i64 0] 62) := ⟨_, rfl⟩
      rw [← hW1]
      have HR1 := Lib.hid (show Row W1 wr.heap.size 62 #[.int .i64 0, .bool false, .int .i64 0] by rw [hW1]; exact Row.new _ _ _)
      have HB1 := Lib.hid (show Below wr.heap.size wr W1 by rw [hW1]; exact alloc_below _ _)
      have HBB := Lib.hid (show Below w.heap.size w W1 from HB.out.trans (HB1.out.mono HB.out.size))
      clear hW1
      go_upto_if 18 with (fail)
      go_cut [9] (fun s9 wx => s9 = .pointer (some ⟨wr.heap.size, 0, none⟩) ∧ Row wx wr.heap.size 62 (spc (if l = [] then ⟨0, false, 0⟩ else spAt l (l.length - 1))) ∧ Below wr.heap.size wr wx)
      case first =>
        rcases Nat.eq_zero_or_pos n with h00 | h00
        · have hl : l = [] := List.eq_nil_of_length_eq_zero (by have := HSN.out; omega)
          have HL0 := Lib.hid hl
          clear hl
          subst h00
          clear HN HMO HK1 H0L
          go_wp2_with fail
          go_meet
          case rel => exact ⟨rfl, by rw [if_pos HL0.out]; exact HR1.out, HB1.out⟩
        · obtain ⟨ga, hga, hst⟩ := HS.out.2.2.2 (by have := HSN.out; omega)
          obtain ⟨i, hi⟩ : ∃ i, n = i + 1 := ⟨n - 1, by omega⟩
          have hil : i < l.length := by have := HSN.out; omega
          have hst1 := hst.below HBB.out
          have d0 := hst1.c0 i hil
          have d1 := hst1.c1 i hil
          have d2 := hst1.c2 i hil
          obtain ⟨x, hx⟩ : ∃ x, x = spAt l i := ⟨_, rfl⟩
          rw [← hx] at d0 d1 d2
          have HX := Lib.hid (show x = spAt l (l.length - 1) by rw [hx]; congr 1; have := HSN.out; omega)
          have HNE := Lib.hid (show l ≠ [] from fun h => by rw [h] at hil; exact absurd hil (Nat.not_lt_zero _))
          have e0 : (n : Int) - 1 = (i : Int) := by omega
          have hgt : decide (0 < n) = true := by simpa using h00
          have e3 : i < n := by omega
          have e4 : (n : Int) ≤ 1000000 := by have := HN.out; omega
          subst hga
          have hp := HR1.out
          have hpl := hp.lt
          have q0 := hp.cell 0
          have q1 := hp.cell 1
          have q2 := hp.cell 2
          have f0 := hp.free 0
          have f1 := hp.free 1
          have f2 := hp.free 2
          simp only [List.getElem?_toArray, List.getElem?_cons_succ, List.getElem?_cons_zero] at q0 q1 q2
          clear hst hst1 hil hi hx hp HN HMO HK1 H0L
          go_wp2_with fail
          go_meet
          case rel =>
            refine ⟨rfl, ?_, ?_⟩
            · rw [if_neg HNE.out, ← HX.out]
              exact ((HR1.out.set 0 _).set 1 _).set 2 _
            · exact ((HB1.out.setCell (Nat.le_refl _) _).setCell (Nat.le_refl _) _).setCell (Nat.le_refl _) _
      case rest =>
        obtain ⟨rfl, hrow2, hbw2⟩ := hcut
        have HR2 := Lib.hid hrow2
        have HB2 := Lib.hid hbw2
        have HBB2 := Lib.hid (show Below w.heap.size w wc from HB.out.trans (hbw2.mono HB.out.size))
        clear hrow2 hbw2 HR1 HB1 HBB
        go_upto_if 28 with (fail)
        go_cut [9] (fun s9 wx => s9 = .pointer (some ⟨wr.heap.size, 0, none⟩) ∧ Row wx wr.heap.size 62 (spc ⟨xd, xdn, xbd⟩) ∧ Below wr.heap.size wr wx)
        case first =>
          by_cases hkn : k < n
          · obtain ⟨ga, hga, hst⟩ := HS.out.2.2.2 (by have := HSN.out; omega)
            have hil : k < l.length := by have := HSN.out; omega
            have hst1 := hst.below HBB2.out
            have d0 := hst1.c0 k hil
            have d1 := hst1.c1 k hil
            have d2 := hst1.c2 k hil
            obtain ⟨x, hx⟩ : ∃ x, x = spAt l k := ⟨_, rfl⟩
            rw [← hx] at d0 d1 d2
            have HX := Lib.hid (show x = spK l k by rw [hx]; unfold spK; rw [if_pos hil])
            have hgt : decide (k < n) = true := by simpa using hkn
            subst hga
            have hp := HR2.out
            have hpl := hp.lt
            have q0 := hp.cell 0
            have q1 := hp.cell 1
            have q2 := hp.cell 2
            have f0 := hp.free 0
            have f1 := hp.free 1
            have f2 := hp.free 2
            simp only [spc, List.getElem?_toArray, List.getElem?_cons_succ, List.getElem?_cons_zero] at q0 q1 q2
            clear hst hst1 hil hx hp HN HMO HK1 H0L
            go_wp2_with fail
            go_meet
            case rel =>
              refine ⟨rfl, ?_, ?_⟩
              · rw [HXX.out, ← HX.out]
                exact ((HR2.out.set 0 _).set 1 _).set 2 _
              · exact ((HB2.out.setCell (Nat.le_refl _) _).setCell (Nat.le_refl _) _).setCell (Nat.le_refl _) _
          · have HX := Lib.hid (show (if l = [] then ⟨0, false, 0⟩ else spAt l (l.length - 1)) = spK l k by unfold spK; rw [if_neg (show ¬ k < l.length from by have := HSN.out; omega)])
            have hgt : decide (k < n) = false := by simpa using hkn
            clear HN HMO HK1 H0L
            go_wp2_with fail
            go_meet
            case rel => exact ⟨rfl, by rw [HXX.out, ← HX.out]; exact HR2.out, HB2.out⟩
        case rest =>
          obtain ⟨rfl, hrow3, hbw3⟩ := hcut
          clear HR2 HB2 HBB2
          have q0 := hrow3.cell 0
          have q1 := hrow3.cell 1
          have q2 := hrow3.cell 2
          simp only [spc, List.getElem?_toArray, List.getElem?_cons_succ, List.getElem?_cons_zero] at q0 q1 q2
          have HBB := Lib.hid (show Below w.heap.size w wc from HB.out.trans (hbw3.mono HB.out.size))
          have hod : odL l k = decide (1 < xd) := by show decide (1 < (spK l k).did) = _; rw [← HXX.out]
          have hdn : dnL l k = xdn := by show (spK l k).done = _; rw [← HXX.out]
          have her : erL l k = xbd := by show (spK l k).bad = _; rw [← HXX.out]
          have HOD := Lib.hid hod
          have HDN := Lib.hid hdn
          have HER := Lib.hid her
          have hk1 : (k : Int) + 1 ≤ 9223372036854775807 := by have := HK1.out; omega
          clear hrow3 hbw3 hod hdn her HN HMO HK1 H0L
          obtain ⟨b, hbd⟩ : ∃ b, decide (1 < xd) = b := ⟨_, rfl⟩
          have HBd := Lib.hid hbd
          cases o with
          | false =>
            by_cases h00 : xbd = 0
            · subst h00
              cases xdn with
              | true =>
                have HP := Lib.hid (show ∀ p : LowBy wc, RfPost w l most (.returned (.tuple #[.int .i64 ((k : Int) + 1), .bool b, .int .i64 0])) p.W from fun p =>
                  ⟨(k + 1, b, 0), by rw [← HRUN.out, HF.out, runP_done HER.out HDN.out, HOD.out]; simp [HBd.out], rfl, HBB.out.trans (p.low.mono HBB.out.size)⟩)
                go_wp2
                go_ret3
                exact HP.out ⟨wc, Below.refl _ _⟩
              | false =>
                have HP := Lib.hid (show RfI w l most f (.bool b) (.int .i64 ((k : Int) + 1)) wc from
                  ⟨k + 1, b, rfl, rfl, by have := HKK.out; have := HF.out; omega, by rw [← HRUN.out, HF.out, runP_on HER.out HDN.out, HOD.out]; simp [HBd.out], HBB.out⟩)
                go_wp2
                go_roundg f
                case measure => exact HLT.out
                case rel => exact HP.out
            · have hne : (xbd != 0) = true := by simpa using h00
              have HP := Lib.hid (show ∀ p : LowBy wc, RfPost w l most (.returned (.tuple #[.int .i64 ((k : Int) + 1), .bool b, .int .i64 xbd])) p.W from fun p =>
                ⟨(k + 1, b, xbd), by rw [← HRUN.out, HF.out, runP_err (by rw [HER.out]; exact h00), HER.out, HOD.out]; simp [HBd.out], rfl, HBB.out.trans (p.low.mono HBB.out.size)⟩)
              have ca := fun p : LowBy wc => p.cell q2
              clear h00
              go_wp2
              refine wp_region_quiet_low (by assumption) (by kernel_rfl) ?_
              repeat (go_big_quiet_step (fail))
              refine wpQuiet_nil ?_
              intro _ hw'
              obtain ⟨p, hw''⟩ := hw'
              subst hw''
              clear ca
              go_wp2
              go_ret3
              exact HP.out p
          | true =>
            clear hbd
            by_cases h00 : xbd = 0
            · subst h00
              cases xdn with
              | true =>
                have HP := Lib.hid (show ∀ p : LowBy wc, RfPost w l most (.returned (.tuple #[.int .i64 ((k : Int) + 1), .bool true, .int .i64 0])) p.W from fun p =>
                  ⟨(k + 1, true, 0), by rw [← HRUN.out, HF.out, runP_done HER.out HDN.out, HOD.out]; simp [Bool.true_or], rfl, HBB.out.trans (p.low.mono HBB.out.size)⟩)
                go_wp2
                go_ret3
                exact HP.out ⟨wc, Below.refl _ _⟩
              | false =>
                have HP := Lib.hid (show RfI w l most f (.bool true) (.int .i64 ((k : Int) + 1)) wc from
                  ⟨k + 1, true, rfl, rfl, by have := HKK.out; have := HF.out; omega, by rw [← HRUN.out, HF.out, runP_on HER.out HDN.out, HOD.out]; simp [Bool.true_or], HBB.out⟩)
                go_wp2
                go_roundg f
                case measure => exact HLT.out
                case rel => exact HP.out
            · have hne : (xbd != 0) = true := by simpa using h00
              have HP := Lib.hid (show ∀ p : LowBy wc, RfPost w l most (.returned (.tuple #[.int .i64 ((k : Int) + 1), .bool true, .int .i64 xbd])) p.W from fun p =>
                ⟨(k + 1, true, xbd), by rw [← HRUN.out, HF.out, runP_err (by rw [HER.out]; exact h00), HER.out, HOD.out]; simp [Bool.true_or], rfl, HBB.out.trans (p.low.mono HBB.out.size)⟩)
              have ca := fun p : LowBy wc => p.cell q2
              clear h00
              go_wp2
              refine wp_region_quiet_low (by assumption) (by kernel_rfl) ?_
              repeat (go_big_quiet_step (fail))
              refine wpQuiet_nil ?_
              intro _ hw'
              obtain ⟨p, hw''⟩ := hw'
              subst hw''
              clear ca
              go_wp2
              go_ret3
              exact HP.out p
    · have HP := Lib.hid (show RfPost w l most (.returned (.tuple #[.int .i64 ((most.toNat : Nat) : Int), .bool o, .int .i64 10])) wr from
        ⟨(k, o, 10), by
          have h1 : gk = 0 := by omega
          rw [← hrun, h1]
          rfl, by have : most.toNat = k := by omega
                  rw [this], hb⟩)
      clear hk hrun hb
      by_cases hneg : most < 0
      · have e0 : ((most.toNat : Nat) : Int) = 0 := by omega
        rw [e0] at HP
        clear e0
        go_wp2
        go_ret3
        exact HP.out
      · have e0 : ((most.toNat : Nat) : Int) = most := by omega
        rw [e0] at HP
        clear e0
        go_wp2
        go_ret3
        exact HP.out
end Go.Proofs.Ytedefebdfcgjeaa
