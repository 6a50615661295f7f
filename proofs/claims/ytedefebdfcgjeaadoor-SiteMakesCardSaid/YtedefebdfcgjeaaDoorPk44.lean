/- Texts of this claim, packed: SiMl, SiMe. -/
import Derived.Test.YtedefebdfcgjeaaDoorPk43
import Derived.LaidEqlPtr
/- SiteMakes, walked. -/
namespace Go.Proofs.YtedefebdfcgjeaaDoor
open Go.RowKit Go.Shelf
set_option linter.unusedVariables false
def MkM (w : World) (a : Nat) (v9 : Value) (v7 : Value) (wx : World) : Prop := ∃ p, v7 = .pointer p ∧ v9 = .int .i64 (sizeN (a : Int)) ∧ SizeIs wx p (sizeN (a : Int)) ∧ Below w.heap.size w wx
def MkS (w : World) (b : Nat) (v10 : Value) (v8 : Value) (wx : World) : Prop := ∃ q, v8 = .pointer q ∧ v10 = .int .i64 (sizeN (b : Int)) ∧ SlabsIs wx q b ∧ Below w.heap.size w wx
theorem sizeN_pos {a : Nat} (h0 : 0 < a) (h : a ≤ 20) : sizeN (a : Int) = 1024 + 1024 * (a : Int) := by unfold sizeN; rw [if_pos (by omega)]
theorem slabsN_size {b : Nat} (h : b ≤ 20) : slabsN (sizeN (b : Int)) = (b : Int) := by
  unfold sizeN slabsN
  by_cases h0 : b = 0
  · subst h0; decide
  · rw [if_pos (by omega), if_pos (by omega)]
    omega
/-- What New and the document's answer come to. -/
theorem makes_no {w : World} {a b : Nat} {c : Int} {p q : Option Addr} (ha : a ≤ 20) (hb : b ≤ 20) (hz : SizeIs w p (sizeN (a : Int))) (hs : SlabsIs w q b) (hE : newE (sizeN (a : Int)) (sizeN (b : Int)) c ≠ 0) :
    Calls Tryd.prog 7 #[.pointer p, .pointer q, .int .i64 c] w fun e w' => e = .returned (.tuple #[.pointer none, .int .i64 (newE (sizeN (a : Int)) (sizeN (b : Int)) c)]) ∧ Below w.heap.size w w' := by
  by_cases h0 : a = 0
  · subst h0
    have e0 : sizeN ((0 : Nat) : Int) = 0 := by decide
    have e1 : newE (sizeN ((0 : Nat) : Int)) (sizeN (b : Int)) c = 1 := by unfold newE; rw [if_pos (.inl e0)]
    rw [e1]
    rw [e0] at hz
    exact siNew_nomem hz c
  · have s1 := sizeN_pos (Nat.pos_of_ne_zero h0) ha
    have s2 : sizeN (a : Int) ≠ 0 := by omega
    by_cases h1 : b = 0
    · subst h1
      have e1 : newE (sizeN (a : Int)) (sizeN ((0 : Nat) : Int)) c = 1 := by unfold newE; rw [if_pos (.inr (by decide))]
      rw [e1]
      exact siNew_noslab hz hs s2 c
    · have s3 := sizeN_pos (Nat.pos_of_ne_zero h1) hb
      have hor : ¬ (sizeN (a : Int) = 0 ∨ slabsN (sizeN (b : Int)) = 0) := by rw [slabsN_size hb]; omega
      by_cases hc : c < 1 ∨ 64 < c
      · have e1 : newE (sizeN (a : Int)) (sizeN (b : Int)) c = 2 := by unfold newE; rw [if_neg hor, if_pos (by rcases hc with h | h; exact .inl h; exact .inr (.inl h))]
        rw [e1]
        exact siNew_clients hz hs s2 h1 hc
      · have hne : sizeN (a : Int) ≠ sizeN (b : Int) := by
          intro he
          apply hE
          unfold newE
          rw [if_neg hor, if_neg (by rintro (h | h | h); exact hc (.inl h); exact hc (.inr h); exact h he)]
        have e1 : newE (sizeN (a : Int)) (sizeN (b : Int)) c = 2 := by unfold newE; rw [if_neg hor, if_pos (.inr (.inr hne))]
        rw [e1]
        obtain ⟨N, rfl⟩ : ∃ N : Nat, c = (N : Int) := ⟨c.toNat, by omega⟩
        exact siNew_size hz hs s2 h1 (by omega) (by omega) hne
theorem makes_ok {w : World} {a b : Nat} {c : Int} {p q : Option Addr} (ha : a ≤ 20) (hb : b ≤ 20) (hz : SizeIs w p (sizeN (a : Int))) (hs : SlabsIs w q b) (hE : newE (sizeN (a : Int)) (sizeN (b : Int)) c = 0) :
    ∃ N : Nat, c = (N : Int) ∧ 1 ≤ N ∧ N ≤ 64 ∧ a ≠ 0 ∧ Calls Tryd.prog 7 #[.pointer p, .pointer q, .int .i64 (N : Int)] w (SiNewPost w p q N) := by
  unfold newE at hE
  split at hE
  · cases hE
  · rename_i hor
    split at hE
    · cases hE
    · rename_i hc
      have h0 : a ≠ 0 := fun h => hor (.inl (by subst h; decide))
      have h1 : b ≠ 0 := fun h => hor (.inr (by subst h; decide))
      have s1 := sizeN_pos (Nat.pos_of_ne_zero h0) ha
      have s3 := sizeN_pos (Nat.pos_of_ne_zero h1) hb
      have hab : a = b := by
        rcases Classical.em (sizeN (a : Int) = sizeN (b : Int)) with h | h
        · omega
        · exact absurd (.inr (.inr h)) hc
      obtain ⟨N, rfl⟩ : ∃ N : Nat, c = (N : Int) := ⟨c.toNat, by have : ¬ c < 1 := fun h => hc (.inl h); omega⟩
      have c1 : ¬ ((N : Int) < 1) := fun h => hc (.inl h)
      have c2 : ¬ (64 < (N : Int)) := fun h => hc (.inr (.inl h))
      subst hab
      exact ⟨N, rfl, by omega, by omega, h0, siNew_ok hz hs (by omega) h0 (by omega) (by omega)⟩
theorem eqPM (W : World) (p : Option Addr) : (binOp BinOp.eql 23 (.pointer p) (.pointer p)).run Tryd.prog W = .ok (.bool true) W := by
  cases p with
  | none => kernel_rfl
  | some a =>
    obtain ⟨j, hj⟩ := Option.isSome_iff_exists.1 (show (Tryd.prog.info? 57).isSome = true by kernel_rfl)
    exact run_eql_ptr_same W a Tryd.underlying23 hj
theorem eqPS (W : World) (p : Option Addr) : (binOp BinOp.eql 24 (.pointer p) (.pointer p)).run Tryd.prog W = .ok (.bool true) W := by
  cases p with
  | none => kernel_rfl
  | some a =>
    obtain ⟨j, hj⟩ := Option.isSome_iff_exists.1 (show (Tryd.prog.info? 65).isSome = true by kernel_rfl)
    exact run_eql_ptr_same W a Tryd.underlying24 hj
theorem eqPT (W : World) (p : Option Addr) : (binOp BinOp.eql 38 (.pointer p) (.pointer p)).run Tryd.prog W = .ok (.bool true) W := by
  cases p with
  | none => kernel_rfl
  | some a =>
    obtain ⟨j, hj⟩ := Option.isSome_iff_exists.1 (show (Tryd.prog.info? 83).isSome = true by kernel_rfl)
    exact run_eql_ptr_same W a Tryd.underlying38 hj
set_option maxRecDepth 100000 in
set_option maxHeartbeats 4000000 in
theorem siteMakes_yes (a b : Nat) (c : Int) (ha : a ≤ 20) (hb : b ≤ 20) (w : World) (R : Rms w) :
    Calls Tryd.prog 3 #[.int .i64 (a : Int), .int .i64 (b : Int), .int .i64 c] w fun e w' => e = .returned (.bool true) ∧ Below w.heap.size w w' := by
  have HK := Lib.hid fun W => known13_any W
  have q1 := eqPM
  have q2 := eqPS
  have q3 := eqPT
  have HR := Lib.hid R
  have d1 : decide ((a : Int) < 0) = false := by simp
  have d2 : decide ((20 : Int) < (a : Int)) = false := by simp; omega
  have d3 : decide ((b : Int) < 0) = false := by simp
  have d4 : decide ((20 : Int) < (b : Int)) = false := by simp; omega
  have HA := Lib.hid ha
  have HBb := Lib.hid hb
  have a20 : (a : Int) ≤ 20 := by omega
  have b20 : (b : Int) ≤ 20 := by omega
  clear ha hb R
  go_enter Tryd.func3, Tryd.ntmps3
  go_upto_if 30 with (fail)
  go_cut [7, 9] (fun s7 s9 wx => MkM w a s9 s7 wx)
  case first =>
    by_cases h0 : a = 0
    · subst h0
      have HE := Lib.hid (show MkM w 0 (.int .i64 0) (.pointer none) w from ⟨none, rfl, rfl, fun W hb => size_no (.inl rfl), Below.refl _ _⟩)
      go_wp2_with fail
      go_meet
      case rel => exact HE.out
    · have hpos : 0 < a := Nat.pos_of_ne_zero h0
      have g1 : decide ((0 : Int) < (a : Int)) = true := by simp; omega
      have g2 : decide (0 < a) = true := by simpa using hpos
      have HS := Lib.hid (sizeN_pos hpos HA.out)
      have HN := Lib.hid (show Calls Tryd.prog 5 #[.int .i64 (1024 + 1024 * (a : Int))] w (NewPost (16 * (a + 1)) w) by
        have := new_yes (16 * (a + 1)) w (by omega) (by have := HA.out; omega)
        rwa [show ((64 * (16 * (a + 1)) : Nat) : Int) = 1024 + 1024 * (a : Int) by omega] at this)
      clear h0
      go_wp2_with fail
      refine HN.out.mono ?_
      rintro e w1 ⟨y, rfl, hm1, _, hb1⟩
      have HE := Lib.hid (show MkM w a (.int .i64 (1024 + 1024 * (a : Int))) (.pointer (some ⟨y.g, 0, none⟩)) w1 from ⟨_, rfl, by rw [HS.out], by
        have := size_is hm1
        rw [HS.out]
        rwa [show ((64 * (St.zero (16 * (a + 1))).nl : Nat) : Int) = 1024 + 1024 * (a : Int) by show ((64 * (16 * (a + 1)) : Nat) : Int) = _; omega] at this, hb1⟩)
      clear hm1 hb1 HN
      go_wp2_with fail
      go_meet
      case rel => exact HE.out
  case rest =>
    obtain ⟨p, rfl, rfl, hz, hbw⟩ := hcut
    rename World => w1
    have HZ := Lib.hid hz
    have HBW := Lib.hid hbw
    have HRm := Lib.hid (HR.out.below hbw)
    clear hz hbw
    obtain ⟨Za, hZa⟩ : ∃ Z, Z = sizeN (a : Int) := ⟨_, rfl⟩
    rw [← hZa]
    have HZA := Lib.hid hZa
    clear hZa
    go_upto_if 40 with (fail)
    go_cut [8, 10] (fun s8 s10 wx => MkS w1 b s10 s8 wx)
    case first =>
      by_cases h0 : b = 0
      · subst h0
        have HE := Lib.hid (show MkS w1 0 (.int .i64 0) (.pointer none) w1 from ⟨none, rfl, rfl, fun W hb => slabs_none (.inl rfl), Below.refl _ _⟩)
        go_wp2_with fail
        go_meet
        case rel => exact HE.out
      · have hpos : 0 < b := Nat.pos_of_ne_zero h0
        have g1 : decide ((0 : Int) < (b : Int)) = true := by simp; omega
        have g2 : decide (0 < b) = true := by simpa using hpos
        have HS := Lib.hid (sizeN_pos hpos HBb.out)
        obtain ⟨m, hm⟩ : ∃ m, m = 1024 * (b + 1) := ⟨_, rfl⟩
        have hmk := makeB m (by have := HBb.out; omega)
        rw [show ((m : Nat) : Int) = 1024 + 1024 * (b : Int) by omega] at hmk
        have HMM := Lib.hid hm
        clear h0 hm
        go_wp2_with fail
        obtain ⟨W2, hW2⟩ : ∃ W2, W2 = w1.alloc (.cells (Array.replicate m (bv 0)) 5) := ⟨_, rfl⟩
        rw [← hW2]
        have hb2 : Below w1.heap.size w1 W2 := by rw [hW2]; exact alloc_below _ _
        have hr2 : Row W2 w1.heap.size 5 (Array.replicate m (bv 0)) := by rw [hW2]; exact Row.new _ _ _
        have HB2 := Lib.hid hb2
        have HOF := Lib.hid (slabZ_any (HRm.out.below hb2) (n := b) (ca := m) HMM.out hpos (by have := HBb.out; omega) (zeros_sl hr2))
        clear hW2 hb2 hr2 hmk
        refine HOF.out.mono ?_
        rintro e w3 ⟨ys, hs, fs, rfl, hsm, hsl, _, _, _, _, hb3⟩
        have HE := Lib.hid (show MkS w1 b (.int .i64 (1024 + 1024 * (b : Int))) (.pointer (some ⟨ys.gs, 0, none⟩)) w3 from ⟨_, rfl, by rw [HS.out], slabs_is hsm hsl, Below.and HB2.out hb3⟩)
        unfold fpt
        clear hsm hsl hb3 HOF HB2
        go_wp2_with fail
        go_meet
        case rel => exact HE.out
    case rest =>
      obtain ⟨q, rfl, rfl, hs, hbw⟩ := hcut
      rename World => w2
      have hz2 := HZ.out.below hbw
      have HBW2 := Lib.hid (HBW.out.trans (hbw.mono HBW.out.size))
      have hrn := r13New_any Za (sizeN (b : Int)) c
      by_cases hE : newE Za (sizeN (b : Int)) c = 0
      · rw [HZA.out] at hE
        obtain ⟨N, rfl, h1, h64, hne, hnew⟩ := makes_ok HA.out HBb.out hz2 hs hE
        rw [HZA.out] at hrn
        rw [hE, ← HZA.out] at hrn
        have HNW := Lib.hid hnew
        have HRN := Lib.hid hrn
        obtain ⟨Zb, hZb⟩ : ∃ Z, Z = sizeN (b : Int) := ⟨_, rfl⟩
        rw [← hZb] at HRN ⊢
        clear hs hz2 hbw hrn hE hne hnew hZb h1 h64
        go_wp2_with fail
        refine HNW.out.mono ?_
        rintro e w3 ⟨gx, g, bb, rfl, hsite, hkat, hx3, hg3, hb3, hbw3⟩
        have HB3 := Lib.hid (HBW2.out.trans (hbw3.mono HBW2.out.size))
        have HSI := Lib.hid hsite
        have HKA := Lib.hid hkat
        clear hsite hkat hx3 hg3 hb3 hbw3
        go_wp2_with fail
        refine (HRN.out _).mono ?_
        rintro e w' ⟨rfl, rfl⟩
        go_wp2_with fail
        refine (siMem_yes HSI.out).mono ?_
        rintro e w' ⟨rfl, rfl⟩
        go_wp2_with fail
        refine (siSlab_yes HSI.out).mono ?_
        rintro e w' ⟨rfl, rfl⟩
        go_wp2_with fail
        refine (siClients_of (n := (N : Int)) (siLocks_yes HSI.out) (clients_yes HKA.out)).mono ?_
        rintro e w' ⟨rfl, rfl⟩
        go_wp2_with fail
        refine (siLocks_yes HSI.out).mono ?_
        rintro e w' ⟨rfl, rfl⟩
        go_wp2_with fail
        refine (siLocks_yes HSI.out).mono ?_
        rintro e w' ⟨rfl, rfl⟩
        go_wp2_with fail
        refine (clients_yes HKA.out).mono ?_
        rintro e w' ⟨rfl, rfl⟩
        go_wp2_with fail
        refine (siLocks_yes HSI.out).mono ?_
        rintro e w' ⟨rfl, rfl⟩
        go_wp2_with fail
        refine (siLocks_yes HSI.out).mono ?_
        rintro e w' ⟨rfl, rfl⟩
        go_wp2_with fail
        refine (HK.out _).mono ?_
        rintro e w7 ⟨rfl, hb7⟩
        have HB7 := Lib.hid (HB3.out.trans (hb7.mono HB3.out.size))
        clear hb7
        go_wp2
        go_ret
        exact ⟨rfl, HB7.out⟩
      · have hE' := hE
        rw [HZA.out] at hE'
        have hnew := makes_no HA.out HBb.out hz2 hs hE'
        rw [← HZA.out] at hnew
        obtain ⟨Ee, hEe⟩ : ∃ E, E = newE Za (sizeN (b : Int)) c := ⟨_, rfl⟩
        rw [← hEe] at hnew hE
        rw [← hEe] at hrn
        have hne : (Ee != 0) = true := by simpa using hE
        have HNW := Lib.hid hnew
        have HRN := Lib.hid hrn
        obtain ⟨Zb, hZb⟩ : ∃ Z, Z = sizeN (b : Int) := ⟨_, rfl⟩
        rw [← hZb] at HRN ⊢
        clear hs hz2 hbw hrn hE hE' hnew hEe hZb
        go_wp2_with fail
        refine HNW.out.mono ?_
        rintro e w3 ⟨rfl, hb3⟩
        have HB3 := Lib.hid (HBW2.out.trans (hb3.mono HBW2.out.size))
        clear hb3
        go_wp2_with fail
        refine (HRN.out _).mono ?_
        rintro e w' ⟨rfl, rfl⟩
        go_wp2_with fail
        refine (HK.out _).mono ?_
        rintro e w7 ⟨rfl, hb7⟩
        have HB7 := Lib.hid (HB3.out.trans (hb7.mono HB3.out.size))
        clear hb7
        go_wp2
        go_ret
        exact ⟨rfl, HB7.out⟩
end Go.Proofs.YtedefebdfcgjeaaDoor
/- SiteMakes, all its cases. -/
namespace Go.Proofs.YtedefebdfcgjeaaDoor
open Go.RowKit Go.Shelf
set_option linter.unusedVariables false
set_option maxRecDepth 100000 in
set_option maxHeartbeats 2000000 in
theorem siteMakes_no (a b c : Int) (w : World) (h : a < 0 ∨ 20 < a ∨ b < 0 ∨ 20 < b) :
    Calls Tryd.prog 3 #[.int .i64 a, .int .i64 b, .int .i64 c] w fun e w' => e = .returned (.bool true) ∧ Below w.heap.size w w' := by
  have HK := Lib.hid fun W => known13_any W
  by_cases h1 : a < 0
  · clear h
    go_enter Tryd.func3, Tryd.ntmps3
    go_wp2_with fail
    refine (HK.out _).mono ?_
    rintro e w1 ⟨rfl, hb⟩
    have HB := Lib.hid hb
    clear hb
    go_wp2
    go_ret
    exact ⟨rfl, HB.out⟩
  · by_cases h2 : 20 < a
    · clear h
      go_enter Tryd.func3, Tryd.ntmps3
      go_wp2_with fail
      refine (HK.out _).mono ?_
      rintro e w1 ⟨rfl, hb⟩
      have HB := Lib.hid hb
      clear hb
      go_wp2
      go_ret
      exact ⟨rfl, HB.out⟩
    · by_cases h3 : b < 0
      · clear h
        go_enter Tryd.func3, Tryd.ntmps3
        go_wp2_with fail
        refine (HK.out _).mono ?_
        rintro e w1 ⟨rfl, hb⟩
        have HB := Lib.hid hb
        clear hb
        go_wp2
        go_ret
        exact ⟨rfl, HB.out⟩
      · have h4 : 20 < b := by omega
        clear h
        go_enter Tryd.func3, Tryd.ntmps3
        go_wp2_with fail
        refine (HK.out _).mono ?_
        rintro e w1 ⟨rfl, hb⟩
        have HB := Lib.hid hb
        clear hb
        go_wp2
        go_ret
        exact ⟨rfl, HB.out⟩
theorem siteMakes_all (a b c : Int) (w : World) (ha : (Lit.int .i64 a).wf = true) (hb : (Lit.int .i64 b).wf = true) (hc : (Lit.int .i64 c).wf = true) (R : Rms w) :
    Calls Tryd.prog 3 #[.int .i64 a, .int .i64 b, .int .i64 c] w fun e w' => e = .returned (.bool true) ∧ Below w.heap.size w w' := by
  by_cases h : a < 0 ∨ 20 < a ∨ b < 0 ∨ 20 < b
  · exact siteMakes_no a b c w h
  · obtain ⟨A, rfl⟩ : ∃ A : Nat, a = (A : Int) := ⟨a.toNat, by omega⟩
    obtain ⟨B, rfl⟩ : ∃ B : Nat, b = (B : Int) := ⟨b.toNat, by omega⟩
    exact siteMakes_yes A B c (by omega) (by omega) w R
end Go.Proofs.YtedefebdfcgjeaaDoor
