/- xorshift.Next, nextPowerOfTwo, breakPatternsOrdered: some permutation. -/
import Derived.Test.YtpdnbojooelmfaaSrtB
import Derived.Test.YtpdnbojooelmfaaHLen
import Derived.Laws.BitsAllLaws
namespace Go.Proofs.Ytpdnbojooelmfaa
open Go.RowKit
set_option linter.unusedVariables false
/-- The state of the random numbers, whatever it is. -/
def Rx (w : World) (cb : Nat) : Prop := ∃ v : Nat, v < 18446744073709551616 ∧ Row w cb 89 #[.int .u64 (v : Int)]
theorem xor_fits {a : Nat} {b : Int} (ha : a < 18446744073709551616) (h0 : 0 ≤ b) (h1 : b < 18446744073709551616) : ∃ y : Nat, y < 18446744073709551616 ∧ bits .xor .u64 (a : Int) b = (y : Int) := by
  refine ⟨a ^^^ b.toNat, ?_, ?_⟩
  · have : a ^^^ b.toNat < 2 ^ 64 := Nat.xor_lt_two_pow (by omega) (by omega)
    omega
  · have := u64_xor (a : Int) b (by omega) (by omega) h0 h1
    simpa using this
theorem wrap_fits (z : Int) : 0 ≤ IntKind.u64.wrap z ∧ IntKind.u64.wrap z < 18446744073709551616 := by
  have : IntKind.u64.wrap z = z % 18446744073709551616 := by simp [IntKind.wrap, IntKind.bits, IntKind.signed]
  rw [this]
  omega
set_option maxRecDepth 100000 in
set_option maxHeartbeats 2000000 in
theorem next_any {w : World} {cb : Nat} (hB : Rx w cb) :
    Calls Try.prog 55 #[.pointer (some ⟨cb, 0, none⟩)] w fun e w' => (∃ r : Nat, r < 18446744073709551616 ∧ e = .returned (.int .u64 (r : Int))) ∧ Rx w' cb ∧ But w w' (fun k => k = cb) := by
  obtain ⟨v, hv, hr⟩ := hB
  have c0 := hr.cell 0
  have f0 := hr.free 0
  simp only [List.getElem?_toArray, List.getElem?_cons_zero] at c0
  have HR := Lib.hid hr
  clear hr
  go_enter Try.func55, Try.ntmps55
  go_wp2
  go_region
  obtain ⟨y, hy, e1⟩ := xor_fits hv (wrap_fits ((v : Int) * 8192)).1 (wrap_fits ((v : Int) * 8192)).2
  rw [e1]
  have h1 : Row (w.setCell ⟨cb, 0, none⟩ (.int .u64 (y : Int))).drew cb 89 #[.int .u64 (y : Int)] := HR.out.set 0 (.int .u64 (y : Int))
  have hb1 : But w (w.setCell ⟨cb, 0, none⟩ (.int .u64 (y : Int))).drew (fun k => k = cb) := (But.set (fp := fun k => k = cb) (But.refl _ _) (p := ⟨cb, 0, none⟩) rfl _).drew
  generalize (w.setCell ⟨cb, 0, none⟩ (.int .u64 (y : Int))).drew = w1 at *
  have HR1 := Lib.hid h1
  have HB1 := Lib.hid hb1
  have c1 := h1.cell 0
  have f1 := h1.free 0
  simp only [List.getElem?_toArray, List.getElem?_cons_zero] at c1
  clear h1 hb1 c0 f0 e1
  go_wp2
  go_region
  obtain ⟨y2, hy2, e2⟩ := xor_fits hy (b := (y : Int) / 128) (by omega) (by omega)
  rw [e2]
  have h1 : Row (w1.setCell ⟨cb, 0, none⟩ (.int .u64 (y2 : Int))).drew cb 89 #[.int .u64 (y2 : Int)] := HR1.out.set 0 (.int .u64 (y2 : Int))
  have hb1 : But w (w1.setCell ⟨cb, 0, none⟩ (.int .u64 (y2 : Int))).drew (fun k => k = cb) := (But.set (fp := fun k => k = cb) HB1.out (p := ⟨cb, 0, none⟩) rfl _).drew
  generalize (w1.setCell ⟨cb, 0, none⟩ (.int .u64 (y2 : Int))).drew = w2 at *
  have HR2 := Lib.hid h1
  have HB2 := Lib.hid hb1
  have c2 := h1.cell 0
  have f2 := h1.free 0
  simp only [List.getElem?_toArray, List.getElem?_cons_zero] at c2
  clear h1 hb1 c1 f1 e2
  go_wp2
  go_region
  obtain ⟨y3, hy3, e3⟩ := xor_fits hy2 (wrap_fits ((y2 : Int) * 131072)).1 (wrap_fits ((y2 : Int) * 131072)).2
  rw [e3]
  have h1 : Row (w2.setCell ⟨cb, 0, none⟩ (.int .u64 (y3 : Int))).drew cb 89 #[.int .u64 (y3 : Int)] := HR2.out.set 0 (.int .u64 (y3 : Int))
  have hb1 : But w (w2.setCell ⟨cb, 0, none⟩ (.int .u64 (y3 : Int))).drew (fun k => k = cb) := (But.set (fp := fun k => k = cb) HB2.out (p := ⟨cb, 0, none⟩) rfl _).drew
  generalize (w2.setCell ⟨cb, 0, none⟩ (.int .u64 (y3 : Int))).drew = w3 at *
  have HR3 := Lib.hid h1
  have HB3 := Lib.hid hb1
  have c3 := h1.cell 0
  have f3 := h1.free 0
  simp only [List.getElem?_toArray, List.getElem?_cons_zero] at c3
  clear h1 hb1 c2 f2 e3
  go_wp2
  go_ret
  exact ⟨⟨y3, hy3, rfl⟩, ⟨y3, hy3, HR3.out⟩, HB3.out⟩
theorem pow_len {x : Nat} (h0 : 0 < x) (h : x < 2 ^ 64) : 2 ^ Lib.bitLen x ≤ 2 * x := by
  induction x using Nat.strongRecOn with
  | _ x ih =>
    rw [Lib.bitLen_half x (by omega) h, Nat.pow_add]
    by_cases h1 : x / 2 = 0
    · rw [h1]
      have : Lib.bitLen 0 = 0 := by decide
      rw [this]
      omega
    · have := ih (x / 2) (by omega) (by omega) (by omega)
      omega
theorem shl_len {x : Nat} (h0 : 0 < x) (h : x ≤ 1000000000) : ∃ m : Nat, 1 ≤ m ∧ m ≤ 2 * x ∧ Op.shift .shl .u64 1 .i64 ((Lib.bitLen x : Nat) : Int) = pure (.int .u64 (m : Int)) := by
  have hp := pow_len h0 (by omega)
  have h1 : 1 ≤ 2 ^ Lib.bitLen x := Nat.one_le_two_pow
  have hl : Lib.bitLen x < 64 := by
    by_cases hc : Lib.bitLen x < 64
    · exact hc
    · have : 2 ^ 64 ≤ 2 ^ Lib.bitLen x := Nat.pow_le_pow_right (by decide) (by omega)
      omega
  have e : (2 : Int) ^ Lib.bitLen x = ((2 ^ Lib.bitLen x : Nat) : Int) := by simp
  refine ⟨2 ^ Lib.bitLen x, h1, hp, ?_⟩
  rw [shift_shl .u64 .i64 1 ((Lib.bitLen x : Nat) : Int) (by omega) (by show ((Lib.bitLen x : Nat) : Int) ≤ 64; omega), IntKind.wrap_u64, Int.one_mul]
  congr 2
  show (2 : Int) ^ Lib.bitLen x % 18446744073709551616 = _
  rw [e]
  generalize 2 ^ Lib.bitLen x = q at *
  omega
theorem nextPow_any {L : Nat} (h0 : 0 < L) (h : L ≤ 1000000000) (w : World) : ∃ m : Nat, 1 ≤ m ∧ m ≤ 2 * L ∧ Calls Try.prog 54 #[.int .i64 (L : Int)] w fun e w' => e = .returned (.int .u64 (m : Int)) ∧ w = w' := by
  obtain ⟨m, h1, h2, hsh⟩ := shl_len h0 h
  refine ⟨m, h1, h2, ?_⟩
  have HB := Any.bits_Len bitsLenL (L : Int) w (by omega) (by omega)
  rw [Int.toNat_natCast] at HB
  have HB := Lib.hid HB
  generalize Lib.bitLen L = q at *
  have hq : (0 : Int) ≤ (q : Int) := by omega
  go_enter Try.func54, Try.ntmps54
  go_wp2_with fail
  refine HB.out.mono ?_
  rintro e w1 ⟨rfl, rfl⟩
  go_wp2
  go_ret
  exact ⟨rfl, rfl⟩
theorem and_fits {r m L : Nat} (hr : r < 18446744073709551616) (h1 : 1 ≤ m) (h2 : m ≤ 2 * L) (hL : L ≤ 1000000000) : ∃ y : Nat, y < 2 * L ∧ bits .and .u64 (r : Int) ((m : Int) - 1) = (y : Int) := by
  refine ⟨r &&& (m - 1), ?_, ?_⟩
  · have : r &&& (m - 1) ≤ m - 1 := Nat.and_le_right
    omega
  · have := u64_and (r : Int) ((m : Int) - 1) (by omega) (by omega) (by omega) (by omega)
    rw [this]
    rw [show ((m : Int) - 1).toNat = m - 1 from by omega, Int.toNat_natCast]
def BrEnd (w0 : World) (h off z n a b : Nat) (d : Array Nat) (e : Ending) (w' : World) : Prop := e = .returned (.tuple #[]) ∧ ∃ d', Sort.PermIn a b d d' ∧ SwA w0 w' h off z n d'
def BrInv (w0 : World) (h off z n a b q cb : Nat) (d : Array Nat) (k : Nat) (s9 : Value) (wr : World) : Prop := ∃ (c : Nat) (d' : Array Nat), s9 = .int .i64 ((a + q * 2 - 1 + c : Nat) : Int) ∧ c + k = 3 ∧ Sort.PermIn a b d d' ∧ SwA w0 wr h off z n d' ∧ Rx wr cb
theorem Rx.but {w w' : World} {cb : Nat} {fp : Nat → Prop} (h : Rx w cb) (hb : But w w' fp) (hn : ¬ fp cb) : Rx w' cb := by
  obtain ⟨v, hv, hr⟩ := h
  exact ⟨v, hv, hb.row hr hn⟩
set_option maxRecDepth 100000 in
set_option maxHeartbeats 4000000 in
theorem breakPat_any {w : World} {h off z cap n : Nat} {d : Array Nat} (hA : SwA w w h off z n d) (hn : n ≤ 1000000000) {a L : Nat} (hL : 8 ≤ L) (hb : a + L ≤ n) :
    Calls Try.prog 44 #[.slice (some ⟨h, off, none⟩) n cap, .int .i64 (a : Int), .int .i64 ((a + L : Nat) : Int)] w (BrEnd w h off z n a (a + L) d) := by
  have hh := hA.lt
  have hdn := hA.2.1
  have HA := Lib.hid hA
  have hl : (((a + L : Nat) : Int)) - (a : Int) = (L : Int) := by omega
  have hl4 : (L : Int) / 4 = ((L / 4 : Nat) : Int) := by omega
  obtain ⟨q, hq⟩ : ∃ q, q = L / 4 := ⟨_, rfl⟩
  rw [← hq] at hl4
  have q1 : 4 * q ≤ L := by omega
  have q2 : L < 4 * q + 4 := by omega
  obtain ⟨m, hm1, hm2, hnp⟩ := nextPow_any (L := L) (by omega) (by omega) (w.alloc (.cells #[.int .u64 (L : Int)] 89))
  have HNP := Lib.hid hnp
  have HA0 := Lib.hid (HA.out.below (alloc_below w (.cells #[.int .u64 (L : Int)] 89)))
  have HX0 : Hid (Rx (w.alloc (.cells #[.int .u64 (L : Int)] 89)) w.heap.size) := Lib.hid ⟨L, by omega, Row.new w _ _⟩
  have hne : w.heap.size ≠ h := by omega
  clear hnp
  obtain ⟨B, hB⟩ : ∃ B, B = a + L := ⟨_, rfl⟩
  rw [← hB] at hl ⊢
  have hLz : 8 ≤ (L : Int) := by omega
  have b1 : B ≤ a + L := by omega
  have b2 : a + L ≤ B := by omega
  clear hA hq hB
  go_enter Try.func44, Try.ntmps44
  go_wp2_with fail
  refine HNP.out.mono ?_
  rintro e w1 ⟨rfl, rfl⟩
  go_wp2
  go_loopg [9] 3 (fun k s9 wr => BrInv w h off z n a B q w.heap.size d k s9 wr)
  case atStart => exact ⟨0, d, by congr 1; omega, rfl, Sort.permIn_refl _ _ _, HA0.out, HX0.out⟩
  case round =>
    obtain ⟨c, dk, rfl, hck, hP, hS, hX⟩ := hrel
    have HP := Lib.hid hP
    have HS := Lib.hid hS
    have HX := Lib.hid hX
    clear hP hS hX
    obtain ⟨I, hI⟩ : ∃ I, I = a + q * 2 - 1 + c := ⟨_, rfl⟩
    rw [← hI]
    have HI := Lib.hid hI
    have i1 : I ≤ a + q * 2 - 1 + c := by omega
    have i2 : a + q * 2 - 1 + c ≤ I := by omega
    clear hI
    by_cases h3 : c < 3
    · have hle : decide ((I : Int) ≤ (a : Int) + (q : Int) * 2 + 1) = true := by simp; omega
      have HIN : I < n := by omega
      go_wp2_with fail
      refine (next_any HX.out).mono ?_
      rintro e w2 ⟨⟨r, hr, rfl⟩, hX2, hB2⟩
      have HS2 := Lib.hid (HS.out.box hne (Nat.le_refl _) hB2)
      have HX2 := Lib.hid hX2
      clear hX2 hB2
      obtain ⟨y, hy, hand⟩ := and_fits hr hm1 hm2 (by omega)
      by_cases hyL : L ≤ y
      · have hyz : decide ((L : Int) ≤ (y : Int)) = true := by simp; omega
        have hyz2 : (L : Int) ≤ (y : Int) := by omega
        have HYL := Lib.hid (show (y : Int) - (L : Int) = ((y - L : Nat) : Int) from by omega)
        obtain ⟨o, ho⟩ : ∃ o, o = y - L := ⟨_, rfl⟩
        have HOO := Lib.hid ho
        have o1 : o < L := by omega
        have hyo : (y : Int) - (L : Int) = (o : Int) := by omega
        clear ho
        have hon : a + o < n := by omega
        have ci := HS2.out.cell (i := I) HIN
        have cj := HS2.out.cell (i := a + o) hon
        have fi := HS2.out.free I
        have fj := HS2.out.free (a + o)
        have HSW : Hid (∀ W, (∃ q, W = (((w2.setCell ⟨h, off + I, none⟩ (.int .u64 (dk[a + o]! : Int))).setCell ⟨h, off + (a + o), none⟩ (.int .u64 (dk[I]! : Int))).drewN q)) → BrInv w h off z n a B q w.heap.size d (gk - 1) (.int .i64 ((I : Int) + 1)) W) := Lib.hid (fun W hW => ⟨c + 1, _, by congr 1; omega, by omega, Sort.permIn_trans _ _ _ _ _ HP.out (Sort.swp_permIn _ _ _ _ _ (by omega) (by omega) (by omega) (by omega) (by have := HP.out.1; omega)), HS2.out.swp2 HIN hon hW, by
          obtain ⟨q, rfl⟩ := hW
          have hb : But w2 (((w2.setCell ⟨h, off + I, none⟩ (.int .u64 (dk[a + o]! : Int))).setCell ⟨h, off + (a + o), none⟩ (.int .u64 (dk[I]! : Int))).drewN q) (fun k => k = h) :=
            (But.set (fp := fun k => k = h) (But.set (fp := fun k => k = h) (But.refl _ _) (p := ⟨h, off + I, none⟩) rfl _) (p := ⟨h, off + (a + o), none⟩) rfl _).trans (But.of_below (drewN_below _ q) (fun k => k = h)) (fun k hk => .inl hk)
          exact HX2.out.but hb (fun e => hne e)⟩)
        generalize dk[I]! = x at *
        generalize dk[a + o]! = y' at *
        obtain ⟨v', hy'⟩ := cell?_setCell_some (w := w2) (p := ⟨h, off + I, none⟩) (x := .int .u64 (y' : Int)) (q := ⟨h, off + (a + o), none⟩) cj
        go_wp2
        go_region
        have HF := Lib.hid (HSW.out _ ⟨1, rfl⟩)
        go_wp2
        go_roundg (gk - 1)
        case measure => omega
        case rel => exact HF.out
      · have hyz : decide ((L : Int) ≤ (y : Int)) = false := by simp; omega
        obtain ⟨o, ho⟩ : ∃ o, o = y := ⟨_, rfl⟩
        have o1 : o < L := by omega
        subst ho
        have hon : a + o < n := by omega
        have ci := HS2.out.cell (i := I) HIN
        have cj := HS2.out.cell (i := a + o) hon
        have fi := HS2.out.free I
        have fj := HS2.out.free (a + o)
        have HSW : Hid (∀ W, (∃ q, W = (((w2.setCell ⟨h, off + I, none⟩ (.int .u64 (dk[a + o]! : Int))).setCell ⟨h, off + (a + o), none⟩ (.int .u64 (dk[I]! : Int))).drewN q)) → BrInv w h off z n a B q w.heap.size d (gk - 1) (.int .i64 ((I : Int) + 1)) W) := Lib.hid (fun W hW => ⟨c + 1, _, by congr 1; omega, by omega, Sort.permIn_trans _ _ _ _ _ HP.out (Sort.swp_permIn _ _ _ _ _ (by omega) (by omega) (by omega) (by omega) (by have := HP.out.1; omega)), HS2.out.swp2 HIN hon hW, by
          obtain ⟨q, rfl⟩ := hW
          have hb : But w2 (((w2.setCell ⟨h, off + I, none⟩ (.int .u64 (dk[a + o]! : Int))).setCell ⟨h, off + (a + o), none⟩ (.int .u64 (dk[I]! : Int))).drewN q) (fun k => k = h) :=
            (But.set (fp := fun k => k = h) (But.set (fp := fun k => k = h) (But.refl _ _) (p := ⟨h, off + I, none⟩) rfl _) (p := ⟨h, off + (a + o), none⟩) rfl _).trans (But.of_below (drewN_below _ q) (fun k => k = h)) (fun k hk => .inl hk)
          exact HX2.out.but hb (fun e => hne e)⟩)
        generalize dk[I]! = x at *
        generalize dk[a + o]! = y' at *
        obtain ⟨v', hy'⟩ := cell?_setCell_some (w := w2) (p := ⟨h, off + I, none⟩) (x := .int .u64 (y' : Int)) (q := ⟨h, off + (a + o), none⟩) cj
        go_wp2
        go_region
        have HF := Lib.hid (HSW.out _ ⟨1, rfl⟩)
        go_wp2
        go_roundg (gk - 1)
        case measure => omega
        case rel => exact HF.out
    · have hle : decide ((I : Int) ≤ (a : Int) + (q : Int) * 2 + 1) = false := by simp; omega
      have HE : Hid (BrEnd w h off z n a B d (.returned (.tuple #[])) wr) := Lib.hid ⟨rfl, dk, HP.out, HS.out⟩
      go_wp2
      go_end0
      exact HE.out
end Go.Proofs.Ytpdnbojooelmfaa
