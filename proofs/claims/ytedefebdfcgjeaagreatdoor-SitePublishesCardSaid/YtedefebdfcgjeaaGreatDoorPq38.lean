/- Texts of this claim, packed: SiW. -/
import Derived.Test.YtedefebdfcgjeaaGreatDoorPq37
import Derived.WalkMore
import Derived.Deep.LoopGhost
import Derived.Deep.DeepCutAuto
/- Whole: a machine's steps, counted; for any machine whose every step returns. -/
namespace Go.Proofs.YtedefebdfcgjeaaGreatDoor
open Go.RowKit Go.Shelf
set_option linter.unusedVariables false

/-- What Whole tells of a machine: at most so many steps more, done so many, odd. -/
def runP (od dn : Nat → Bool) (er : Nat → Int) : Nat → Nat → Bool → Nat × Bool × Int
  | 0, k, o => (k, o, 10)
  | f + 1, k, o => if er k = 0 then (if dn k = true then (k + 1, o || od k, 0) else runP od dn er f (k + 1) (o || od k)) else (k + 1, o || od k, er k)
theorem runP_err {od dn : Nat → Bool} {er : Nat → Int} {f k : Nat} {o : Bool} (h : er k ≠ 0) : runP od dn er (f + 1) k o = (k + 1, o || od k, er k) := by rw [runP, if_neg h]
theorem runP_done {od dn : Nat → Bool} {er : Nat → Int} {f k : Nat} {o : Bool} (h : er k = 0) (hd : dn k = true) : runP od dn er (f + 1) k o = (k + 1, o || od k, 0) := by rw [runP, if_pos h, if_pos hd]
theorem runP_on {od dn : Nat → Bool} {er : Nat → Int} {f k : Nat} {o : Bool} (h : er k = 0) (hd : dn k = false) : runP od dn er (f + 1) k o = runP od dn er f (k + 1) (o || od k) := by rw [runP, if_pos h, if_neg (by rw [hd]; decide)]
theorem runP_le (od dn : Nat → Bool) (er : Nat → Int) : ∀ (f k : Nat) (o : Bool), (runP od dn er f k o).1 ≤ k + f
  | 0, k, o => Nat.le_refl _
  | f + 1, k, o => by
    have := runP_le od dn er f (k + 1) (o || od k)
    unfold runP
    split
    · split
      · show k + 1 ≤ _; omega
      · omega
    · show k + 1 ≤ _; omega
def odT (T : Nat → Nat) (k : Nat) : Bool := decide (T k + 1 < T (k + 1))

/-- A machine that Whole may do: what holds behind each step. -/
structure Mach (w : World) (g gf : Nat) (x : Value) (most : Int) (I : (Nat → Prop) → Nat → World → Prop) (T : Nat → Nat) (dn : Nat → Bool) (er : Nat → Int) : Prop where
  eg : ∀ (args : Array Value) (w : World), (callFunc gf args).run Tryz.prog w = .ok (.enter gf args) w
  few : most ≤ 1000000
  small : ∀ k, k ≤ most.toNat → T k + 1 < 18446744073709551616
  start : ∀ W P, Below w.heap.size w W → (∀ q, P q → w.heap.size ≤ q ∧ q < W.heap.size) → I P 0 W
  mem : ∀ P k W, I P k W → ∃ y s, y.g = g ∧ MemAt W y s ∧ s.tot = T k ∧ (∀ q, P q → ¬ y.fp q)
  but : ∀ P k W W', I P k W → But W W' P → I P k W'
  step : ∀ P k W, I P k W → (k : Int) < most → (∀ j, j < k → er j = 0 ∧ dn j = false) → Calls Tryz.prog gf #[x] W fun e W' => e = .returned (.tuple #[.bool (dn k), .int .i64 (er k)]) ∧ I P (k + 1) W' ∧ But W W' (fun q => ¬ P q)
def WPost (w : World) (most : Int) (I : (Nat → Prop) → Nat → World → Prop) (T : Nat → Nat) (dn : Nat → Bool) (er : Nat → Int) (e : Ending) (w' : World) : Prop :=
  ∃ (k : Nat) (o : Bool) (c : Int) (P : Nat → Prop), runP (odT T) dn er most.toNat 0 false = (k, o, c) ∧ e = .returned (.tuple #[.int .i64 (k : Int), .bool o, .int .i64 c]) ∧ I P k w' ∧ (∀ q, P q → w.heap.size ≤ q)
def WI (w : World) (g bl bs : Nat) (most : Int) (I : (Nat → Prop) → Nat → World → Prop) (T : Nat → Nat) (dn : Nat → Bool) (er : Nat → Int) (f : Nat) (a b c : Value) (wr : World) : Prop :=
  ∃ (k L : Nat) (o : Bool), a = .int .i64 (k : Int) ∧ b = .bool o ∧ c = .int .i64 10 ∧ k + f = most.toNat ∧ runP (odT T) dn er f k o = runP (odT T) dn er most.toNat 0 false ∧ I (fun q => q = bl ∨ q = bs) k wr ∧ Mtr wr bl bs g L ∧ (o = false → L = T k) ∧ (∀ j, j < k → er j = 0 ∧ dn j = false) ∧ w.heap.size ≤ bl ∧ w.heap.size ≤ bs
theorem mach_several {w : World} {g gf : Nat} {x : Value} {most : Int} {I : (Nat → Prop) → Nat → World → Prop} {T : Nat → Nat} {dn : Nat → Bool} {er : Nat → Int} (M : Mach w g gf x most I T dn er) {bl bs k L : Nat} {W : World}
    (hk : k + 1 ≤ most.toNat) (h : I (fun q => q = bl ∨ q = bs) (k + 1) W) (hm : Mtr W bl bs g L) (hL : L = T k) :
    Calls Tryz.prog 78 #[.pointer (some ⟨bl, 0, none⟩), .pointer (some ⟨bs, 0, none⟩)] W fun e w' => e = .returned (.bool (odT T k)) ∧ I (fun q => q = bl ∨ q = bs) (k + 1) w' ∧ Mtr w' bl bs g (T (k + 1)) := by
  obtain ⟨y, s, hy, hmem, ht, hp⟩ := M.mem _ _ _ h
  have h1 := M.small (k + 1) hk
  have h2 := M.small k (by omega)
  rw [← hy] at hm ⊢
  have := several_any hmem (by omega) hm (by omega) (hp bl (.inl rfl))
  rw [ht, hL] at this
  exact this.mono fun e w' ⟨a, b, c, d⟩ => ⟨a, M.but _ _ _ _ h (d.mono fun q hq => .inl hq), c⟩
set_option maxRecDepth 100000 in
set_option maxHeartbeats 2000000 in
theorem whole_any {w : World} {g gf : Nat} {x : Value} {most : Int} {I : (Nat → Prop) → Nat → World → Prop} {T : Nat → Nat} {dn : Nat → Bool} {er : Nat → Int} (M : Mach w g gf x most I T dn er) :
    Calls Tryz.prog 14 #[.pointer (some ⟨g, 0, none⟩), .func (.func gf) #[x] #[], .int .i64 most] w (WPost w most I T dn er) := by
  have hnil : ∀ w : World, (binOp BinOp.eql 49 (.func (.func gf) #[x] #[]) .nilFunc).run Tryz.prog w = .ok (.bool false) w := fun _ => by kernel_rfl
  obtain ⟨y, s, hy, hmem, ht, _⟩ := M.mem _ _ _ (M.start w (fun _ => False) (Below.refl _ _) (fun q h => h.elim))
  have HZ := Lib.hid (size_yes hmem)
  have hpos := hmem.pos
  have hnz : (((64 * s.nl : Nat) : Int) == 0) = false := by rw [Bool.eq_false_iff]; intro k; have := beq_iff_eq.1 k; omega
  have HMt := Lib.hid (meter_any hmem (by have := M.small 0 (Nat.zero_le _); omega))
  rw [ht, hy] at HMt
  rw [hy] at HZ
  obtain ⟨N, hN⟩ : ∃ N : Int, N = ((64 * s.nl : Nat) : Int) := ⟨_, rfl⟩
  rw [← hN] at HZ hnz
  have HM := Lib.hid M
  have hmost := M.few
  clear hN hpos hmem ht hy M
  go_enter Tryz.func14, Tryz.ntmps14
  go_wp2_with fail
  go_step3
  go_wp2_with fail
  refine HZ.out.mono ?_
  rintro e w1 ⟨rfl, rfl⟩
  go_wp2_with fail
  refine HMt.out.mono ?_
  rintro e w1 ⟨bl, bs, rfl, hmt, h1, h2, hb⟩
  have H0 := Lib.hid (show WI w g bl bs most I T dn er most.toNat (.int .i64 0) (.bool false) (.int .i64 10) w1 from
    ⟨0, T 0, false, rfl, rfl, rfl, by omega, rfl, HM.out.start w1 _ hb (fun q hq => by
      rcases hq with rfl | rfl
      · exact ⟨h1, hmt.last.lt⟩
      · exact ⟨h2, hmt.stats.lt⟩), hmt, fun _ => rfl, fun j hj => absurd hj (Nat.not_lt_zero _), h1, h2⟩)
  clear hmt h1 h2 hb hnz HZ HMt
  go_wp2
  go_step3
  go_wp2
  go_loopg [9, 10, 11] most.toNat (fun f a b c wr => WI w g bl bs most I T dn er f a b c wr)
  case atStart => exact H0.out
  case round =>
    obtain ⟨k, L, o, rfl, rfl, rfl, hk, hrun, hI, hmt, hL, hjs, hbl, hbs⟩ := hrel
    rename World => wr
    have HI := Lib.hid hI
    have HMTR := Lib.hid hmt
    have HL := Lib.hid hL
    have HJ := Lib.hid hjs
    have HRUN := Lib.hid hrun
    have HBL := Lib.hid hbl
    have HBS := Lib.hid hbs
    have HK := Lib.hid hk
    clear hI hmt hL hjs hrun hbl hbs
    by_cases h0 : (k : Int) < most
    · obtain ⟨f, hf⟩ : ∃ f, gk = f + 1 := ⟨gk - 1, by omega⟩
      have hk1 : (k : Int) + 1 ≤ 1000000 := by omega
      have HST := Lib.hid (told_any HM.out.eg (HM.out.step _ _ _ HI.out h0 HJ.out))
      obtain ⟨E, hE⟩ : ∃ E, E = er k := ⟨_, rfl⟩
      obtain ⟨d, hd⟩ : ∃ d, d = dn k := ⟨_, rfl⟩
      rw [← hE, ← hd] at HST
      have HE := Lib.hid hE
      have HD := Lib.hid hd
      have HF := Lib.hid hf
      have hkm : k + 1 ≤ most.toNat := by omega
      clear hE hd hf hk
      go_wp2_with fail
      refine HST.out.mono ?_
      rintro e w2 ⟨rfl, hI2, hb2⟩
      have hmt2 := HMTR.out.but hb2 (fun h => h (.inl rfl)) (fun h => h (.inr rfl))
      have HI2 := Lib.hid hI2
      have HM2 := Lib.hid hmt2
      clear hI2 hb2 hmt2
      cases o with
      | false =>
        have HSV := Lib.hid (mach_several HM.out (by omega) HI2.out HM2.out (HL.out rfl))
        obtain ⟨O, hO⟩ : ∃ O, O = odT T k := ⟨_, rfl⟩
        rw [← hO] at HSV
        have HO := Lib.hid hO
        clear hO
        go_wp2_with fail
        refine HSV.out.mono ?_
        rintro e w3 ⟨rfl, hI3, hm3⟩
        have HI3 := Lib.hid hI3
        have HM3 := Lib.hid hm3
        clear hI3 hm3
        by_cases h00 : E = 0
        · subst h00
          cases d with
          | true =>
            have HP := Lib.hid (show WPost w most I T dn er (.returned (.tuple #[.int .i64 ((k : Int) + 1), .bool O, .int .i64 0])) w3 from
              ⟨k + 1, O, 0, _, by rw [← HRUN.out, HF.out, runP_done HE.out.symm HD.out.symm]; simp [HO.out], rfl, HI3.out, fun q hq => by rcases hq with rfl | rfl; exact HBL.out; exact HBS.out⟩)
            go_wp2
            (try rw [Exit.noGoto_ret])
            go_ret3
            exact HP.out
          | false =>
            have HP := Lib.hid (show WI w g bl bs most I T dn er f (.int .i64 ((k : Int) + 1)) (.bool O) (.int .i64 10) w3 from
              ⟨k + 1, (T (k + 1)), O, rfl, rfl, rfl, by have := HK.out; have := HF.out; omega, by rw [← HRUN.out, HF.out, runP_on HE.out.symm HD.out.symm]; simp [HO.out], HI3.out, HM3.out, (fun _ => rfl), fun j hj => by
                by_cases hjk : j = k
                · subst hjk; exact ⟨HE.out.symm, HD.out.symm⟩
                · exact HJ.out j (by omega), HBL.out, HBS.out⟩)
            have hlt : f < gk := by have := HF.out; omega
            go_wp2
            go_roundg f
            case measure => exact hlt
            case rel => exact HP.out
        · have hne : (E != 0) = true := by simpa using h00
          have HP := Lib.hid (show WPost w most I T dn er (.returned (.tuple #[.int .i64 ((k : Int) + 1), .bool O, .int .i64 E])) w3 from
            ⟨k + 1, O, E, _, by rw [← HRUN.out, HF.out, runP_err (by rw [← HE.out]; exact h00), ← HE.out]; simp [HO.out], rfl, HI3.out, fun q hq => by rcases hq with rfl | rfl; exact HBL.out; exact HBS.out⟩)
          clear h00
          go_wp2
          (try rw [Exit.noGoto_ret])
          go_ret3
          exact HP.out
      | true =>
        by_cases h00 : E = 0
        · subst h00
          cases d with
          | true =>
            have HP := Lib.hid (show WPost w most I T dn er (.returned (.tuple #[.int .i64 ((k : Int) + 1), .bool true, .int .i64 0])) w2 from
              ⟨k + 1, true, 0, _, by rw [← HRUN.out, HF.out, runP_done HE.out.symm HD.out.symm]; simp [Bool.true_or], rfl, HI2.out, fun q hq => by rcases hq with rfl | rfl; exact HBL.out; exact HBS.out⟩)
            go_wp2
            (try rw [Exit.noGoto_ret])
            go_ret3
            exact HP.out
          | false =>
            have HP := Lib.hid (show WI w g bl bs most I T dn er f (.int .i64 ((k : Int) + 1)) (.bool true) (.int .i64 10) w2 from
              ⟨k + 1, L, true, rfl, rfl, rfl, by have := HK.out; have := HF.out; omega, by rw [← HRUN.out, HF.out, runP_on HE.out.symm HD.out.symm]; simp [Bool.true_or], HI2.out, HM2.out, (fun h => by cases h), fun j hj => by
                by_cases hjk : j = k
                · subst hjk; exact ⟨HE.out.symm, HD.out.symm⟩
                · exact HJ.out j (by omega), HBL.out, HBS.out⟩)
            have hlt : f < gk := by have := HF.out; omega
            go_wp2
            go_roundg f
            case measure => exact hlt
            case rel => exact HP.out
        · have hne : (E != 0) = true := by simpa using h00
          have HP := Lib.hid (show WPost w most I T dn er (.returned (.tuple #[.int .i64 ((k : Int) + 1), .bool true, .int .i64 E])) w2 from
            ⟨k + 1, true, E, _, by rw [← HRUN.out, HF.out, runP_err (by rw [← HE.out]; exact h00), ← HE.out]; simp [Bool.true_or], rfl, HI2.out, fun q hq => by rcases hq with rfl | rfl; exact HBL.out; exact HBS.out⟩)
          clear h00
          go_wp2
          (try rw [Exit.noGoto_ret])
          go_ret3
          exact HP.out
    · have HP := Lib.hid (show WPost w most I T dn er (.returned (.tuple #[.int .i64 (k : Int), .bool o, .int .i64 10])) wr from
        ⟨k, o, 10, _, by
          have h1 : gk = 0 := by have := HK.out; omega
          rw [← HRUN.out, h1]
          rfl, rfl, HI.out, fun q hq => by rcases hq with rfl | rfl; exact HBL.out; exact HBS.out⟩)
      clear hk
      go_wp2
      (try rw [Exit.noGoto_ret])
      go_ret3
      exact HP.out
end Go.Proofs.YtedefebdfcgjeaaGreatDoor
