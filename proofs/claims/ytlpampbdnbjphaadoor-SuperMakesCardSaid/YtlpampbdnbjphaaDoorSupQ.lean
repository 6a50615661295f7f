/- The laws SuperMakes and SuperPlaces answer true, for any inputs, where geo.rooms holds what its initialiser lays. -/
import Derived.Test.YtlpampbdnbjphaaDoorSupL
namespace Go.Proofs.YtlpampbdnbjphaaDoor
open Go.RowKit Go.Sort Go.Shelf
set_option linter.unusedVariables false

theorem mayB_size {s r n : Int} (hn : -9223372036854775808 ≤ n) (hb : n ≤ 9223372036854775807) (h : mayB (sizeN s) r (sizeN s) = true) : mayB (sizeN s) r n = (IntKind.u64.wrap n == sizeN s) := by
  have hr := sizeN_range s
  unfold mayB at h ⊢
  have h' := of_decide_eq_true h
  rw [IntKind.wrap_u64]
  by_cases e : sizeN s = n
  · subst e
    rw [decide_eq_true h']
    have : sizeN s % 18446744073709551616 = sizeN s := by omega
    simp [this]
  · rw [decide_eq_false (fun a => e a.2.1)]
    symm
    simp
    omega
set_option maxRecDepth 100000 in
set_option maxHeartbeats 1600000 in
theorem lawMakes_in {s r n Z : Int} (hs : 1 ≤ s) (hs2 : s ≤ 64) (hn : -9223372036854775808 ≤ n) (hb : n ≤ 9223372036854775807) (hZ : Z = 1024 + 1024 * s) (hm : mayB Z r Z = true) (w : World) (R : Rms w) :
    Calls Tryd.prog 3 #[.int .i64 s, .int .u64 r, .int .i64 n] w fun e w' => e = .returned (.bool true) ∧ Below w.heap.size w w' := by
  have mixed : Tryd.prog.follows .mixedOrders = true := by kernel_rfl
  have HR := Lib.hid R
  have HM := Lib.hid R.lt
  have hZs : sizeN s = Z := by rw [hZ]; exact if_pos ⟨hs, hs2⟩
  have HN := fun (w : World) (R : Rms w) => new_ok (s := s) (r := r) (by rw [hZs]; exact hm) w R
  have HF := fun w => refMay_any (z := Z) (r := r) (n := Z) w
  have HA := fun (W : World) (R : Rms W) (p : LowBy W) => Calls.low_of (may_any (z := Z) (r := r) hn hb p.W (R.of_low p))
  rw [hm] at HF
  rw [hZs] at HN
  rw [← hZs] at hm HA
  rw [mayB_size hn hb hm] at HA
  rw [hZs] at HA
  have HN := Lib.hid HN
  have HF := Lib.hid HF
  have HA := Lib.hid HA
  have H3 := Lib.hid fun (W : World) (R : Rms W) (p : LowBy W) => Calls.low_of (known4_any p.W (R.of_low p))
  have hq := eq8v
  clear R hm hZs
  subst hZ
  go_enter Tryd.func3, Tryd.ntmps3
  go_wp2_with fail
  refine (HN.out _ HR.out).mono ?_
  rintro e w1 ⟨rfl, hb⟩
  have B1 := Lib.hid hb
  have R1 := Lib.hid (HR.out.keeps hb HM.out)
  clear hb
  go_wp2_with fail
  refine (HF.out _).mono ?_
  rintro e w2 ⟨rfl, hb⟩
  have B2 := Lib.hid (((B1.out.alloc B1.out.size _).alloc (by have := B1.out.size; simp; omega) _).trans (hb.mono (by have := B1.out.size; simp; omega)))
  have r1 := (hb.block w1.heap.size (by simp; omega)).trans (heap_old _ (heap_new _ _ rfl))
  have r2 := (hb.block (w1.heap.size + 1) (by simp)).trans (heap_new _ _ (by simp))
  have R0 := Lib.hid (HR.out.keeps B2.out HM.out)
  have ca := fun p : LowBy w2 => cell_of_row p.W _ 0 _ 25 (0, 0) (LowBy.heap r1 p)
  have cb := fun p : LowBy w2 => cell_of_row p.W _ 1 _ 25 (0, 0) (LowBy.heap r1 p)
  have cc := fun p : LowBy w2 => cell_of_row p.W _ 0 _ 25 (0, 0) (LowBy.heap r2 p)
  have cd := fun p : LowBy w2 => cell_of_row p.W _ 1 _ 25 (0, 0) (LowBy.heap r2 p)
  simp only [List.getElem?_toArray, List.getElem?_cons_succ, List.getElem?_cons_zero] at ca cb cc cd
  clear hb r1 r2
  go_wp2_with fail
  refine wp_region_quiet_low (by assumption) (by kernel_rfl) ?_
  repeat (go_big_quiet_step (first | (go_at_call 12; with_reducible exact HA.out _ R0.out _) | (go_at_call 11; with_reducible exact H3.out _ R0.out _)))
  refine wpQuiet_nil ?_
  intro _ hw'
  obtain ⟨p, hw''⟩ := hw'
  subst hw''
  have hp := Lib.hid p.low
  go_wp2
  go_ret
  exact ⟨rfl, B2.out.trans (hp.out.mono B2.out.size)⟩
set_option maxRecDepth 100000 in
set_option maxHeartbeats 1600000 in
theorem lawMakes_no {s r n Z : Int} (hs : 1 ≤ s ∧ s ≤ 64 ∧ Z = 1024 + 1024 * s ∨ s < 1 ∧ Z = 0 ∨ 1 ≤ s ∧ 64 < s ∧ Z = 0) (hm : mayB Z r Z = false) (w : World) (R : Rms w) :
    Calls Tryd.prog 3 #[.int .i64 s, .int .u64 r, .int .i64 n] w fun e w' => e = .returned (.bool true) ∧ Below w.heap.size w w' := by
  have HR := Lib.hid R
  have HM := Lib.hid R.lt
  have hZs : sizeN s = Z := by unfold sizeN; split <;> omega
  have HN := fun (w : World) (R : Rms w) => new_err (s := s) (r := r) (by rw [hZs]; exact hm) w R
  have HF := fun w => refMay_any (z := Z) (r := r) (n := Z) w
  rw [hm] at HF
  have HN := Lib.hid HN
  have HF := Lib.hid HF
  clear R hm hZs
  rcases hs with ⟨h1, h2, rfl⟩ | ⟨h1, rfl⟩ | ⟨h1, h2, rfl⟩
  · go_enter Tryd.func3, Tryd.ntmps3
    go_wp2_with fail
    refine (HN.out _ HR.out).mono ?_
    rintro e w1 ⟨rfl, hb⟩
    have B1 := Lib.hid hb
    clear hb
    go_wp2_with fail
    refine (HF.out _).mono ?_
    rintro e w2 ⟨rfl, hb⟩
    have B2 := Lib.hid (((B1.out.alloc B1.out.size _).alloc (by have := B1.out.size; simp; omega) _).trans (hb.mono (by have := B1.out.size; simp; omega)))
    have r1 := (hb.block w1.heap.size (by simp; omega)).trans (heap_old _ (heap_new _ _ rfl))
    have R0 := Lib.hid (HR.out.keeps B2.out HM.out)
    have ca := cell_of_row w2 _ 0 _ 25 (0, 0) r1
    have cb := cell_of_row w2 _ 1 _ 25 (0, 0) r1
    simp only [List.getElem?_toArray, List.getElem?_cons_succ, List.getElem?_cons_zero] at ca cb
    clear hb r1
    go_wp2_with fail
    refine (known4_any _ R0.out).mono ?_
    rintro e w3 ⟨rfl, hb⟩
    have B3 := Lib.hid (B2.out.trans (hb.mono B2.out.size))
    clear hb
    go_wp2
    go_ret
    exact ⟨rfl, B3.out⟩
  all_goals
    go_enter Tryd.func3, Tryd.ntmps3
    go_wp2_with fail
    refine (HN.out _ HR.out).mono ?_
    rintro e w1 ⟨rfl, hb⟩
    have B1 := Lib.hid hb
    have R1 := Lib.hid (HR.out.keeps hb HM.out)
    clear hb
    go_wp2_with fail
    refine (known4_any _ ((R1.out.alloc _).alloc _)).mono ?_
    rintro e w3 ⟨rfl, hb⟩
    have B3 := Lib.hid (((B1.out.alloc B1.out.size _).alloc (by have := B1.out.size; simp; omega) _).trans (hb.mono (by have := B1.out.size; simp; omega)))
    clear hb
    go_wp2
    go_ret
    exact ⟨rfl, B3.out⟩
theorem lawMakes_any {s r n : Int} (hn : -9223372036854775808 ≤ n) (hb : n ≤ 9223372036854775807) (w : World) (R : Rms w) :
    Calls Tryd.prog 3 #[.int .i64 s, .int .u64 r, .int .i64 n] w fun e w' => e = .returned (.bool true) ∧ Below w.heap.size w w' := by
  by_cases h : 1 ≤ s ∧ s ≤ 64
  · cases hm : mayB (1024 + 1024 * s) r (1024 + 1024 * s) with
    | true => exact lawMakes_in h.1 h.2 hn hb rfl hm w R
    | false => exact lawMakes_no (.inl ⟨h.1, h.2, rfl⟩) hm w R
  · have hm : mayB 0 r 0 = false := by unfold mayB; simp
    exact lawMakes_no (Z := 0) (by omega) hm w R
theorem ownsRow_shape {W : World} {base : Nat} {e : TypeId} {size : Nat} {v : Value} {k : Nat} {xs : List Value} (h : W.ownsRow base e size v k xs) : ∃ A cap, v = .slice A k cap := by
  rcases h.2 with ⟨rfl, h0⟩ | ⟨g, cap, _, rfl, _⟩
  · subst h0
    exact ⟨none, 0, rfl⟩
  · exact ⟨_, cap, rfl⟩
set_option maxHeartbeats 1600000 in
theorem lawPlaces_many {s r : Int} (h1 : 10 < s) (h2 : s ≤ 64) (w : World) (R : Rms w) :
    Calls Tryd.prog 8 #[.int .i64 s, .int .u64 r] w fun e w' => e = .returned (.bool true) ∧ Below w.heap.size w w' := by
  have HR := Lib.hid R
  clear R
  go_enter Tryd.func8, Tryd.ntmps8
  go_wp2_with fail
  refine (known4_any _ HR.out).mono ?_
  rintro e w3 ⟨rfl, hb⟩
  go_wp2
  go_ret
  exact ⟨rfl, hb⟩
set_option maxHeartbeats 1600000 in
theorem lawPlaces_none {s r : Int} (hs : s < 1 ∨ 1 ≤ s ∧ 10 < s ∧ 64 < s) (hs2 : s ≤ 9223372036854775807) (w : World) (R : Rms w) :
    Calls Tryd.prog 8 #[.int .i64 s, .int .u64 r] w fun e w' => e = .returned (.bool true) ∧ Below w.heap.size w w' := by
  have HR := Lib.hid R
  have HM := Lib.hid R.lt
  have hL : rootsL s = [] := by unfold rootsL rootsN; rw [if_neg (by omega)]; rfl
  have HP := fun (w : World) (R : Rms w) => places_any (s := s) hs2 w R
  rw [hL] at HP
  have HP := Lib.hid HP
  clear R hL
  rcases hs with h1 | ⟨h1, h2, h3⟩
  all_goals
    go_enter Tryd.func8, Tryd.ntmps8
    go_wp2_with fail
    refine (HP.out _ HR.out).mono ?_
    rintro e w1 ⟨v, rfl, ho, hb⟩
    obtain ⟨A, cap, rfl⟩ := ownsRow_shape ho
    have B1 := Lib.hid hb
    have R1 := Lib.hid (HR.out.keeps hb HM.out)
    clear hb ho
    rw [show ([] : List Int).length = 0 from rfl]
    go_wp2_with fail
    refine (known4_any _ R1.out).mono ?_
    rintro e w3 ⟨rfl, hb⟩
    have B3 := Lib.hid (B1.out.trans (hb.mono B1.out.size))
    clear hb
    go_wp2
    go_ret
    exact ⟨rfl, B3.out⟩
set_option maxRecDepth 100000 in
set_option maxHeartbeats 1600000 in
theorem lawPlaces_few {s r Z : Int} (h1 : 1 ≤ s) (h2 : s ≤ 10) (hZ : Z = 1024 + 1024 * s) (w : World) (R : Rms w) :
    Calls Tryd.prog 8 #[.int .i64 s, .int .u64 r] w fun e w' => e = .returned (.bool true) ∧ Below w.heap.size w w' := by
  have mixed : Tryd.prog.follows .mixedOrders = true := by kernel_rfl
  have HR := Lib.hid R
  have HM := Lib.hid R.lt
  obtain ⟨m, hm⟩ : ∃ m : Nat, (m : Int) = s := ⟨s.toNat, by omega⟩
  have hN : rootsN s = 5 * m := by unfold rootsN; rw [if_pos ⟨h1, by omega⟩]; omega
  have hL : rootsL s = upR (5 * m) := by unfold rootsL; rw [hN]
  have HP := fun (w : World) (R : Rms w) => places_any (s := s) (by omega) w R
  rw [hL, upR_len] at HP
  have HF := fun w => refMay_any (z := Z) (r := r) (n := Z) w
  obtain ⟨b, hb⟩ : ∃ b, b = mayB Z r Z := ⟨_, rfl⟩
  rw [← hb] at HF
  have hbm : b = decide (r ∈ upR (5 * m)) := by
    rw [hb]
    unfold mayB
    rw [show Z / 1024 - 1 = s by omega, hL]
    exact decide_eq_decide.2 ⟨fun a => a.2.2, fun a => ⟨by omega, rfl, a⟩⟩
  have HP := Lib.hid HP
  have HF := Lib.hid HF
  have HBM := Lib.hid hbm
  clear R hL hN hb hbm
  subst hZ
  subst hm
  go_enter Tryd.func8, Tryd.ntmps8
  go_wp2_with fail
  refine (HP.out _ HR.out).mono ?_
  rintro e w1 ⟨v, rfl, ho, hb⟩
  obtain ⟨m', rfl⟩ : ∃ m', m = m' + 1 := ⟨m - 1, by omega⟩
  obtain ⟨g, cap, rfl⟩ := ownsRow_succ (k := 5 * m' + 4) ho
  have hcl := ho.cells (g := g) rfl
  have B1 := Lib.hid hb
  have R1 := Lib.hid (HR.out.keeps hb HM.out)
  have hc : ∀ j, j < 5 * (m' + 1) → w1.cell? ⟨g, j, none⟩ = some (.int .u64 (rootAt j)) := by
    intro j hj
    have := hcl j (.int .u64 (rootAt j)) (by rw [upR, List.map_map, List.getElem?_map, List.getElem?_range hj]; rfl)
    rwa [show (⟨g, 0, none⟩ : Addr).add j = ⟨g, j, none⟩ from by unfold Addr.add; split <;> simp_all] at this
  have hcl2 := fun (wr : World) (hg : Below w1.heap.size w1 wr) (j : Nat) (hj : j < 5 * (m' + 1)) => (hg.cell (p := ⟨g, j, none⟩) (w1.block_lt_of_cell? _ (hc j hj))).trans (hc j hj)
  have HC := Lib.hid hcl2
  clear hb ho hcl hc hcl2 HP
  go_wp2
  go_loopw [6, 7] (fun a b wr => ∃ i : Nat, b = .int .i64 i ∧ i ≤ 5 * (m' + 1) ∧ (∃ h : Bool, a = .bool h ∧ h = decide (r ∈ upR i)) ∧ Below w1.heap.size w1 wr) (fun _ b _ => 5 * (m' + 1) - (intOf b).toNat)
  case atStart => exact ⟨0, rfl, by omega, ⟨false, rfl, rfl⟩, Below.refl _ _⟩
  case round =>
    obtain ⟨i, rfl, hi, ⟨h, rfl, hh⟩, hg⟩ := hrel
    have HG := Lib.hid hg
    have HH := Lib.hid hh
    clear hg hh
    by_cases hlt : i < 5 * (m' + 1)
    · have hx : blkA (1 + (i : Int) / 5) 3 ((i : Int) % 5) = rootAt i := by
        unfold rootAt
        rw [show (1 + (i : Int) / 5) = ((i / 5 : Nat) : Int) + 1 by omega, show ((i : Int) % 5) = ((i % 5 : Nat) : Int) by omega]
      have c0 := HC.out wr HG.out i hlt
      have hnew : decide (r ∈ upR (i + 1)) = (h || (rootAt i == r)) := by
        rw [HH.out, upR_succ]
        rw [Bool.eq_iff_iff]
        simp only [decide_eq_true_eq, List.mem_append, List.mem_singleton, Bool.or_eq_true, beq_iff_eq]
        exact ⟨fun h => h.imp id Eq.symm, fun h => h.imp id Eq.symm⟩
      have HNW := Lib.hid hnew
      by_cases h0 : i = 0
      · subst h0
        obtain ⟨x, hxx⟩ : ∃ x, x = rootAt 0 := ⟨_, rfl⟩
        have HBK := Lib.hid fun (w : World) => refBlock_any 1 3 0 w
        rw [show blkA 1 3 0 = rootAt 0 from hx] at HBK
        rw [← hxx] at HBK c0 HNW
        clear hx hxx hnew
        obtain rfl : h = false := HH.out.trans rfl
        go_wp2
        go_quiet ((go_at_call 18; exact Calls.quiet_of_same (Calls.swap (HBK.out _))))
        go_wp2
        exact ⟨⟨1, rfl, by omega, ⟨x == r, rfl, by rw [HNW.out]; rfl⟩, HG.out.trans (((Gr.refl wr).drewN _).below HG.out.size)⟩, by simp [intOf]; omega⟩
      · obtain ⟨i', rfl⟩ : ∃ i', i = i' + 1 := ⟨i - 1, by omega⟩
        have c1 := HC.out wr HG.out i' (by omega)
        have hlt2 := rootAt_lt (i := i') (j := i' + 1) (by omega) (by omega)
        obtain ⟨x, hxx⟩ : ∃ x, x = rootAt (i' + 1) := ⟨_, rfl⟩
        obtain ⟨y, hyy⟩ : ∃ y, y = rootAt i' := ⟨_, rfl⟩
        have HBK := Lib.hid fun (w : World) => refBlock_any (1 + ((i' + 1 : Nat) : Int) / 5) 3 (((i' + 1 : Nat) : Int) % 5) w
        rw [hx] at HBK
        rw [← hxx] at HBK c0 HNW hlt2
        rw [← hyy] at c1 hlt2
        clear hx hxx hyy hnew h0
        have d0 := LowBy.cell c0
        have d1 := LowBy.cell c1
        have hle : decide (x ≤ y) = false := decide_eq_false (by omega)
        cases h
        all_goals
          go_wp2
          refine wp_region_quiet_low (by assumption) (by kernel_rfl) ?_
          repeat (go_big_quiet_step ((go_at_call 18; exact Calls.low_of_same (HBK.out _))))
          refine wpQuiet_nil ?_
          intro _ hw'
          obtain ⟨p, hw''⟩ := hw'
          subst hw''
          have hp := Lib.hid p.low
          have d0 := d0 p
          have d1 := d1 p
          go_wp2
          exact ⟨⟨i' + 1 + 1, by go_num, by omega, ⟨_, rfl, by rw [HNW.out]; rfl⟩, HG.out.trans (hp.out.mono HG.out.size)⟩, by simp [intOf]; omega⟩
    · obtain rfl : i = 5 * (m' + 1) := by omega
      obtain rfl : h = b := by rw [HH.out, HBM.out]
      have HGB := Lib.hid (B1.out.trans (HG.out.mono B1.out.size))
      have RG := Lib.hid (R1.out.below HG.out)
      go_wp2_with fail
      refine (HF.out _).mono ?_
      rintro e w2 ⟨rfl, hb⟩
      have B2 := Lib.hid (HGB.out.trans (hb.mono HGB.out.size))
      have R2 := Lib.hid (HR.out.keeps B2.out HM.out)
      clear hb
      go_wp2_with fail
      refine (known4_any _ R2.out).mono ?_
      rintro e w3 ⟨rfl, hb⟩
      have B3 := Lib.hid (B2.out.trans (hb.mono B2.out.size))
      clear hb
      go_wp2
      go_ret
      exact ⟨rfl, B3.out⟩
theorem lawPlaces_any {s r : Int} (hs2 : s ≤ 9223372036854775807) (w : World) (R : Rms w) :
    Calls Tryd.prog 8 #[.int .i64 s, .int .u64 r] w fun e w' => e = .returned (.bool true) ∧ Below w.heap.size w w' := by
  by_cases h : 1 ≤ s ∧ s ≤ 64
  · by_cases h10 : 10 < s
    · exact lawPlaces_many h10 h.2 w R
    · exact lawPlaces_few h.1 (by omega) rfl w R
  · exact lawPlaces_none (by omega) hs2 w R
end Go.Proofs.YtlpampbdnbjphaaDoor
