/- Texts of this claim, packed: N9LawE, N9EndE. -/
import Derived.Test.YtbadlmicbbjkaaaPe25
import Derived.Test.YtbadlmicbbjkaaaPe23
import Derived.Deep.DeepCutAuto
import Derived.Deep.CutBlock
import Derived.Deep.RegionHeld3
/- FastEffect: the law is true of any base, any node, any change that is asked for; conditions: numbers of the width. -/
namespace Go.Proofs.Ytbadlmicbbjkaaa
open Go.RowKit
set_option linter.unusedVariables false
set_option linter.unusedSimpArgs false
attribute [local go_sem] Oper.semAt_some
theorem puts_cells {w : World} {B : Nat} {v : Value} {l : List (Int × Int)} (h : w.ownsRow B 45 2 v l.length (flatE l)) (h0 : 0 < l.length) : ∃ g cap, v = .slice (some ⟨g, 0, none⟩) l.length cap ∧ B ≤ g ∧ g < w.heap.size ∧ (∀ j u, (flatE l)[j]? = some u → w.cell? ⟨g, j, none⟩ = some u) := by
  rcases h.2 with ⟨rfl, h1⟩ | ⟨g, cap, cur, rfl, hb, hh, h2, h3, h4, h5⟩
  · omega
  · refine ⟨g, cap, rfl, hb, (Array.getElem?_eq_some_iff.1 hh).1, fun j u hu => ?_⟩
    have := h.cells rfl j u hu
    rw [Addr.add_lit, Nat.zero_add] at this
    exact this
theorem refE_bok {b : Int} {n : Nd} {l : List Int} (h : refE b n l = 0) : bOk b = true := by
  unfold refE at h
  split at h
  · rename_i hc
    simp only [Bool.and_eq_true] at hc
    exact hc.1.1
  · omega
theorem ask_bok {base : Int} {n : Nd} {d key ptr : Int} {l : List (Int × Int)} (h0 : 0 ≤ d) (h6 : d < 6) (h : askP base n d key ptr = (l, 0)) : bOk base = true ∧ 0 < l.length := by
  obtain rfl | rfl | rfl | rfl | rfl | rfl : d = 0 ∨ d = 1 ∨ d = 2 ∨ d = 3 ∨ d = 4 ∨ d = 5 := by omega
  · have h' : insP base n key ptr = (l, 0) := h
    refine ⟨?_, ?_⟩
    · unfold insP at h'
      split at h'
      · rename_i hE
        exact absurd (congrArg Prod.snd h') hE
      · rename_i hE
        exact refE_bok (show refE base n [ptr] = 0 by omega)
    · obtain ⟨A, B, _, _, _, hl, _⟩ := eff_ins h'
      omega
  · have h' : delP base n key = (l, 0) := h
    refine ⟨?_, ?_⟩
    · unfold delP at h'
      split at h'
      · rename_i hE
        exact absurd (congrArg Prod.snd h') hE
      · rename_i hE
        exact refE_bok (show refE base n [] = 0 by omega)
    · obtain ⟨A, B, e, _, _, hE⟩ := eff_del h'
      have := (eff_way hE).1
      omega
  · have h' : repP base n = (l, 0) := h
    unfold repP at h'
    split at h'
    · rename_i hb
      split at h'
      · cases h'
      · have h1 := congrArg Prod.fst h'
        dsimp only at h1
        rw [← h1, wholeL_len]
        simp only [Bool.and_eq_true] at hb
        exact ⟨hb.1, by omega⟩
    · cases h'
  · have h' : swapP base n key ptr = (l, 0) := h
    refine ⟨?_, ?_⟩
    · unfold swapP at h'
      split at h'
      · rename_i hE
        exact absurd (congrArg Prod.snd h') hE
      · rename_i hE
        exact refE_bok (show refE base n [ptr] = 0 by omega)
    · obtain ⟨A, B, o, _, hE⟩ := eff_swap h'
      have := (eff_way hE).1
      omega
  · have h' : cutP base n key = (l, 0) := h
    refine ⟨?_, ?_⟩
    · unfold cutP at h'
      split at h'
      · rename_i hE
        exact absurd (congrArg Prod.snd h') hE
      · rename_i hE
        exact refE_bok (show refE base n [] = 0 by omega)
    · obtain ⟨A, B, e, _, _, hE⟩ := eff_cut h'
      have := (eff_way hE).1
      omega
  · have h' : linkP base n ptr = (l, 0) := h
    unfold linkP at h'
    split at h'
    · rename_i hE
      exact absurd (congrArg Prod.snd h') hE
    · rename_i hE
      have h1 := congrArg Prod.fst h'
      dsimp only at h1
      rw [← h1, wholeL_len]
      exact ⟨refE_bok (show refE base n [] = 0 by omega), by omega⟩
/-- Where a law stands that does a change's stores one by one. -/
structure LA9 (w wr : World) (base : Int) (n : Nd) (k key ptr : Int) (l : List (Int × Int)) (g i : Nat) (m : Nd) : Prop where
  nd : NdAt wr w.heap.size m
  apd : apL base n (l.take i) = some m
  ask : Row wr (w.heap.size + 1) 29 #[.int .i64 k, .int .u64 key, .int .u64 ptr]
  cells : ∀ j u, (flatE l)[j]? = some u → wr.cell? ⟨g, j, none⟩ = some u
  gge : w.heap.size + 1 < g
  glt : g < wr.heap.size
  low : Below w.heap.size w wr
theorem LA9.below {w wr W : World} {base : Int} {n : Nd} {k key ptr : Int} {l : List (Int × Int)} {g i : Nat} {m : Nd} (h : LA9 w wr base n k key ptr l g i m) (hb : Below wr.heap.size wr W) : LA9 w W base n k key ptr l g i m :=
  ⟨h.nd.below hb h.nd.lt, h.apd, h.ask.below hb h.ask.lt, fun j u hu => (hb.cell (p := ⟨g, j, none⟩) h.glt).trans (h.cells j u hu), h.gge, Nat.lt_of_lt_of_le h.glt hb.size, h.low.trans (hb.mono h.low.size)⟩
theorem LA9.store {w wr : World} {base : Int} {n : Nd} {k key ptr : Int} {l : List (Int × Int)} {g i i2 : Nat} {m m2 : Nd} (h : LA9 w wr base n k key ptr l g i m) (h2 : apL base n (l.take i2) = some m2) : LA9 w (wr.setCells w.heap.size 0 m2.cl) base n k key ptr l g i2 m2 :=
  ⟨row_setCells h.nd rfl, h2, row_setCells_other h.ask (by omega) _, fun j u hu => by
    rw [← h.cells j u hu]
    exact World.cell?_of_block (a := ⟨g, j, none⟩) (World.heap_setCells_other _ _ _ _ (by have := h.glt; exact this) (by have := h.gge; dsimp only; omega)), h.gge, by rw [size_setCells]; exact h.glt, setCells_low _ (Nat.le_refl _) h.low⟩
theorem LA9.step {base : Int} {n m : Nd} {l now : List (Int × Int)} {J : Option Nat} (hW : WayJ base n l now J) (hb : bOk base = true) {i : Nat} (hi : i < l.length) (ha : apL base n (l.take i) = some m) :
    m.may 0 false = true ∧ m.es = esAt n.es now J i ∧ ∃ m2 s, l[i]? = some s ∧ apL base n (l.take (i + 1)) = some m2 ∧ ap base m s = some m2 ∧ m2.may 0 false = true ∧ m2.es = esAt n.es now J (i + 1) ∧ applyR base m [(s.1, s.2)] = (m2, 0) := by
  obtain ⟨k1, h1, h2, _⟩ := hW.at_ i (by omega)
  obtain ⟨k2, h3, h4, _⟩ := hW.at_ (i + 1) (by omega)
  rw [h1] at ha
  cases ha
  refine ⟨h2.1, h2.2, k2, l[i], List.getElem?_eq_getElem hi, h3, ?_, h4.1, h4.2, ?_⟩
  all_goals
    have hp : ap base m l[i] = some k2 := by
      rw [List.take_succ_eq_append_getElem hi, apL_app, h1] at h3
      exact h3
  · exact hp
  · unfold applyR
    rw [if_pos hb]
    unfold apL
    rw [show ((l[i].1, l[i].2) : Int × Int) = l[i] from rfl, hp]
    rfl
theorem show_loadN9 {P : Program} {ops : Array Oper} {rest : List Oper} {Q : Exit → Act → World → Prop} {d : Option Nat} {t2 : TypeId} {x : Operand} {ps : String} {af : Array Edge} {g : Option (Nat × Bool)} {a : Act} {w : World} (h : wpList P ops Q (⟨d, .load 27 x, t2, ps, af, g⟩ :: rest) a w) : wpList P ops Q (⟨d, .load 27 x, t2, ps, af, g⟩ :: rest) a w := h
theorem show_storeN9 {P : Program} {ops : Array Oper} {rest : List Oper} {Q : Exit → Act → World → Prop} {d : Option Nat} {t2 : TypeId} {x y : Operand} {ps : String} {af : Array Edge} {a : Act} {w : World} (h : wpList P ops Q (⟨d, .store 27 x y, t2, ps, af, none⟩ :: rest) a w) : wpList P ops Q (⟨d, .store 27 x y, t2, ps, af, none⟩ :: rest) a w := h
set_option maxRecDepth 100000 in
set_option maxHeartbeats 4000000 in
theorem fastEffect_any {base : Int} (hb : 0 ≤ base) (n : Nd) (k key ptr : Int) (w : World) : Calls Try.prog 5 #[.int .u64 base, n.V, .agg #[.int .i64 k, .int .u64 key, .int .u64 ptr]] w fun e w' => e = .returned (.bool true) ∧ Below w.heap.size w w' := by
  have r0 := Row.new w 27 n.cl.toArray
  have r1 := r0.below (alloc_low (w.alloc (.cells n.cl.toArray 27)) (.cells #[.int .i64 k, .int .u64 key, .int .u64 ptr] 29)) r0.lt
  have ra := Row.new (w.alloc (.cells n.cl.toArray 27)) 29 #[.int .i64 k, .int .u64 key, .int .u64 ptr]
  rw [show (w.alloc (.cells n.cl.toArray 27)).heap.size = w.heap.size + 1 by simp] at ra
  have hb0 := low_and (alloc_low w (.cells n.cl.toArray 27)) (alloc_low (w.alloc (.cells n.cl.toArray 27)) (.cells #[.int .i64 k, .int .u64 key, .int .u64 ptr] 29))
  obtain ⟨Wa, hWa⟩ : ∃ Wa, Wa = (w.alloc (.cells n.cl.toArray 27)).alloc (.cells #[.int .i64 k, .int .u64 key, .int .u64 ptr] 29) := ⟨_, rfl⟩
  have hsa : Wa.heap.size = w.heap.size + 2 := by rw [hWa]; simp
  rw [← hWa] at r1 ra hb0
  have HR1 := Lib.hid (show NdAt Wa w.heap.size n from r1)
  have HRA := Lib.hid ra
  have a0 : Wa.cell? ⟨w.heap.size + 1, 0, none⟩ = some (.int .i64 k) := ra.cell 0
  have a1 : Wa.cell? ⟨w.heap.size + 1, 1, none⟩ = some (.int .u64 key) := ra.cell 1
  have a2 : Wa.cell? ⟨w.heap.size + 1, 2, none⟩ = some (.int .u64 ptr) := ra.cell 2
  have HB0 := Lib.hid hb0
  have HWa := Lib.hid hWa
  have HSA := Lib.hid hsa
  have HK := Lib.hid (fun W' => n9known_any W')
  have HM0 := fun W' => made_any hb n k key ptr W'
  obtain ⟨hlen, he0, he7⟩ := askP_ok base n (kd9 k) key ptr
  obtain ⟨hd0, hd6⟩ := kd9_lt k
  have hkd : kd9 k = (IntKind.u64.wrap k).tmod 6 := rfl
  obtain ⟨l, E, hR⟩ : ∃ l E, askP base n (kd9 k) key ptr = (l, E) := ⟨_, _, rfl⟩
  rw [hR] at HM0 hlen he0 he7
  have hlen : l.length ≤ 100 := hlen
  have he0 : 0 ≤ E := he0
  have he7 : E ≤ 7 := he7
  obtain ⟨d, hd⟩ : ∃ d, d = kd9 k := ⟨_, rfl⟩
  rw [← hd] at hR hd0 hd6 hkd
  have HM := Lib.hid (fun W' => (show Calls Try.prog 9 #[.int .u64 base, n.V, .agg #[.int .i64 k, .int .u64 key, .int .u64 ptr]] W' (fun e w' => (∃ v, e = .returned (.tuple #[v, .int .i64 E]) ∧ w'.ownsRow W'.heap.size 45 2 v l.length (flatE l)) ∧ Below W'.heap.size W' w') from HM0 W'))
  clear hWa hb0 r0 r1 ra HM0 hd hsa
  by_cases hE : E = 0
  · subst hE
    obtain ⟨hbok, hpos⟩ := ask_bok hd0 hd6 hR
    obtain ⟨J, hW, hEf, _⟩ := ask_way hd0 hd6 hR
    obtain ⟨L, hL⟩ : ∃ L, L = l.length := ⟨_, rfl⟩
    have HL := Lib.hid hL
    have HPos := Lib.hid hpos
    have HWj := Lib.hid hW
    have HBok := Lib.hid hbok
    have EGa := Lib.hid (enters_of Try.func15 (by kernel_rfl) rfl)
    have EGv := Lib.hid (enters_of Try.func13 (by kernel_rfl) rfl)
    have EGs := Lib.hid (enters_of Try.func17 (by kernel_rfl) rfl)
    have mixed : Try.prog.follows .mixedOrders = true := by kernel_rfl
    rw [← hL] at hlen hEf HM
    clear hL hW hbok hpos hR
    go_enter Try.func5, Try.ntmps5
    go_wp2_with (first
      | (rw [← HWa.out]; go_simp)
      | ((with_reducible refine show_loadN9 ?_); refine wpList_load_mid rfl _ _ rfl w.heap.size 0 rfl n.cl _ (ndR HR1.out) Try.underlying27 rfl ndI ?_)
      | (go_at_call 9; refine (HM.out _).mono ?_; rintro e w1 ⟨⟨v1, rfl, ho1⟩, h1⟩; obtain ⟨g, cap, rfl, hg1, hg2, hcs⟩ := puts_cells (l := l) (by rw [← HL.out]; exact ho1) HPos.out; rw [← HL.out]; have HLE := Lib.hid (show LA9 w w1 base n k key ptr l g 0 n from ⟨HR1.out.below h1 HR1.out.lt, rfl, HRA.out.below h1 HRA.out.lt, hcs, by have := HSA.out; omega, hg2, low_and HB0.out h1⟩); clear ho1 h1 hg1 hg2 hcs))
    go_loopw [9, 10] (fun at_ i wr => ∃ (i' : Nat) (m : Nd), i' ≤ L ∧ i = .int .i64 (i' : Int) ∧ at_ = .int .i64 (atJ J i') ∧ LA9 w wr base n k key ptr l g i' m) (fun _ i _ => L - (intOf i).toNat)
    case atStart => exact ⟨0, n, Nat.zero_le _, rfl, by cases J <;> rfl, HLE.out⟩
    case round =>
      rename World => wr
      obtain ⟨i, m, hi, rfl, rfl, hle⟩ := hrel
      have HLr := Lib.hid hle
      by_cases hlt : i < L
      · obtain ⟨hm1, hes1, m2, ⟨sA, sV⟩, hs, hap2, _, hm2, hes2, hapR⟩ := LA9.step HWj.out HBok.out (by rw [← HL.out]; exact hlt) hle.apd
        obtain ⟨f1, f2⟩ := flatE_at l i _ hs
        have HSt := Lib.hid (show ∀ W, Below wr.heap.size wr W → NdAt W w.heap.size m ∧ W.cell? ⟨g, i * 2, none⟩ = some (.int .u64 sA) ∧ W.cell? ⟨g, i * 2 + 1, none⟩ = some (.int .u64 sV) from fun W hbw => ⟨(HLr.out.below hbw).nd, (HLr.out.below hbw).cells _ _ f1, (HLr.out.below hbw).cells _ _ f2⟩)
        have HAp := Lib.hid (fun W' => (show Calls Try.prog 15 #[.int .u64 base, m.V, .agg #[.int .u64 sA, .int .u64 sV]] W' (fun e w' => e = .returned (.tuple #[m2.V, .int .i64 0]) ∧ Below W'.heap.size W' w') from by
          have := r9apply_any hb m sA sV W'
          rw [hapR] at this
          exact this))
        have HAP2 := Lib.hid hap2
        have hgl := hle.glt
        have HES := Lib.hid (show decide (m2.es = m.es) = decide (J ≠ some i) from by
          rw [hes1, hes2]
          exact esAt_step HWj.out.lt i)
        have HAT := Lib.hid (atJ_step J i)
        have hilen : decide ((i : Int) < (L : Int)) = true := by rw [decide_eq_true_eq]; omega
        clear hle hm1 hes1 hs hap2 hm2 hes2 hapR f1 f2
        go_upto_region 8 with (fail)
        go_cut [11, 12] (fun s11 s12 wx => ∃ p, s11 = .pointer (some ⟨p, 0, none⟩) ∧ s12 = .int .i64 0 ∧ NdAt wx p m2 ∧ wr.heap.size ≤ p ∧ Below wr.heap.size wr wx)
        case first =>
          refine wp_region_held_drew (S := fun W' => NdAt W' w.heap.size m ∧ W'.cell? ⟨g, i * 2, none⟩ = some (.int .u64 sA) ∧ W'.cell? ⟨g, i * 2 + 1, none⟩ = some (.int .u64 sV)) (by kernel_rfl) (HSt.out _ (drew_low9 _)) (fun hHeld => ?_)
          refine wpAnyH_take (i := 0) (oi := ⟨some 30, _, _, _, _, _⟩) (v := .int .u64 base) rfl (by kernel_rfl) (by kernel_rfl) (by kernel_rfl) (fun _ _ _ h => h) (Or.inl ⟨by rfl, by intro WW hSw; (try dsimp only at hSw); go_simp⟩) (by assumption) ?_
          (try simp only [Act.put, List.setIfInBounds_toArray, List.set_cons_zero, List.set_cons_succ])
          refine wpAnyH_take (i := 1) (oi := ⟨some 31, _, _, _, _, _⟩) (v := .agg m.cl.toArray) rfl (by kernel_rfl) (by kernel_rfl) (by kernel_rfl) (fun _ _ _ h => h) (yieldsIf_load_mid (by rfl) _ _ rfl w.heap.size 0 rfl m.cl _ (fun w' hw' => ndR hw'.1) Try.underlying27 rfl ndI) (by assumption) ?_
          (try simp only [Act.put, List.setIfInBounds_toArray, List.set_cons_zero, List.set_cons_succ])
          refine wpAnyH_take (i := 2) (oi := ⟨some 32, _, _, _, _, _⟩) (v := .slice (some ⟨g, 0, none⟩) L cap) rfl (by kernel_rfl) (by kernel_rfl) (by kernel_rfl) (fun _ _ _ h => h) (Or.inl ⟨by rfl, by intro WW hSw; (try dsimp only at hSw); go_simp⟩) (by assumption) ?_
          (try simp only [Act.put, List.setIfInBounds_toArray, List.set_cons_zero, List.set_cons_succ])
          refine wpAnyH_take (i := 3) (oi := ⟨some 33, _, _, _, _, _⟩) (v := .int .i64 (i : Int)) rfl (by kernel_rfl) (by kernel_rfl) (by kernel_rfl) (fun _ _ _ h => h) (Or.inl ⟨by rfl, by intro WW hSw; (try dsimp only at hSw); go_simp⟩) (by assumption) ?_
          (try simp only [Act.put, List.setIfInBounds_toArray, List.set_cons_zero, List.set_cons_succ])
          refine wpAnyH_take (i := 4) (oi := ⟨some 34, _, _, _, _, _⟩) (v := .pointer (some ⟨g, i * 2, none⟩)) rfl (by kernel_rfl) (by kernel_rfl) (by kernel_rfl) (fun _ _ _ h => h) (Or.inl ⟨by rfl, by intro WW hSw; (try dsimp only at hSw); go_simp⟩) (by assumption) ?_
          (try simp only [Act.put, List.setIfInBounds_toArray, List.set_cons_zero, List.set_cons_succ])
          refine wpAnyH_take (i := 5) (oi := ⟨some 35, _, _, _, _, _⟩) (v := .agg #[.int .u64 sA, .int .u64 sV]) rfl (by kernel_rfl) (by kernel_rfl) (by kernel_rfl) (fun _ _ _ h => h) (Or.inl ⟨by rfl, by intro WW hSw; (try dsimp only at hSw); go_simp⟩) (by assumption) ?_
          (try simp only [Act.put, List.setIfInBounds_toArray, List.set_cons_zero, List.set_cons_succ])
          refine wpAnyH_ready (rs := [6, 10]) (by kernel_rfl) (by simp) (AllReadyH.cons (i := 6) (o := ⟨some 36, _, _, _, _, _⟩) rfl (fun K hK => ?_) (AllReadyH.cons (i := 10) (o := ⟨some 11, _, _, _, _, _⟩) rfl (fun K hK => ?_) AllReadyH.nil))
          · refine step_calls (by rfl) 15 EGa.out [.tmp 30, .tmp 31, .tmp 35] _ rfl [.int .u64 base, m.V, .agg #[.int .u64 sA, .int .u64 sV]] rfl (HAp.out _) ?_
            rintro e w2 ⟨rfl, h2⟩
            refine ⟨_, rfl, hK.out _ _ (HSt.out _ (low_and (drew_low9 _) h2)) (fun hSn => ?_)⟩
            clear hK K
            (try simp only [Act.put, List.setIfInBounds_toArray, List.set_cons_zero, List.set_cons_succ])
            refine wpAnyH_take (i := 7) (oi := ⟨some 29, _, _, _, _, _⟩) (v := .tuple #[m2.V, .int .i64 0]) rfl (by kernel_rfl) (by kernel_rfl) (by kernel_rfl) (fun _ _ _ h => h) (Or.inl ⟨by rfl, by intro WW hSw; (try dsimp only at hSw); go_simp⟩) (by assumption) ?_
            (try simp only [Act.put, List.setIfInBounds_toArray, List.set_cons_zero, List.set_cons_succ])
            refine wpAnyH_take (i := 8) (oi := ⟨some 37, _, _, _, _, _⟩) (v := m2.V) rfl (by kernel_rfl) (by kernel_rfl) (by kernel_rfl) (fun _ _ _ h => h) (Or.inl ⟨by rfl, by intro WW hSw; (try dsimp only at hSw); go_simp⟩) (by assumption) ?_
            (try simp only [Act.put, List.setIfInBounds_toArray, List.set_cons_zero, List.set_cons_succ])
            refine wpAnyH_take (i := 9) (oi := ⟨some 38, _, _, _, _, _⟩) (v := .int .i64 0) rfl (by kernel_rfl) (by kernel_rfl) (by kernel_rfl) (fun _ _ _ h => h) (Or.inl ⟨by rfl, by intro WW hSw; (try dsimp only at hSw); go_simp⟩) (by assumption) ?_
            (try simp only [Act.put, List.setIfInBounds_toArray, List.set_cons_zero, List.set_cons_succ])
            refine wpAnyH_one (i := 10) (oi := ⟨some 11, _, _, _, _, _⟩) rfl (by kernel_rfl) (fun K hK => ?_)
            rw [if_pos (by rfl)]
            unfold Oper.wp
            go_simp
            refine hK _ _ (HSt.out _ (low_and (low_and (drew_low9 _) h2) (alloc_low _ _))) (fun hSa => ?_)
            clear hK K
            (try simp only [Act.put, List.setIfInBounds_toArray, List.set_cons_zero, List.set_cons_succ])
            refine wpAnyH_one (i := 11) (oi := ⟨none, _, _, _, _, _⟩) rfl (by kernel_rfl) (fun K hK => ?_)
            rw [if_pos (by rfl)]
            refine wp_store_mid 27 _ _ rfl (w2.heap.size) 0 m2.cl.toArray rfl rfl (row_there (Row.new w2 27 zeroNd.cl.toArray) (Nat.le_refl 21)) ndI (all_oneCell_toArray (cl_one _)) ?_
            refine hK _ _ (HSt.out _ (setCells_low _ ((low_and (drew_low9 wr) h2).size) (low_and (low_and (drew_low9 _) h2) (alloc_low _ _)))) (fun hS2 => ?_)
            clear hK K
            (try simp only [Act.put, List.setIfInBounds_toArray, List.set_cons_zero, List.set_cons_succ])
            refine wpAnyH_take (i := 12) (oi := ⟨some 12, _, _, _, _, _⟩) (v := .int .i64 0) rfl (by kernel_rfl) (by kernel_rfl) (by kernel_rfl) (fun _ _ _ h => h) (Or.inl ⟨by rfl, by intro WW hSw; (try dsimp only at hSw); go_simp⟩) (by assumption) ?_
            (try simp only [Act.put, List.setIfInBounds_toArray, List.set_cons_zero, List.set_cons_succ])
            refine wpAnyH_done (by kernel_rfl) ?_ _
            go_wp2
            go_meet
            exact ⟨w2.heap.size, rfl, rfl, row_setCells (Row.new w2 27 zeroNd.cl.toArray) rfl, (low_and (drew_low9 wr) h2).size, setCells_low m2.cl (low_and (drew_low9 wr) h2).size (low_and (low_and (drew_low9 wr) h2) (alloc_low _ _))⟩
          · rw [if_pos (by rfl)]
            unfold Oper.wp
            go_simp
            refine hK.out _ _ (HSt.out _ (low_and (drew_low9 _) (alloc_low _ _))) (fun hSa => ?_)
            clear hK K
            (try simp only [Act.put, List.setIfInBounds_toArray, List.set_cons_zero, List.set_cons_succ])
            refine wpAnyH_one (i := 6) (oi := ⟨some 36, _, _, _, _, _⟩) rfl (by kernel_rfl) (fun K hK => ?_)
            refine step_calls (by rfl) 15 EGa.out [.tmp 30, .tmp 31, .tmp 35] _ rfl [.int .u64 base, m.V, .agg #[.int .u64 sA, .int .u64 sV]] rfl (HAp.out _) ?_
            rintro e w2 ⟨rfl, h2⟩
            refine ⟨_, rfl, hK _ _ (HSt.out _ (low_and (low_and (drew_low9 _) (alloc_low _ _)) h2)) (fun hSn => ?_)⟩
            clear hK K
            (try simp only [Act.put, List.setIfInBounds_toArray, List.set_cons_zero, List.set_cons_succ])
            refine wpAnyH_take (i := 7) (oi := ⟨some 29, _, _, _, _, _⟩) (v := .tuple #[m2.V, .int .i64 0]) rfl (by kernel_rfl) (by kernel_rfl) (by kernel_rfl) (fun _ _ _ h => h) (Or.inl ⟨by rfl, by intro WW hSw; (try dsimp only at hSw); go_simp⟩) (by assumption) ?_
            (try simp only [Act.put, List.setIfInBounds_toArray, List.set_cons_zero, List.set_cons_succ])
            refine wpAnyH_take (i := 8) (oi := ⟨some 37, _, _, _, _, _⟩) (v := m2.V) rfl (by kernel_rfl) (by kernel_rfl) (by kernel_rfl) (fun _ _ _ h => h) (Or.inl ⟨by rfl, by intro WW hSw; (try dsimp only at hSw); go_simp⟩) (by assumption) ?_
            (try simp only [Act.put, List.setIfInBounds_toArray, List.set_cons_zero, List.set_cons_succ])
            refine wpAnyH_take (i := 9) (oi := ⟨some 38, _, _, _, _, _⟩) (v := .int .i64 0) rfl (by kernel_rfl) (by kernel_rfl) (by kernel_rfl) (fun _ _ _ h => h) (Or.inl ⟨by rfl, by intro WW hSw; (try dsimp only at hSw); go_simp⟩) (by assumption) ?_
            (try simp only [Act.put, List.setIfInBounds_toArray, List.set_cons_zero, List.set_cons_succ])
            refine wpAnyH_one (i := 11) (oi := ⟨none, _, _, _, _, _⟩) rfl (by kernel_rfl) (fun K hK => ?_)
            rw [if_pos (by rfl)]
            refine wp_store_mid 27 _ _ rfl (wr.drew.heap.size) 0 m2.cl.toArray rfl rfl (row_there ((Row.new wr.drew 27 zeroNd.cl.toArray).below h2 (Row.new wr.drew 27 zeroNd.cl.toArray).lt) (Nat.le_refl 21)) ndI (all_oneCell_toArray (cl_one _)) ?_
            refine hK _ _ (HSt.out _ (setCells_low _ (Nat.le_refl _) (low_and (low_and (drew_low9 _) (alloc_low _ _)) h2))) (fun hS2 => ?_)
            clear hK K
            (try simp only [Act.put, List.setIfInBounds_toArray, List.set_cons_zero, List.set_cons_succ])
            refine wpAnyH_take (i := 12) (oi := ⟨some 12, _, _, _, _, _⟩) (v := .int .i64 0) rfl (by kernel_rfl) (by kernel_rfl) (by kernel_rfl) (fun _ _ _ h => h) (Or.inl ⟨by rfl, by intro WW hSw; (try dsimp only at hSw); go_simp⟩) (by assumption) ?_
            (try simp only [Act.put, List.setIfInBounds_toArray, List.set_cons_zero, List.set_cons_succ])
            refine wpAnyH_done (by kernel_rfl) ?_ _
            go_wp2
            go_meet
            exact ⟨wr.drew.heap.size, rfl, rfl, row_setCells ((Row.new wr.drew 27 zeroNd.cl.toArray).below h2 (Row.new wr.drew 27 zeroNd.cl.toArray).lt) rfl, (Nat.le_refl _ : wr.heap.size ≤ wr.drew.heap.size), setCells_low m2.cl (Nat.le_refl _) (low_and (low_and (drew_low9 wr) (alloc_low _ _)) h2)⟩
        case rest =>
          obtain ⟨p, rfl, rfl, hnd2, hp, hbx⟩ := hcut
          rename World => wx
          have HLx := Lib.hid (HLr.out.below hbx)
          have HSv := Lib.hid (show ∀ W, Below wx.heap.size wx W → NdAt W p m2 ∧ NdAt W w.heap.size m from fun W hbw => ⟨hnd2.below hbw hnd2.lt, (HLx.out.below hbw).nd⟩)
          obtain ⟨sm, hsm⟩ : ∃ sm, sm = decide (m2.es = m.es) := ⟨_, rfl⟩
          have HSame := Lib.hid (fun (W : World) (v v' : Value) (h : EntAt W v m2.es) (h' : EntAt W v' m.es) => (show Calls Try.prog 17 #[v, v'] W (fun e w' => e = .returned (.bool sm) ∧ Below W.heap.size W w') from by
            have := same_any h h' (by have := m2.es_len; omega) (by have := m.es_len; omega)
            rw [← hsm] at this
            exact this))
          rw [HES.out] at hsm
          clear HSt HAp HES hnd2 hp hbx
          by_cases hJ : J = some i
          · obtain rfl : sm = false := by rw [hsm]; simp [hJ]
            have hat := atJ_eff J i hJ
            rw [hat]
            have HAT2 := Lib.hid (show atJ J (i + 1) = (i : Int) from by rw [HAT.out, if_pos hJ])
            clear hsm HAT hat
            have HJ := Lib.hid hJ
            clear hJ
            go_wp2_with fail
            refine wp_region_held_drew (S := fun W' => NdAt W' p m2 ∧ NdAt W' w.heap.size m) (by kernel_rfl) (HSv.out _ (drew_low9 _)) (fun hHeld => ?_)
            refine wpAnyH_take (i := 0) (oi := ⟨some 41, _, _, _, _, _⟩) (v := .agg m2.cl.toArray) rfl (by kernel_rfl) (by kernel_rfl) (by kernel_rfl) (fun _ _ _ h => h) (yieldsIf_load_mid (by rfl) _ _ rfl p 0 rfl m2.cl _ (fun w' hw' => ndR hw'.1) Try.underlying27 rfl ndI) (by assumption) ?_
            (try simp only [Act.put, List.setIfInBounds_toArray, List.set_cons_zero, List.set_cons_succ])
            refine wpAnyH_take (i := 2) (oi := ⟨some 43, _, _, _, _, _⟩) (v := .agg m.cl.toArray) rfl (by kernel_rfl) (by kernel_rfl) (by kernel_rfl) (fun _ _ _ h => h) (yieldsIf_load_mid (by rfl) _ _ rfl w.heap.size 0 rfl m.cl _ (fun w' hw' => ndR hw'.2) Try.underlying27 rfl ndI) (by assumption) ?_
            (try simp only [Act.put, List.setIfInBounds_toArray, List.set_cons_zero, List.set_cons_succ])
            refine wpAnyH_one (i := 1) (oi := ⟨some 42, _, _, _, _, _⟩) rfl (by kernel_rfl) (fun K hK => ?_)
            refine step_calls (by rfl) 13 EGv.out [.tmp 41] _ rfl [m2.V] rfl (r8Valid_any m2 _) ?_
            rintro e w3 ⟨⟨v3, rfl, ho3⟩, h3⟩
            have HE3 := Lib.hid (ent_ownG ho3)
            clear ho3
            refine ⟨_, rfl, hK _ _ (HSv.out _ (low_and (drew_low9 _) h3)) (fun hSn => ?_)⟩
            clear hK K
            (try simp only [Act.put, List.setIfInBounds_toArray, List.set_cons_zero, List.set_cons_succ])
            refine wpAnyH_one (i := 3) (oi := ⟨some 44, _, _, _, _, _⟩) rfl (by kernel_rfl) (fun K hK => ?_)
            refine step_calls (by rfl) 13 EGv.out [.tmp 43] _ rfl [m.V] rfl (r8Valid_any m _) ?_
            rintro e w4 ⟨⟨v4, rfl, ho4⟩, h4⟩
            have HE4 := Lib.hid (ent_ownG ho4)
            have HE34 := Lib.hid (HE3.out.low h4)
            clear ho4
            refine ⟨_, rfl, hK _ _ (HSv.out _ (low_and (low_and (drew_low9 _) h3) h4)) (fun hSn => ?_)⟩
            clear hK K
            (try simp only [Act.put, List.setIfInBounds_toArray, List.set_cons_zero, List.set_cons_succ])
            refine wpAnyH_one (i := 4) (oi := ⟨some 45, _, _, _, _, _⟩) rfl (by kernel_rfl) (fun K hK => ?_)
            refine step_calls (by rfl) 17 EGs.out [.tmp 42, .tmp 44] _ rfl [v3, v4] rfl (HSame.out _ _ _ HE34.out HE4.out) ?_
            rintro e w5 ⟨rfl, h5⟩
            have g5 := low_and (low_and (low_and (drew_low9 wx) h3) h4) h5
            refine ⟨_, rfl, hK _ _ (HSv.out _ (low_and (low_and (low_and (drew_low9 _) h3) h4) h5)) (fun hSn => ?_)⟩
            clear hK K
            (try simp only [Act.put, List.setIfInBounds_toArray, List.set_cons_zero, List.set_cons_succ])
            refine wpAnyH_take (i := 5) (oi := ⟨some 46, _, _, _, _, _⟩) (v := .bool true) rfl (by kernel_rfl) (by kernel_rfl) (by kernel_rfl) (fun _ _ _ h => h) (Or.inl ⟨by rfl, by intro WW hSw; (try dsimp only at hSw); go_simp⟩) (by assumption) ?_
            (try simp only [Act.put, List.setIfInBounds_toArray, List.set_cons_zero, List.set_cons_succ])
            refine wpAnyH_done (by kernel_rfl) ?_ _
            have HLy := Lib.hid (HLx.out.below g5)
            have HN2 := Lib.hid (HSv.out _ g5).1
            clear HSv HSame hSn hHeld
            go_wp2_with (first
              | ((with_reducible refine show_loadN9 ?_); refine wpList_load_mid rfl _ _ rfl p 0 rfl m2.cl _ (ndR HN2.out) Try.underlying27 rfl ndI ?_)
              | ((with_reducible refine show_storeN9 ?_); refine wpList_store_row rfl _ _ _ rfl w.heap.size m2.cl rfl rfl HLy.out.nd rfl ndI (cl_one _) ?_))
            exact ⟨⟨i + 1, m2, by omega, by go_num, by rw [HAT2.out], HLy.out.store HAP2.out⟩, by simp [intOf]; omega⟩
          · obtain rfl : sm = true := by rw [hsm]; simp [hJ]
            have HAT2 := Lib.hid (show atJ J (i + 1) = atJ J i from by rw [HAT.out, if_neg hJ])
            clear hsm HAT
            have HJ := Lib.hid hJ
            clear hJ
            obtain ⟨aV, haV⟩ : ∃ aV, aV = atJ J i := ⟨_, rfl⟩
            rw [← haV] at HAT2 ⊢
            clear haV
            go_wp2_with fail
            refine wp_region_held_drew (S := fun W' => NdAt W' p m2 ∧ NdAt W' w.heap.size m) (by kernel_rfl) (HSv.out _ (drew_low9 _)) (fun hHeld => ?_)
            refine wpAnyH_take (i := 0) (oi := ⟨some 41, _, _, _, _, _⟩) (v := .agg m2.cl.toArray) rfl (by kernel_rfl) (by kernel_rfl) (by kernel_rfl) (fun _ _ _ h => h) (yieldsIf_load_mid (by rfl) _ _ rfl p 0 rfl m2.cl _ (fun w' hw' => ndR hw'.1) Try.underlying27 rfl ndI) (by assumption) ?_
            (try simp only [Act.put, List.setIfInBounds_toArray, List.set_cons_zero, List.set_cons_succ])
            refine wpAnyH_take (i := 2) (oi := ⟨some 43, _, _, _, _, _⟩) (v := .agg m.cl.toArray) rfl (by kernel_rfl) (by kernel_rfl) (by kernel_rfl) (fun _ _ _ h => h) (yieldsIf_load_mid (by rfl) _ _ rfl w.heap.size 0 rfl m.cl _ (fun w' hw' => ndR hw'.2) Try.underlying27 rfl ndI) (by assumption) ?_
            (try simp only [Act.put, List.setIfInBounds_toArray, List.set_cons_zero, List.set_cons_succ])
            refine wpAnyH_one (i := 1) (oi := ⟨some 42, _, _, _, _, _⟩) rfl (by kernel_rfl) (fun K hK => ?_)
            refine step_calls (by rfl) 13 EGv.out [.tmp 41] _ rfl [m2.V] rfl (r8Valid_any m2 _) ?_
            rintro e w3 ⟨⟨v3, rfl, ho3⟩, h3⟩
            have HE3 := Lib.hid (ent_ownG ho3)
            clear ho3
            refine ⟨_, rfl, hK _ _ (HSv.out _ (low_and (drew_low9 _) h3)) (fun hSn => ?_)⟩
            clear hK K
            (try simp only [Act.put, List.setIfInBounds_toArray, List.set_cons_zero, List.set_cons_succ])
            refine wpAnyH_one (i := 3) (oi := ⟨some 44, _, _, _, _, _⟩) rfl (by kernel_rfl) (fun K hK => ?_)
            refine step_calls (by rfl) 13 EGv.out [.tmp 43] _ rfl [m.V] rfl (r8Valid_any m _) ?_
            rintro e w4 ⟨⟨v4, rfl, ho4⟩, h4⟩
            have HE4 := Lib.hid (ent_ownG ho4)
            have HE34 := Lib.hid (HE3.out.low h4)
            clear ho4
            refine ⟨_, rfl, hK _ _ (HSv.out _ (low_and (low_and (drew_low9 _) h3) h4)) (fun hSn => ?_)⟩
            clear hK K
            (try simp only [Act.put, List.setIfInBounds_toArray, List.set_cons_zero, List.set_cons_succ])
            refine wpAnyH_one (i := 4) (oi := ⟨some 45, _, _, _, _, _⟩) rfl (by kernel_rfl) (fun K hK => ?_)
            refine step_calls (by rfl) 17 EGs.out [.tmp 42, .tmp 44] _ rfl [v3, v4] rfl (HSame.out _ _ _ HE34.out HE4.out) ?_
            rintro e w5 ⟨rfl, h5⟩
            have g5 := low_and (low_and (low_and (drew_low9 wx) h3) h4) h5
            refine ⟨_, rfl, hK _ _ (HSv.out _ (low_and (low_and (low_and (drew_low9 _) h3) h4) h5)) (fun hSn => ?_)⟩
            clear hK K
            (try simp only [Act.put, List.setIfInBounds_toArray, List.set_cons_zero, List.set_cons_succ])
            refine wpAnyH_take (i := 5) (oi := ⟨some 46, _, _, _, _, _⟩) (v := .bool false) rfl (by kernel_rfl) (by kernel_rfl) (by kernel_rfl) (fun _ _ _ h => h) (Or.inl ⟨by rfl, by intro WW hSw; (try dsimp only at hSw); go_simp⟩) (by assumption) ?_
            (try simp only [Act.put, List.setIfInBounds_toArray, List.set_cons_zero, List.set_cons_succ])
            refine wpAnyH_done (by kernel_rfl) ?_ _
            have HLy := Lib.hid (HLx.out.below g5)
            have HN2 := Lib.hid (HSv.out _ g5).1
            clear HSv HSame hSn hHeld
            go_wp2_with (first
              | ((with_reducible refine show_loadN9 ?_); refine wpList_load_mid rfl _ _ rfl p 0 rfl m2.cl _ (ndR HN2.out) Try.underlying27 rfl ndI ?_)
              | ((with_reducible refine show_storeN9 ?_); refine wpList_store_row rfl _ _ _ rfl w.heap.size m2.cl rfl rfl HLy.out.nd rfl ndI (cl_one _) ?_))
            exact ⟨⟨i + 1, m2, by omega, by go_num, by rw [HAT2.out], HLy.out.store HAP2.out⟩, by simp [intOf]; omega⟩
      · have hiL : i = L := by omega
        have b0 : wr.cell? ⟨w.heap.size + 1, 0, none⟩ = some (.int .i64 k) := hle.ask.cell 0
        have hnl : decide ((i : Int) < (L : Int)) = false := by rw [decide_eq_false_iff_not]; omega
        have hAt : (d = 0 ∧ 2 ≤ L ∧ atJ J i = (L : Int) - 2) ∨ ((d = 1 ∨ d = 3 ∨ d = 4) ∧ atJ J i = 1) ∨ ((d = 2 ∨ d = 5) ∧ atJ J i = -1) := by
          rw [hiL]
          rcases hEf with ⟨h1, h2, h3⟩ | ⟨h1, h3⟩ | ⟨h1, h3⟩
          · refine .inl ⟨h1, h2, ?_⟩
            rw [h3]
            unfold atJ
            dsimp only
            rw [if_neg (by omega)]
            omega
          · refine .inr (.inl ⟨h1, ?_⟩)
            have := (HWj.out.lt 1 h3).1
            rw [← HL.out] at this
            rw [h3]
            unfold atJ
            dsimp only
            rw [if_neg (by omega)]
            rfl
          · refine .inr (.inr ⟨h1, ?_⟩)
            rw [h3]
            rfl
        obtain ⟨aV, haV⟩ : ∃ aV, aV = atJ J i := ⟨_, rfl⟩
        rw [← haV] at hAt ⊢
        have HKr := Lib.hid (HK.out wr)
        clear haV hle hEf hiL
        rcases hAt with ⟨rfl, h2L, hA⟩ | ⟨rfl | rfl | rfl, hA⟩ | ⟨rfl | rfl, hA⟩
        · have hq : (aV == (L : Int) - 2) = true := by rw [hA]; simp
          have t0 : ((IntKind.u64.wrap k).tmod 6 == 0) = true := by rw [← hkd]; rfl
          have t1 : ((IntKind.u64.wrap k).tmod 6 == 1) = false := by rw [← hkd]; rfl
          have t2 : ((IntKind.u64.wrap k).tmod 6 == 2) = false := by rw [← hkd]; rfl
          have t3 : ((IntKind.u64.wrap k).tmod 6 == 3) = false := by rw [← hkd]; rfl
          have t4 : ((IntKind.u64.wrap k).tmod 6 == 4) = false := by rw [← hkd]; rfl
          have t5 : ((IntKind.u64.wrap k).tmod 6 == 5) = false := by rw [← hkd]; rfl
          clear hA hkd
          go_wp2_with (go_at_call 12; refine HKr.out.mono ?_; rintro e w9 ⟨rfl, h9⟩)
          go_ret
          exact ⟨rfl, low_and HLr.out.low h9⟩
        · have hq : (aV == 1) = true := by rw [hA]; simp
          have t0 : ((IntKind.u64.wrap k).tmod 6 == 0) = false := by rw [← hkd]; rfl
          have t1 : ((IntKind.u64.wrap k).tmod 6 == 1) = true := by rw [← hkd]; rfl
          have t2 : ((IntKind.u64.wrap k).tmod 6 == 2) = false := by rw [← hkd]; rfl
          have t3 : ((IntKind.u64.wrap k).tmod 6 == 3) = false := by rw [← hkd]; rfl
          have t4 : ((IntKind.u64.wrap k).tmod 6 == 4) = false := by rw [← hkd]; rfl
          have t5 : ((IntKind.u64.wrap k).tmod 6 == 5) = false := by rw [← hkd]; rfl
          clear hA hkd
          go_wp2_with (go_at_call 12; refine HKr.out.mono ?_; rintro e w9 ⟨rfl, h9⟩)
          go_ret
          exact ⟨rfl, low_and HLr.out.low h9⟩
        · have hq : (aV == 1) = true := by rw [hA]; simp
          have t0 : ((IntKind.u64.wrap k).tmod 6 == 0) = false := by rw [← hkd]; rfl
          have t1 : ((IntKind.u64.wrap k).tmod 6 == 1) = false := by rw [← hkd]; rfl
          have t2 : ((IntKind.u64.wrap k).tmod 6 == 2) = false := by rw [← hkd]; rfl
          have t3 : ((IntKind.u64.wrap k).tmod 6 == 3) = true := by rw [← hkd]; rfl
          have t4 : ((IntKind.u64.wrap k).tmod 6 == 4) = false := by rw [← hkd]; rfl
          have t5 : ((IntKind.u64.wrap k).tmod 6 == 5) = false := by rw [← hkd]; rfl
          clear hA hkd
          go_wp2_with (go_at_call 12; refine HKr.out.mono ?_; rintro e w9 ⟨rfl, h9⟩)
          go_ret
          exact ⟨rfl, low_and HLr.out.low h9⟩
        · have hq : (aV == 1) = true := by rw [hA]; simp
          have t0 : ((IntKind.u64.wrap k).tmod 6 == 0) = false := by rw [← hkd]; rfl
          have t1 : ((IntKind.u64.wrap k).tmod 6 == 1) = false := by rw [← hkd]; rfl
          have t2 : ((IntKind.u64.wrap k).tmod 6 == 2) = false := by rw [← hkd]; rfl
          have t3 : ((IntKind.u64.wrap k).tmod 6 == 3) = false := by rw [← hkd]; rfl
          have t4 : ((IntKind.u64.wrap k).tmod 6 == 4) = true := by rw [← hkd]; rfl
          have t5 : ((IntKind.u64.wrap k).tmod 6 == 5) = false := by rw [← hkd]; rfl
          clear hA hkd
          go_wp2_with (go_at_call 12; refine HKr.out.mono ?_; rintro e w9 ⟨rfl, h9⟩)
          go_ret
          exact ⟨rfl, low_and HLr.out.low h9⟩
        · have hq : (aV == -1) = true := by rw [hA]; simp
          have t0 : ((IntKind.u64.wrap k).tmod 6 == 0) = false := by rw [← hkd]; rfl
          have t1 : ((IntKind.u64.wrap k).tmod 6 == 1) = false := by rw [← hkd]; rfl
          have t2 : ((IntKind.u64.wrap k).tmod 6 == 2) = true := by rw [← hkd]; rfl
          have t3 : ((IntKind.u64.wrap k).tmod 6 == 3) = false := by rw [← hkd]; rfl
          have t4 : ((IntKind.u64.wrap k).tmod 6 == 4) = false := by rw [← hkd]; rfl
          have t5 : ((IntKind.u64.wrap k).tmod 6 == 5) = false := by rw [← hkd]; rfl
          clear hA hkd
          go_wp2_with (go_at_call 12; refine HKr.out.mono ?_; rintro e w9 ⟨rfl, h9⟩)
          go_ret
          exact ⟨rfl, low_and HLr.out.low h9⟩
        · have hq : (aV == -1) = true := by rw [hA]; simp
          have t0 : ((IntKind.u64.wrap k).tmod 6 == 0) = false := by rw [← hkd]; rfl
          have t1 : ((IntKind.u64.wrap k).tmod 6 == 1) = false := by rw [← hkd]; rfl
          have t2 : ((IntKind.u64.wrap k).tmod 6 == 2) = false := by rw [← hkd]; rfl
          have t3 : ((IntKind.u64.wrap k).tmod 6 == 3) = false := by rw [← hkd]; rfl
          have t4 : ((IntKind.u64.wrap k).tmod 6 == 4) = false := by rw [← hkd]; rfl
          have t5 : ((IntKind.u64.wrap k).tmod 6 == 5) = true := by rw [← hkd]; rfl
          clear hA hkd
          go_wp2_with (go_at_call 12; refine HKr.out.mono ?_; rintro e w9 ⟨rfl, h9⟩)
          go_ret
          exact ⟨rfl, low_and HLr.out.low h9⟩
  · have hE1 : (E != 0) = true := by simpa using hE
    clear hR hkd
    have hr0 := Below.refl Wa.heap.size Wa
    go_enter Try.func5, Try.ntmps5
    go_wp2_with (first
      | (rw [← HWa.out]; go_simp)
      | ((with_reducible refine show_loadN9 ?_); refine wpList_load_mid rfl _ _ rfl w.heap.size 0 rfl n.cl _ (ndR HR1.out) Try.underlying27 rfl ndI ?_)
      | (go_at_call 9; refine (HM.out _).mono ?_; rintro e w1 ⟨⟨v1, rfl, ho1⟩, h1⟩; have HB1 := Lib.hid h1; clear h1 ho1)
      | (go_at_call 12; refine (HK.out _).mono ?_; rintro e w4 ⟨rfl, h4⟩; have HB4 := Lib.hid h4; clear h4))
    go_ret
    exact ⟨rfl, low_and (low_and HB0.out HB1.out) HB4.out⟩
end Go.Proofs.Ytbadlmicbbjkaaa
/- The laws of layer 9 as their rows want them: FastEffect. -/
namespace Go.Proofs.Ytbadlmicbbjkaaa
open Go.RowKit
set_option linter.unusedVariables false
theorem effect_all (a0 a1_0 a1_1 a1_2 a1_3 a1_4 a1_5 a1_6 a1_7 a1_8 a1_9 a1_10 a1_11 a1_12 a1_13 a1_14 a1_15 a1_16 a1_17 a1_18 a1_19 a1_20 : Int) (a2_0 a2_1 a2_2 : Int) (W : World) (w0 : (Lit.int .u64 a0).wf = true) (w1_0 : (Lit.int .i64 a1_0).wf = true) (w1_1 : (Lit.int .u64 a1_1).wf = true) (w1_2 : (Lit.int .u64 a1_2).wf = true) (w1_3 : (Lit.int .u64 a1_3).wf = true) (w1_4 : (Lit.int .u64 a1_4).wf = true) (w1_5 : (Lit.int .u64 a1_5).wf = true) (w1_6 : (Lit.int .u64 a1_6).wf = true) (w1_7 : (Lit.int .u64 a1_7).wf = true) (w1_8 : (Lit.int .u64 a1_8).wf = true) (w1_9 : (Lit.int .u64 a1_9).wf = true) (w1_10 : (Lit.int .u64 a1_10).wf = true) (w1_11 : (Lit.int .u64 a1_11).wf = true) (w1_12 : (Lit.int .u64 a1_12).wf = true) (w1_13 : (Lit.int .u64 a1_13).wf = true) (w1_14 : (Lit.int .u64 a1_14).wf = true) (w1_15 : (Lit.int .u64 a1_15).wf = true) (w1_16 : (Lit.int .u64 a1_16).wf = true) (w1_17 : (Lit.int .u64 a1_17).wf = true) (w1_18 : (Lit.int .u64 a1_18).wf = true) (w1_19 : (Lit.int .u64 a1_19).wf = true) (w1_20 : (Lit.int .u64 a1_20).wf = true) (w2_0 : (Lit.int .i64 a2_0).wf = true) (w2_1 : (Lit.int .u64 a2_1).wf = true) (w2_2 : (Lit.int .u64 a2_2).wf = true) :
    Calls Try.prog 5 #[.int .u64 a0, .agg #[.int .i64 a1_0, .int .u64 a1_1, .int .u64 a1_2, .int .u64 a1_3, .int .u64 a1_4, .int .u64 a1_5, .int .u64 a1_6, .int .u64 a1_7, .int .u64 a1_8, .int .u64 a1_9, .int .u64 a1_10, .int .u64 a1_11, .int .u64 a1_12, .int .u64 a1_13, .int .u64 a1_14, .int .u64 a1_15, .int .u64 a1_16, .int .u64 a1_17, .int .u64 a1_18, .int .u64 a1_19, .int .u64 a1_20], .agg #[.int .i64 a2_0, .int .u64 a2_1, .int .u64 a2_2]] W fun e W' => e = .returned (.bool true) ∧ Below W.heap.size W W' := fastEffect_any (u64_wf' w0).1 (Nd.mk a1_0 a1_1 a1_2 a1_3 a1_4 a1_5 a1_6 a1_7 a1_8 a1_9 a1_10 a1_11 a1_12 a1_13 a1_14 a1_15 a1_16 a1_17 a1_18 a1_19 a1_20) a2_0 a2_1 a2_2 W
end Go.Proofs.Ytbadlmicbbjkaaa
