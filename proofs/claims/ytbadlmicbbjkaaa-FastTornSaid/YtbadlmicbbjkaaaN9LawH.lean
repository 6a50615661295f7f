/- FastHolds: the law is true of any base, any node, any change that is asked for; conditions: numbers of the width. -/
import Derived.Test.YtbadlmicbbjkaaaN9Bh
namespace Go.Proofs.Ytbadlmicbbjkaaa
open Go.RowKit
set_option linter.unusedVariables false
set_option linter.unusedSimpArgs false
attribute [local go_sem] Oper.semAt_some
/-- A row or a struct read behind a guard that says yes, or with no guard. -/
theorem load_mg9 {P : Program} {ops : Array Oper} {rest : List Oper} {op : Oper} {a : Act} {w : World} {Q : Exit → Act → World → Prop} (hw : Region.wanted op (yielded ops a.tmps) = true) (ty : TypeId) (x : Operand) (ho : op.op = .load ty x)
    (b o : Nat) (hx : a.eval x = .pointer (some ⟨b, o, none⟩)) (cs : List Value) (d : TypeDesc) (hc : w.rangeAt b o cs)
    (hu : P.underlying ty = some d) (hd : d.isRow = true) (hi : (P.info? ty).map (·.size) = some cs.length)
    (h : wpList P ops Q rest (a.put op.dst (.agg cs.toArray)) w) : wpList P ops Q (op :: rest) a w :=
  wpList_step fun K hK => by
    rw [if_pos hw]
    exact wp_load_mid ty x ho b o hx cs d hc hu hd hi (hK _ _ h)
theorem same_is {w : World} {v v' : Value} {l m : List (Int × Int)} (h : EntAt w v l) (h' : EntAt w v' m) (hl : l.length ≤ 1000) (hm : m.length ≤ 1000) {b : Bool} (hb : decide (l = m) = b) : Calls Try.prog 17 #[v, v'] w fun e w' => e = .returned (.bool b) ∧ Below w.heap.size w w' := by
  have := same_any h h' (by omega) (by omega)
  rw [hb] at this
  exact this
/-- Entries that lie above a block. -/
def OwnE (b0 : Nat) (W : World) (v : Value) (l : List (Int × Int)) : Prop := ∃ B, b0 < B ∧ W.ownsRow B 67 2 v l.length (flatE l)
theorem OwnE.low {b0 : Nat} {W W' : World} {v : Value} {l : List (Int × Int)} (h : OwnE b0 W v l) (hb : Below W.heap.size W W') : OwnE b0 W' v l := by
  obtain ⟨B, h1, h2⟩ := h
  exact ⟨B, h1, ownS_low h2 hb⟩
theorem OwnE.ent {b0 : Nat} {W : World} {v : Value} {l : List (Int × Int)} (h : OwnE b0 W v l) : EntAt W v l := by
  obtain ⟨B, h1, h2⟩ := h
  exact ent_ownG h2
theorem OwnE.set {b0 : Nat} {W : World} {v : Value} {l : List (Int × Int)} (h : OwnE b0 W v l) (vs : List Value) : OwnE b0 (W.setCells b0 0 vs) v l := by
  obtain ⟨B, h1, h2, h3⟩ := h
  refine ⟨B, h1, h2, ?_⟩
  rcases h3 with h3 | ⟨g, cap, cur, e, hb, hh, r⟩
  · exact .inl h3
  · exact .inr ⟨g, cap, cur, e, hb, (World.heap_setCells_other _ _ _ _ (Array.getElem?_eq_some_iff.1 hh).1 (by omega)).trans hh, r⟩
/-- Whether the effect was done. -/
def doneJ (J : Option Nat) (i : Nat) : Bool := match J with
  | none => false
  | some j => decide (j < i)
theorem doneJ_cases {es now : List (Int × Int)} {J : Option Nat} {len : Nat} (hJ : ∀ j, J = some j → j < len ∧ now ≠ es) (i : Nat) :
    (doneJ J i = false ∧ esAt es now J (i + 1) = es ∧ doneJ J (i + 1) = false) ∨ (doneJ J i = false ∧ esAt es now J (i + 1) = now ∧ now ≠ es ∧ doneJ J (i + 1) = true) ∨ (doneJ J i = true ∧ esAt es now J (i + 1) = now ∧ doneJ J (i + 1) = true) := by
  cases J with
  | none => exact .inl ⟨rfl, rfl, rfl⟩
  | some j =>
    have hne := (hJ j rfl).2
    unfold doneJ esAt
    dsimp only
    by_cases h1 : j < i
    · refine .inr (.inr ⟨by simpa using h1, by rw [if_neg (by omega)], by simp; omega⟩)
    · by_cases h2 : j = i
      · refine .inr (.inl ⟨by simp; omega, by rw [if_neg (by omega)], hne, by simp; omega⟩)
      · refine .inl ⟨by simp; omega, by rw [if_pos (by omega)], by simp; omega⟩
theorem way_end {base : Int} {n m : Nd} {l now : List (Int × Int)} {J : Option Nat} (hW : WayJ base n l now J) (hn : J = none → now = n.es) (ha : apL base n (l.take l.length) = some m) : m.es = now ∧ m.inv = -1 := by
  obtain ⟨k, h1, h2, h3⟩ := hW.at_ l.length (Nat.le_refl _)
  rw [ha] at h1
  cases h1
  refine ⟨?_, h3 rfl⟩
  rw [h2.2]
  cases J with
  | none => exact (hn rfl).symm
  | some j =>
    unfold esAt
    dsimp only
    rw [if_neg (by have := (hW.lt j rfl).1; omega)]
theorem way_len {base : Int} {n : Nd} {l now : List (Int × Int)} {J : Option Nat} (hW : WayJ base n l now J) (hn : J = none → now = n.es) : now.length ≤ 8 := by
  obtain ⟨k, h1, _, _⟩ := hW.at_ l.length (Nat.le_refl _)
  rw [← (way_end hW hn h1).1]
  exact k.es_len
set_option maxRecDepth 100000 in
set_option maxHeartbeats 16000000 in
theorem fastHolds_any {base : Int} (hb : 0 ≤ base) (n : Nd) (k key ptr : Int) (w : World) : Calls Try.prog 4 #[.int .u64 base, n.V, .agg #[.int .i64 k, .int .u64 key, .int .u64 ptr]] w fun e w' => e = .returned (.bool true) ∧ Below w.heap.size w w' := by
  have r0 := Row.new w 27 n.cl.toArray
  have r1 := r0.below (alloc_low (w.alloc (.cells n.cl.toArray 27)) (.cells #[.int .i64 k, .int .u64 key, .int .u64 ptr] 29)) r0.lt
  have ra := Row.new (w.alloc (.cells n.cl.toArray 27)) 29 #[.int .i64 k, .int .u64 key, .int .u64 ptr]
  rw [show (w.alloc (.cells n.cl.toArray 27)).heap.size = w.heap.size + 1 by simp] at ra
  have hb0 := low_and (alloc_low w (.cells n.cl.toArray 27)) (alloc_low (w.alloc (.cells n.cl.toArray 27)) (.cells #[.int .i64 k, .int .u64 key, .int .u64 ptr] 29))
  obtain ⟨Wa, hWa⟩ : ∃ Wa, Wa = (w.alloc (.cells n.cl.toArray 27)).alloc (.cells #[.int .i64 k, .int .u64 key, .int .u64 ptr] 29) := ⟨_, rfl⟩
  have hsa : Wa.heap.size = w.heap.size + 2 := by rw [hWa]; simp
  rw [← hWa] at r1 ra hb0
  have HR1 := Lib.hid (show NdAt Wa w.heap.size n from r1)
  have HRA := Lib.hid ra
  have a0 : Wa.cell? ⟨w.heap.size + 1, 0, none⟩ = some (.int .i64 k) := ra.cell 0
  have a1 : Wa.cell? ⟨w.heap.size + 1, 1, none⟩ = some (.int .u64 key) := ra.cell 1
  have a2 : Wa.cell? ⟨w.heap.size + 1, 2, none⟩ = some (.int .u64 ptr) := ra.cell 2
  have HB0 := Lib.hid hb0
  have HWa := Lib.hid hWa
  have HSA := Lib.hid hsa
  have HK := Lib.hid (fun W' => n9known_any W')
  have HM0 := fun W' => made_any hb n k key ptr W'
  obtain ⟨hlen, he0, he7⟩ := askP_ok base n (kd9 k) key ptr
  obtain ⟨hd0, hd6⟩ := kd9_lt k
  have hkd : kd9 k = (IntKind.u64.wrap k).tmod 6 := rfl
  obtain ⟨l, E, hR⟩ : ∃ l E, askP base n (kd9 k) key ptr = (l, E) := ⟨_, _, rfl⟩
  rw [hR] at HM0 hlen he0 he7
  have hlen : l.length ≤ 100 := hlen
  have he0 : 0 ≤ E := he0
  have he7 : E ≤ 7 := he7
  obtain ⟨d, hd⟩ : ∃ d, d = kd9 k := ⟨_, rfl⟩
  rw [← hd] at hR hd0 hd6 hkd
  have HM := Lib.hid (fun W' => (show Calls Try.prog 9 #[.int .u64 base, n.V, .agg #[.int .i64 k, .int .u64 key, .int .u64 ptr]] W' (fun e w' => (∃ v, e = .returned (.tuple #[v, .int .i64 E]) ∧ w'.ownsRow W'.heap.size 45 2 v l.length (flatE l)) ∧ Below W'.heap.size W' w') from HM0 W'))
  have hdk := hd
  clear hWa hb0 r0 r1 ra HM0 hd hsa
  by_cases hE : E = 0
  · subst hE
    obtain ⟨hbok, hpos⟩ := ask_bok hd0 hd6 hR
    obtain ⟨J, hW, hEf, hJn⟩ := ask_way hd0 hd6 hR
    obtain ⟨now, hnow⟩ : ∃ now, now = bhL d key ptr (decide (d = 0)) n.es := ⟨_, rfl⟩
    have HBH := Lib.hid (fun W => (show Calls Try.prog 14 #[n.V, .agg #[.int .i64 k, .int .u64 key, .int .u64 ptr]] W (fun e w' => (∃ v, e = .returned v ∧ w'.ownsRow W.heap.size 67 2 v now.length (flatE now)) ∧ Below W.heap.size W w') from by
      have := behind9_any n k key ptr W
      rw [← hdk, ← hnow] at this
      exact this))
    rw [← hnow] at hW hJn
    obtain ⟨L, hL⟩ : ∃ L, L = l.length := ⟨_, rfl⟩
    have HL := Lib.hid hL
    have HPos := Lib.hid hpos
    have HWj := Lib.hid hW
    have HJn := Lib.hid hJn
    have HBok := Lib.hid hbok
    have EGa := Lib.hid (enters_of Try.func15 (by kernel_rfl) rfl)
    have EGv := Lib.hid (enters_of Try.func13 (by kernel_rfl) rfl)
    have EGb := Lib.hid (enters_of Try.func14 (by kernel_rfl) rfl)
    have mixed : Try.prog.follows .mixedOrders = true := by kernel_rfl
    have hnl := way_len hW hJn
    rw [← hL] at hlen hEf HM
    clear hL hW hbok hpos hR hJn hnow hEf hdk
    go_enter Try.func4, Try.ntmps4
    go_wp2_with (first
      | (rw [← HWa.out]; go_simp)
      | ((with_reducible refine show_loadN9 ?_); refine wpList_load_mid rfl _ _ rfl w.heap.size 0 rfl n.cl _ (ndR HR1.out) Try.underlying27 rfl ndI ?_)
      | (go_at_call 9; refine (HM.out _).mono ?_; rintro e w1 ⟨⟨v1, rfl, ho1⟩, h1⟩; obtain ⟨g, cap, rfl, hg1, hg2, hcs⟩ := puts_cells (l := l) (by rw [← HL.out]; exact ho1) HPos.out; rw [← HL.out]; have HLE := Lib.hid (show LA9 w w1 base n k key ptr l g 0 n from ⟨HR1.out.below h1 HR1.out.lt, rfl, HRA.out.below h1 HRA.out.lt, hcs, by have := HSA.out; omega, hg2, low_and HB0.out h1⟩); clear ho1 h1 hg1 hg2 hcs))
    go_upto_region 4 with (fail)
    go_cut [9, 10] (fun s9 s10 wx => LA9 w wx base n k key ptr l g 0 n ∧ OwnE w.heap.size wx s9 n.es ∧ OwnE w.heap.size wx s10 now)
    case first =>
      have HSq := Lib.hid (show ∀ W, Below w1.heap.size w1 W → NdAt W w.heap.size n ∧ W.cell? ⟨w.heap.size + 1, 0, none⟩ = some (.int .i64 k) ∧ W.cell? ⟨w.heap.size + 1, 1, none⟩ = some (.int .u64 key) ∧ W.cell? ⟨w.heap.size + 1, 2, none⟩ = some (.int .u64 ptr) from fun W hb => ⟨(HLE.out.below hb).nd, (HLE.out.below hb).ask.cell 0, (HLE.out.below hb).ask.cell 1, (HLE.out.below hb).ask.cell 2⟩)
      refine wp_region_held_drew (S := fun W' => NdAt W' w.heap.size n ∧ W'.cell? ⟨w.heap.size + 1, 0, none⟩ = some (.int .i64 k) ∧ W'.cell? ⟨w.heap.size + 1, 1, none⟩ = some (.int .u64 key) ∧ W'.cell? ⟨w.heap.size + 1, 2, none⟩ = some (.int .u64 ptr)) (by kernel_rfl) (HSq.out _ (drew_low9 _)) (fun hHeld => ?_)
      refine wpAnyH_take (i := 0) (oi := ⟨some 26, _, _, _, _, _⟩) (v := .agg n.cl.toArray) rfl (by kernel_rfl) (by kernel_rfl) (by kernel_rfl) (fun _ _ _ h => h) (yieldsIf_load_mid (by rfl) _ _ rfl w.heap.size 0 rfl n.cl _ (fun w' hw' => ndR hw'.1) Try.underlying27 rfl ndI) (by assumption) ?_
      (try simp only [Act.put, List.setIfInBounds_toArray, List.set_cons_zero, List.set_cons_succ])
      refine wpAnyH_take (i := 2) (oi := ⟨some 28, _, _, _, _, _⟩) (v := .agg n.cl.toArray) rfl (by kernel_rfl) (by kernel_rfl) (by kernel_rfl) (fun _ _ _ h => h) (yieldsIf_load_mid (by rfl) _ _ rfl w.heap.size 0 rfl n.cl _ (fun w' hw' => ndR hw'.1) Try.underlying27 rfl ndI) (by assumption) ?_
      (try simp only [Act.put, List.setIfInBounds_toArray, List.set_cons_zero, List.set_cons_succ])
      refine wpAnyH_take (i := 3) (oi := ⟨some 29, _, _, _, _, _⟩) (v := .agg #[.int .i64 k, .int .u64 key, .int .u64 ptr]) rfl (by kernel_rfl) (by kernel_rfl) (by kernel_rfl) (fun _ _ _ h => h) (Or.inl ⟨by rfl, by intro WW hSw; (try dsimp only at hSw); go_simp⟩) (by assumption) ?_
      (try simp only [Act.put, List.setIfInBounds_toArray, List.set_cons_zero, List.set_cons_succ])
      refine wpAnyH_one (i := 1) (oi := ⟨some 27, _, _, _, _, _⟩) rfl (by kernel_rfl) (fun K hK => ?_)
      refine step_calls (by rfl) 13 EGv.out [.tmp 26] _ rfl [n.V] rfl (r8Valid_any n _) ?_
      rintro e w3 ⟨⟨v3, rfl, ho3⟩, h3⟩
      have HO3 := Lib.hid ho3
      clear ho3
      refine ⟨_, rfl, hK _ _ (HSq.out _ (low_and (drew_low9 _) h3)) (fun hSn => ?_)⟩
      clear hK K
      (try simp only [Act.put, List.setIfInBounds_toArray, List.set_cons_zero, List.set_cons_succ])
      refine wpAnyH_one (i := 4) (oi := ⟨some 30, _, _, _, _, _⟩) rfl (by kernel_rfl) (fun K hK => ?_)
      refine step_calls (by rfl) 14 EGb.out [.tmp 28, .tmp 29] _ rfl [n.V, .agg #[.int .i64 k, .int .u64 key, .int .u64 ptr]] rfl (HBH.out _) ?_
      rintro e w4 ⟨⟨v4, rfl, ho4⟩, h4⟩
      have HO4 := Lib.hid ho4
      have HO34 := Lib.hid (ownS_low HO3.out h4)
      have g4 := low_and (low_and (drew_low9 w1) h3) h4
      clear ho4
      refine ⟨_, rfl, hK _ _ (HSq.out _ (low_and (low_and (drew_low9 _) h3) h4)) (fun hSn => ?_)⟩
      clear hK K
      (try simp only [Act.put, List.setIfInBounds_toArray, List.set_cons_zero, List.set_cons_succ])
      refine wpAnyH_take (i := 5) (oi := ⟨some 9, _, _, _, _, _⟩) (v := v3) rfl (by kernel_rfl) (by kernel_rfl) (by kernel_rfl) (fun _ _ _ h => h) (Or.inl ⟨by rfl, by intro WW hSw; (try dsimp only at hSw); go_simp⟩) (by assumption) ?_
      (try simp only [Act.put, List.setIfInBounds_toArray, List.set_cons_zero, List.set_cons_succ])
      refine wpAnyH_take (i := 6) (oi := ⟨some 10, _, _, _, _, _⟩) (v := v4) rfl (by kernel_rfl) (by kernel_rfl) (by kernel_rfl) (fun _ _ _ h => h) (Or.inl ⟨by rfl, by intro WW hSw; (try dsimp only at hSw); go_simp⟩) (by assumption) ?_
      (try simp only [Act.put, List.setIfInBounds_toArray, List.set_cons_zero, List.set_cons_succ])
      refine wpAnyH_done (by kernel_rfl) ?_ _
      go_wp2
      go_meet
      have hw1 : w.heap.size < w1.heap.size := HLE.out.nd.lt
      exact ⟨HLE.out.below g4, ⟨_, (show w.heap.size < (World.drew w1).heap.size from hw1), HO34.out⟩, ⟨_, (show w.heap.size < w3.heap.size from Nat.lt_of_lt_of_le hw1 (low_and (drew_low9 w1) h3).size), HO4.out⟩⟩
    case rest =>
      obtain ⟨hLE2, hW9, hN10⟩ := hcut
      rename World => w2
      have HLE2 := Lib.hid hLE2
      have HW9 := Lib.hid hW9
      have HN10 := Lib.hid hN10
      clear hLE2 hW9 hN10
      go_wp2_with fail
      go_loopw [11, 12] (fun dn i wr => ∃ (i' : Nat) (m : Nd), i' ≤ L ∧ i = .int .i64 (i' : Int) ∧ dn = .bool (doneJ J i') ∧ LA9 w wr base n k key ptr l g i' m ∧ OwnE w.heap.size wr u9 n.es ∧ OwnE w.heap.size wr u10 now) (fun _ i _ => L - (intOf i).toNat)
      case atStart => exact ⟨0, n, Nat.zero_le _, rfl, by cases J <;> simp [doneJ], HLE2.out, HW9.out, HN10.out⟩
      case round =>
        rename World => wr
        obtain ⟨i, m, hi, rfl, rfl, hle, hOw, hOn⟩ := hrel
        have HLr := Lib.hid hle
        have HOw := Lib.hid hOw
        have HOn := Lib.hid hOn
        by_cases hlt : i < L
        · obtain ⟨hm1, hes1, m2, ⟨sA, sV⟩, hs, hap2, _, hm2, hes2, hapR⟩ := LA9.step HWj.out HBok.out (by rw [← HL.out]; exact hlt) hle.apd
          obtain ⟨f1, f2⟩ := flatE_at l i _ hs
          have HSt := Lib.hid (show ∀ W, Below wr.heap.size wr W → NdAt W w.heap.size m ∧ W.cell? ⟨g, i * 2, none⟩ = some (.int .u64 sA) ∧ W.cell? ⟨g, i * 2 + 1, none⟩ = some (.int .u64 sV) from fun W hbw => ⟨(HLr.out.below hbw).nd, (HLr.out.below hbw).cells _ _ f1, (HLr.out.below hbw).cells _ _ f2⟩)
          have HAp := Lib.hid (fun W' => (show Calls Try.prog 15 #[.int .u64 base, m.V, .agg #[.int .u64 sA, .int .u64 sV]] W' (fun e w' => e = .returned (.tuple #[m2.V, .int .i64 0]) ∧ Below W'.heap.size W' w') from by
            have := r9apply_any hb m sA sV W'
            rw [hapR] at this
            exact this))
          have HAP2 := Lib.hid hap2
          have hgl := hle.glt
          have HDJ := Lib.hid (doneJ_cases (es := n.es) (now := now) HWj.out.lt i)
          have HES2 := Lib.hid hes2
          have HMY := Lib.hid (fun W => (show Calls Try.prog 16 #[m2.V, .int .u64 0, .bool false] W (fun e w' => e = .returned (.bool true) ∧ Below W.heap.size W w') from by
            have := r8May_any m2 0 false W
            rw [hm2] at this
            exact this))
          have hilen : decide ((i : Int) < (L : Int)) = true := by rw [decide_eq_true_eq]; omega
          clear hle hOw hOn hm1 hes1 hs hap2 hm2 hes2 hapR f1 f2
          go_upto_region 9 with (fail)
          go_cut [13, 14] (fun s13 s14 wx => ∃ p, s13 = .pointer (some ⟨p, 0, none⟩) ∧ s14 = .int .i64 0 ∧ NdAt wx p m2 ∧ wr.heap.size ≤ p ∧ Below wr.heap.size wr wx)
          case first =>
            refine wp_region_held_drew (S := fun W' => NdAt W' w.heap.size m ∧ W'.cell? ⟨g, i * 2, none⟩ = some (.int .u64 sA) ∧ W'.cell? ⟨g, i * 2 + 1, none⟩ = some (.int .u64 sV)) (by kernel_rfl) (HSt.out _ (drew_low9 _)) (fun hHeld => ?_)
            refine wpAnyH_take (i := 0) (oi := ⟨some 38, _, _, _, _, _⟩) (v := .int .u64 base) rfl (by kernel_rfl) (by kernel_rfl) (by kernel_rfl) (fun _ _ _ h => h) (Or.inl ⟨by rfl, by intro WW hSw; (try dsimp only at hSw); go_simp⟩) (by assumption) ?_
            (try simp only [Act.put, List.setIfInBounds_toArray, List.set_cons_zero, List.set_cons_succ])
            refine wpAnyH_take (i := 1) (oi := ⟨some 39, _, _, _, _, _⟩) (v := .agg m.cl.toArray) rfl (by kernel_rfl) (by kernel_rfl) (by kernel_rfl) (fun _ _ _ h => h) (yieldsIf_load_mid (by rfl) _ _ rfl w.heap.size 0 rfl m.cl _ (fun w' hw' => ndR hw'.1) Try.underlying27 rfl ndI) (by assumption) ?_
            (try simp only [Act.put, List.setIfInBounds_toArray, List.set_cons_zero, List.set_cons_succ])
            refine wpAnyH_take (i := 2) (oi := ⟨some 40, _, _, _, _, _⟩) (v := .slice (some ⟨g, 0, none⟩) L cap) rfl (by kernel_rfl) (by kernel_rfl) (by kernel_rfl) (fun _ _ _ h => h) (Or.inl ⟨by rfl, by intro WW hSw; (try dsimp only at hSw); go_simp⟩) (by assumption) ?_
            (try simp only [Act.put, List.setIfInBounds_toArray, List.set_cons_zero, List.set_cons_succ])
            refine wpAnyH_take (i := 3) (oi := ⟨some 41, _, _, _, _, _⟩) (v := .int .i64 (i : Int)) rfl (by kernel_rfl) (by kernel_rfl) (by kernel_rfl) (fun _ _ _ h => h) (Or.inl ⟨by rfl, by intro WW hSw; (try dsimp only at hSw); go_simp⟩) (by assumption) ?_
            (try simp only [Act.put, List.setIfInBounds_toArray, List.set_cons_zero, List.set_cons_succ])
            refine wpAnyH_take (i := 4) (oi := ⟨some 42, _, _, _, _, _⟩) (v := .pointer (some ⟨g, i * 2, none⟩)) rfl (by kernel_rfl) (by kernel_rfl) (by kernel_rfl) (fun _ _ _ h => h) (Or.inl ⟨by rfl, by intro WW hSw; (try dsimp only at hSw); go_simp⟩) (by assumption) ?_
            (try simp only [Act.put, List.setIfInBounds_toArray, List.set_cons_zero, List.set_cons_succ])
            refine wpAnyH_take (i := 5) (oi := ⟨some 43, _, _, _, _, _⟩) (v := .agg #[.int .u64 sA, .int .u64 sV]) rfl (by kernel_rfl) (by kernel_rfl) (by kernel_rfl) (fun _ _ _ h => h) (Or.inl ⟨by rfl, by intro WW hSw; (try dsimp only at hSw); go_simp⟩) (by assumption) ?_
            (try simp only [Act.put, List.setIfInBounds_toArray, List.set_cons_zero, List.set_cons_succ])
            refine wpAnyH_ready (rs := [6, 10]) (by kernel_rfl) (by simp) (AllReadyH.cons (i := 6) (o := ⟨some 44, _, _, _, _, _⟩) rfl (fun K hK => ?_) (AllReadyH.cons (i := 10) (o := ⟨some 13, _, _, _, _, _⟩) rfl (fun K hK => ?_) AllReadyH.nil))
            · refine step_calls (by rfl) 15 EGa.out [.tmp 38, .tmp 39, .tmp 43] _ rfl [.int .u64 base, m.V, .agg #[.int .u64 sA, .int .u64 sV]] rfl (HAp.out _) ?_
              rintro e w2 ⟨rfl, h2⟩
              refine ⟨_, rfl, hK.out _ _ (HSt.out _ (low_and (drew_low9 _) h2)) (fun hSn => ?_)⟩
              clear hK K
              (try simp only [Act.put, List.setIfInBounds_toArray, List.set_cons_zero, List.set_cons_succ])
              refine wpAnyH_take (i := 7) (oi := ⟨some 37, _, _, _, _, _⟩) (v := .tuple #[m2.V, .int .i64 0]) rfl (by kernel_rfl) (by kernel_rfl) (by kernel_rfl) (fun _ _ _ h => h) (Or.inl ⟨by rfl, by intro WW hSw; (try dsimp only at hSw); go_simp⟩) (by assumption) ?_
              (try simp only [Act.put, List.setIfInBounds_toArray, List.set_cons_zero, List.set_cons_succ])
              refine wpAnyH_take (i := 8) (oi := ⟨some 45, _, _, _, _, _⟩) (v := m2.V) rfl (by kernel_rfl) (by kernel_rfl) (by kernel_rfl) (fun _ _ _ h => h) (Or.inl ⟨by rfl, by intro WW hSw; (try dsimp only at hSw); go_simp⟩) (by assumption) ?_
              (try simp only [Act.put, List.setIfInBounds_toArray, List.set_cons_zero, List.set_cons_succ])
              refine wpAnyH_take (i := 9) (oi := ⟨some 46, _, _, _, _, _⟩) (v := .int .i64 0) rfl (by kernel_rfl) (by kernel_rfl) (by kernel_rfl) (fun _ _ _ h => h) (Or.inl ⟨by rfl, by intro WW hSw; (try dsimp only at hSw); go_simp⟩) (by assumption) ?_
              (try simp only [Act.put, List.setIfInBounds_toArray, List.set_cons_zero, List.set_cons_succ])
              refine wpAnyH_one (i := 10) (oi := ⟨some 13, _, _, _, _, _⟩) rfl (by kernel_rfl) (fun K hK => ?_)
              rw [if_pos (by rfl)]
              unfold Oper.wp
              go_simp
              refine hK _ _ (HSt.out _ (low_and (low_and (drew_low9 _) h2) (alloc_low _ _))) (fun hSa => ?_)
              clear hK K
              (try simp only [Act.put, List.setIfInBounds_toArray, List.set_cons_zero, List.set_cons_succ])
              refine wpAnyH_one (i := 11) (oi := ⟨none, _, _, _, _, _⟩) rfl (by kernel_rfl) (fun K hK => ?_)
              rw [if_pos (by rfl)]
              refine wp_store_mid 27 _ _ rfl (w2.heap.size) 0 m2.cl.toArray rfl rfl (row_there (Row.new w2 27 zeroNd.cl.toArray) (Nat.le_refl 21)) ndI (all_oneCell_toArray (cl_one _)) ?_
              refine hK _ _ (HSt.out _ (setCells_low _ ((low_and (drew_low9 wr) h2).size) (low_and (low_and (drew_low9 _) h2) (alloc_low _ _)))) (fun hS2 => ?_)
              clear hK K
              (try simp only [Act.put, List.setIfInBounds_toArray, List.set_cons_zero, List.set_cons_succ])
              refine wpAnyH_take (i := 12) (oi := ⟨some 14, _, _, _, _, _⟩) (v := .int .i64 0) rfl (by kernel_rfl) (by kernel_rfl) (by kernel_rfl) (fun _ _ _ h => h) (Or.inl ⟨by rfl, by intro WW hSw; (try dsimp only at hSw); go_simp⟩) (by assumption) ?_
              (try simp only [Act.put, List.setIfInBounds_toArray, List.set_cons_zero, List.set_cons_succ])
              refine wpAnyH_done (by kernel_rfl) ?_ _
              go_wp2
              go_meet
              exact ⟨w2.heap.size, rfl, rfl, row_setCells (Row.new w2 27 zeroNd.cl.toArray) rfl, (low_and (drew_low9 wr) h2).size, setCells_low m2.cl (low_and (drew_low9 wr) h2).size (low_and (low_and (drew_low9 wr) h2) (alloc_low _ _))⟩
            · rw [if_pos (by rfl)]
              unfold Oper.wp
              go_simp
              refine hK.out _ _ (HSt.out _ (low_and (drew_low9 _) (alloc_low _ _))) (fun hSa => ?_)
              clear hK K
              (try simp only [Act.put, List.setIfInBounds_toArray, List.set_cons_zero, List.set_cons_succ])
              refine wpAnyH_one (i := 6) (oi := ⟨some 44, _, _, _, _, _⟩) rfl (by kernel_rfl) (fun K hK => ?_)
              refine step_calls (by rfl) 15 EGa.out [.tmp 38, .tmp 39, .tmp 43] _ rfl [.int .u64 base, m.V, .agg #[.int .u64 sA, .int .u64 sV]] rfl (HAp.out _) ?_
              rintro e w2 ⟨rfl, h2⟩
              refine ⟨_, rfl, hK _ _ (HSt.out _ (low_and (low_and (drew_low9 _) (alloc_low _ _)) h2)) (fun hSn => ?_)⟩
              clear hK K
              (try simp only [Act.put, List.setIfInBounds_toArray, List.set_cons_zero, List.set_cons_succ])
              refine wpAnyH_take (i := 7) (oi := ⟨some 37, _, _, _, _, _⟩) (v := .tuple #[m2.V, .int .i64 0]) rfl (by kernel_rfl) (by kernel_rfl) (by kernel_rfl) (fun _ _ _ h => h) (Or.inl ⟨by rfl, by intro WW hSw; (try dsimp only at hSw); go_simp⟩) (by assumption) ?_
              (try simp only [Act.put, List.setIfInBounds_toArray, List.set_cons_zero, List.set_cons_succ])
              refine wpAnyH_take (i := 8) (oi := ⟨some 45, _, _, _, _, _⟩) (v := m2.V) rfl (by kernel_rfl) (by kernel_rfl) (by kernel_rfl) (fun _ _ _ h => h) (Or.inl ⟨by rfl, by intro WW hSw; (try dsimp only at hSw); go_simp⟩) (by assumption) ?_
              (try simp only [Act.put, List.setIfInBounds_toArray, List.set_cons_zero, List.set_cons_succ])
              refine wpAnyH_take (i := 9) (oi := ⟨some 46, _, _, _, _, _⟩) (v := .int .i64 0) rfl (by kernel_rfl) (by kernel_rfl) (by kernel_rfl) (fun _ _ _ h => h) (Or.inl ⟨by rfl, by intro WW hSw; (try dsimp only at hSw); go_simp⟩) (by assumption) ?_
              (try simp only [Act.put, List.setIfInBounds_toArray, List.set_cons_zero, List.set_cons_succ])
              refine wpAnyH_one (i := 11) (oi := ⟨none, _, _, _, _, _⟩) rfl (by kernel_rfl) (fun K hK => ?_)
              rw [if_pos (by rfl)]
              refine wp_store_mid 27 _ _ rfl (wr.drew.heap.size) 0 m2.cl.toArray rfl rfl (row_there ((Row.new wr.drew 27 zeroNd.cl.toArray).below h2 (Row.new wr.drew 27 zeroNd.cl.toArray).lt) (Nat.le_refl 21)) ndI (all_oneCell_toArray (cl_one _)) ?_
              refine hK _ _ (HSt.out _ (setCells_low _ (Nat.le_refl _) (low_and (low_and (drew_low9 _) (alloc_low _ _)) h2))) (fun hS2 => ?_)
              clear hK K
              (try simp only [Act.put, List.setIfInBounds_toArray, List.set_cons_zero, List.set_cons_succ])
              refine wpAnyH_take (i := 12) (oi := ⟨some 14, _, _, _, _, _⟩) (v := .int .i64 0) rfl (by kernel_rfl) (by kernel_rfl) (by kernel_rfl) (fun _ _ _ h => h) (Or.inl ⟨by rfl, by intro WW hSw; (try dsimp only at hSw); go_simp⟩) (by assumption) ?_
              (try simp only [Act.put, List.setIfInBounds_toArray, List.set_cons_zero, List.set_cons_succ])
              refine wpAnyH_done (by kernel_rfl) ?_ _
              go_wp2
              go_meet
              exact ⟨wr.drew.heap.size, rfl, rfl, row_setCells ((Row.new wr.drew 27 zeroNd.cl.toArray).below h2 (Row.new wr.drew 27 zeroNd.cl.toArray).lt) rfl, (Nat.le_refl _ : wr.heap.size ≤ wr.drew.heap.size), setCells_low m2.cl (Nat.le_refl _) (low_and (low_and (drew_low9 wr) (alloc_low _ _)) h2)⟩
          case rest =>
            obtain ⟨p, rfl, rfl, hnd2, hp, hbx⟩ := hcut
            rename World => wx
            have HLx := Lib.hid (HLr.out.below hbx)
            have HOwx := Lib.hid (HOw.out.low hbx)
            have HOnx := Lib.hid (HOn.out.low hbx)
            have HNx := Lib.hid hnd2
            have hml := m2.es_len
            have hnel := n.es_len
            clear HSt HAp hnd2 hp hbx
            rcases HDJ.out with ⟨h1, h2, h3⟩ | ⟨h1, h2, hne, h3⟩ | ⟨h1, h2, h3⟩
            · have hes := HES2.out
              rw [h2] at hes
              rw [h1]
              have HS1 := Lib.hid (fun (W : World) (v v' : Value) (h : EntAt W v m2.es) (h' : EntAt W v' n.es) => (show Calls Try.prog 17 #[v, v'] W (fun e w' => e = .returned (.bool true) ∧ Below W.heap.size W w') from same_is h h' (by omega) (by omega) (by rw [hes]; simp)))
              clear hes h1 h2
              go_wp2_with (first
                | ((with_reducible refine show_loadN9 ?_); refine load_mg9 (by rfl) _ _ rfl p 0 rfl m2.cl _ (ndR HNx.out) Try.underlying27 rfl ndI ?_)
                | ((with_reducible refine show_loadN9 ?_); refine load_mg9 (by rfl) _ _ rfl p 0 rfl m2.cl _ (ndR HN5.out) Try.underlying27 rfl ndI ?_)
                | ((with_reducible refine show_loadN9 ?_); refine load_mg9 (by rfl) _ _ rfl w.heap.size 0 rfl m2.cl _ (ndR HL6.out.nd) Try.underlying27 rfl ndI ?_)
                | ((with_reducible refine show_storeN9 ?_); refine wpList_store_row rfl _ _ _ rfl w.heap.size m2.cl rfl rfl HL5.out.nd rfl ndI (cl_one _) ?_; have HL6 := Lib.hid (HL5.out.store HAP2.out); have HW6 := Lib.hid (HW5.out.set m2.cl); have HV6 := Lib.hid (HV5.out.set m2.cl); obtain ⟨W6, hW6⟩ : ∃ W6, W6 = w5.setCells w.heap.size 0 m2.cl := ⟨_, rfl⟩; rw [← hW6] at HL6 HW6 HV6 ⊢; clear hW6)
                | (go_at_call 16; refine (HMY.out _).mono ?_; rintro e w5 ⟨rfl, h5⟩; have HN5 := Lib.hid (HNx.out.below h5 HNx.out.lt); have HL5 := Lib.hid (HLx.out.below h5); have HW5 := Lib.hid (HOwx.out.low h5); have HV5 := Lib.hid (HOnx.out.low h5); clear h5)
                | (go_at_call 13; refine (r8Valid_any m2 _).mono ?_; rintro e w7 ⟨⟨v7, rfl, ho7⟩, h7⟩; have HE7 := Lib.hid (ent_ownG ho7); have HL7 := Lib.hid (HL6.out.below h7); have HW7 := Lib.hid (HW6.out.low h7); have HV7 := Lib.hid (HV6.out.low h7); clear ho7 h7)
                | (go_at_call 17; refine (HS1.out _ _ _ HE7.out HW7.out.ent).mono ?_; rintro e w8 ⟨rfl, h8⟩; have HE8 := Lib.hid (HE7.out.low h8); have HL8 := Lib.hid (HL7.out.below h8); have HW8 := Lib.hid (HW7.out.low h8); have HV8 := Lib.hid (HV7.out.low h8); clear h8))
              exact ⟨⟨i + 1, m2, by omega, by go_num, by rw [h3], HL8.out, HW8.out, HV8.out⟩, by simp [intOf]; omega⟩
            · have hes := HES2.out
              rw [h2] at hes
              rw [h1]
              have HS1 := Lib.hid (fun (W : World) (v v' : Value) (h : EntAt W v m2.es) (h' : EntAt W v' n.es) => (show Calls Try.prog 17 #[v, v'] W (fun e w' => e = .returned (.bool false) ∧ Below W.heap.size W w') from same_is h h' (by omega) (by omega) (by rw [hes]; simpa using hne)))
              have HS2 := Lib.hid (fun (W : World) (v v' : Value) (h : EntAt W v m2.es) (h' : EntAt W v' now) => (show Calls Try.prog 17 #[v, v'] W (fun e w' => e = .returned (.bool true) ∧ Below W.heap.size W w') from same_is h h' (by omega) (by omega) (by rw [hes]; simp)))
              clear hes h1 h2 hne
              go_wp2_with (first
                | ((with_reducible refine show_loadN9 ?_); refine load_mg9 (by rfl) _ _ rfl p 0 rfl m2.cl _ (ndR HNx.out) Try.underlying27 rfl ndI ?_)
                | ((with_reducible refine show_loadN9 ?_); refine load_mg9 (by rfl) _ _ rfl p 0 rfl m2.cl _ (ndR HN5.out) Try.underlying27 rfl ndI ?_)
                | ((with_reducible refine show_loadN9 ?_); refine load_mg9 (by rfl) _ _ rfl w.heap.size 0 rfl m2.cl _ (ndR HL6.out.nd) Try.underlying27 rfl ndI ?_)
                | ((with_reducible refine show_storeN9 ?_); refine wpList_store_row rfl _ _ _ rfl w.heap.size m2.cl rfl rfl HL5.out.nd rfl ndI (cl_one _) ?_; have HL6 := Lib.hid (HL5.out.store HAP2.out); have HW6 := Lib.hid (HW5.out.set m2.cl); have HV6 := Lib.hid (HV5.out.set m2.cl); obtain ⟨W6, hW6⟩ : ∃ W6, W6 = w5.setCells w.heap.size 0 m2.cl := ⟨_, rfl⟩; rw [← hW6] at HL6 HW6 HV6 ⊢; clear hW6)
                | (go_at_call 16; refine (HMY.out _).mono ?_; rintro e w5 ⟨rfl, h5⟩; have HN5 := Lib.hid (HNx.out.below h5 HNx.out.lt); have HL5 := Lib.hid (HLx.out.below h5); have HW5 := Lib.hid (HOwx.out.low h5); have HV5 := Lib.hid (HOnx.out.low h5); clear h5)
                | (go_at_call 13; refine (r8Valid_any m2 _).mono ?_; rintro e w7 ⟨⟨v7, rfl, ho7⟩, h7⟩; have HE7 := Lib.hid (ent_ownG ho7); have HL7 := Lib.hid (HL6.out.below h7); have HW7 := Lib.hid (HW6.out.low h7); have HV7 := Lib.hid (HV6.out.low h7); clear ho7 h7)
                | (go_at_call 17; refine (HS2.out _ _ _ HE8.out HV8.out.ent).mono ?_; rintro e w9 ⟨rfl, h9⟩; have HE9 := Lib.hid (HE8.out.low h9); have HL9 := Lib.hid (HL8.out.below h9); have HW9 := Lib.hid (HW8.out.low h9); have HV9 := Lib.hid (HV8.out.low h9); clear h9)
                | (go_at_call 17; refine (HS1.out _ _ _ HE7.out HW7.out.ent).mono ?_; rintro e w8 ⟨rfl, h8⟩; have HE8 := Lib.hid (HE7.out.low h8); have HL8 := Lib.hid (HL7.out.below h8); have HW8 := Lib.hid (HW7.out.low h8); have HV8 := Lib.hid (HV7.out.low h8); clear h8))
              exact ⟨⟨i + 1, m2, by omega, by go_num, by rw [h3], HL9.out, HW9.out, HV9.out⟩, by simp [intOf]; omega⟩
            · have hes := HES2.out
              rw [h2] at hes
              rw [h1]
              have HS2 := Lib.hid (fun (W : World) (v v' : Value) (h : EntAt W v m2.es) (h' : EntAt W v' now) => (show Calls Try.prog 17 #[v, v'] W (fun e w' => e = .returned (.bool true) ∧ Below W.heap.size W w') from same_is h h' (by omega) (by omega) (by rw [hes]; simp)))
              clear hes h1 h2
              go_wp2_with (first
                | ((with_reducible refine show_loadN9 ?_); refine load_mg9 (by rfl) _ _ rfl p 0 rfl m2.cl _ (ndR HNx.out) Try.underlying27 rfl ndI ?_)
                | ((with_reducible refine show_loadN9 ?_); refine load_mg9 (by rfl) _ _ rfl p 0 rfl m2.cl _ (ndR HN5.out) Try.underlying27 rfl ndI ?_)
                | ((with_reducible refine show_loadN9 ?_); refine load_mg9 (by rfl) _ _ rfl w.heap.size 0 rfl m2.cl _ (ndR HL6.out.nd) Try.underlying27 rfl ndI ?_)
                | ((with_reducible refine show_storeN9 ?_); refine wpList_store_row rfl _ _ _ rfl w.heap.size m2.cl rfl rfl HL5.out.nd rfl ndI (cl_one _) ?_; have HL6 := Lib.hid (HL5.out.store HAP2.out); have HW6 := Lib.hid (HW5.out.set m2.cl); have HV6 := Lib.hid (HV5.out.set m2.cl); obtain ⟨W6, hW6⟩ : ∃ W6, W6 = w5.setCells w.heap.size 0 m2.cl := ⟨_, rfl⟩; rw [← hW6] at HL6 HW6 HV6 ⊢; clear hW6)
                | (go_at_call 16; refine (HMY.out _).mono ?_; rintro e w5 ⟨rfl, h5⟩; have HN5 := Lib.hid (HNx.out.below h5 HNx.out.lt); have HL5 := Lib.hid (HLx.out.below h5); have HW5 := Lib.hid (HOwx.out.low h5); have HV5 := Lib.hid (HOnx.out.low h5); clear h5)
                | (go_at_call 13; refine (r8Valid_any m2 _).mono ?_; rintro e w7 ⟨⟨v7, rfl, ho7⟩, h7⟩; have HE7 := Lib.hid (ent_ownG ho7); have HL7 := Lib.hid (HL6.out.below h7); have HW7 := Lib.hid (HW6.out.low h7); have HV7 := Lib.hid (HV6.out.low h7); clear ho7 h7)
                | (go_at_call 17; refine (HS2.out _ _ _ HE7.out HV7.out.ent).mono ?_; rintro e w8 ⟨rfl, h8⟩; have HE8 := Lib.hid (HE7.out.low h8); have HL8 := Lib.hid (HL7.out.below h8); have HW8 := Lib.hid (HW7.out.low h8); have HV8 := Lib.hid (HV7.out.low h8); clear h8))
              exact ⟨⟨i + 1, m2, by omega, by go_num, by rw [h3], HL8.out, HW8.out, HV8.out⟩, by simp [intOf]; omega⟩
        · have hiL : i = L := by omega
          obtain ⟨hend, hinv⟩ := way_end HWj.out HJn.out (by rw [← HL.out, ← hiL]; exact hle.apd)
          have hnl2 : decide ((i : Int) < (L : Int)) = false := by rw [decide_eq_false_iff_not]; omega
          have hml := m.es_len
          have HS2 := Lib.hid (fun (W : World) (v v' : Value) (h : EntAt W v m.es) (h' : EntAt W v' now) => (show Calls Try.prog 17 #[v, v'] W (fun e w' => e = .returned (.bool true) ∧ Below W.heap.size W w') from same_is h h' (by omega) (by omega) (by rw [hend]; simp)))
          have HIV := Lib.hid (fun W => (show Calls Try.prog 18 #[m.V] W (fun e w' => e = .returned (.int .i64 (-1)) ∧ Below W.heap.size W w') from by
            have := r8Inv_any m W
            rw [hinv] at this
            exact this))
          clear hend hinv hle hOw hOn
          go_wp2_with (first
            | ((with_reducible refine show_loadN9 ?_); refine load_mg9 (by rfl) _ _ rfl w.heap.size 0 rfl m.cl _ (ndR HLr.out.nd) Try.underlying27 rfl ndI ?_)
            | ((with_reducible refine show_loadN9 ?_); refine load_mg9 (by rfl) _ _ rfl w.heap.size 0 rfl m.cl _ (ndR HL4.out.nd) Try.underlying27 rfl ndI ?_)
            | (go_at_call 13; refine (r8Valid_any m _).mono ?_; rintro e w3 ⟨⟨v3, rfl, ho3⟩, h3⟩; have HE3 := Lib.hid (ent_ownG ho3); have HL3 := Lib.hid (HLr.out.below h3); have HV3 := Lib.hid (HOn.out.low h3); clear ho3 h3)
            | (go_at_call 17; refine (HS2.out _ _ _ HE3.out HV3.out.ent).mono ?_; rintro e w4 ⟨rfl, h4⟩; have HL4 := Lib.hid (HL3.out.below h4); clear h4)
            | (go_at_call 18; refine (HIV.out _).mono ?_; rintro e w5 ⟨rfl, h5⟩; have HL5 := Lib.hid (HL4.out.below h5); clear h5)
            | (go_at_call 12; refine (HK.out _).mono ?_; rintro e w9 ⟨rfl, h9⟩))
          go_ret
          exact ⟨rfl, low_and HL5.out.low h9⟩
  · have hE1 : (E != 0) = true := by simpa using hE
    clear hR hkd
    have hr0 := Below.refl Wa.heap.size Wa
    go_enter Try.func4, Try.ntmps4
    go_wp2_with (first
      | (rw [← HWa.out]; go_simp)
      | ((with_reducible refine show_loadN9 ?_); refine wpList_load_mid rfl _ _ rfl w.heap.size 0 rfl n.cl _ (ndR HR1.out) Try.underlying27 rfl ndI ?_)
      | (go_at_call 9; refine (HM.out _).mono ?_; rintro e w1 ⟨⟨v1, rfl, ho1⟩, h1⟩; have HB1 := Lib.hid h1; clear h1 ho1)
      | (go_at_call 12; refine (HK.out _).mono ?_; rintro e w4 ⟨rfl, h4⟩; have HB4 := Lib.hid h4; clear h4))
    go_ret
    exact ⟨rfl, low_and (low_and HB0.out HB1.out) HB4.out⟩
end Go.Proofs.Ytbadlmicbbjkaaa
