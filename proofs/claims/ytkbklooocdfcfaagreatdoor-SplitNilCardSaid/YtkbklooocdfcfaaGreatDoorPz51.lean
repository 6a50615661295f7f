/- Texts of this claim, packed: SpB, SpD, SpF, SpE, SpU, SpW, SpV. -/
import Derived.Test.YtkbklooocdfcfaaGreatDoorPzQ
import Derived.Test.YtkbklooocdfcfaaGreatDoorPz32
import Derived.Test.YtkbklooocdfcfaaGreatDoorPz18
import Derived.Test.YtkbklooocdfcfaaGreatDoorPz49
import Derived.Test.YtkbklooocdfcfaaGreatDoorPz19
import Derived.Test.YtkbklooocdfcfaaGreatDoorPz50
import Derived.Test.YtkbklooocdfcfaaGreatDoorPz26
import Derived.Test.YtkbklooocdfcfaaGreatDoorPz25
import Derived.Test.YtkbklooocdfcfaaGreatDoorPz21
set_option linter.unusedVariables false
set_option maxRecDepth 100000
set_option maxHeartbeats 6400000
namespace Go.Proofs.YtkbklooocdfcfaaGreatDoor
open Go.RowKit
attribute [local go_sem] Oper.semAt_some
theorem spWrong_none {w : World} {g : Nat} {s : SF} {m : Option Addr} (h : SpAt w g s) (hM : Calls Tryz.prog 27 #[.pointer s.si] w fun e w' => e = .returned (.pointer m) /\ w = w') (hZ : Calls Tryz.prog 30 #[.pointer m] w fun e w' => e = .returned (.int .i64 0) /\ w = w') :
  Calls Tryz.prog 10 #[.pointer (some ⟨g, 0, none⟩)] w fun e w' => e = .returned (.int .i64 1) /\ w = w' := by
 have c1 : w.cell? ⟨g, 0, none⟩ = some (.pointer s.si) := Row.cell h 0
 have HM := Lib.hid hM
 have HZ := Lib.hid hZ
 clear h hM hZ
 go_enter Tryz.func10, Tryz.ntmps10
 go_wp2_with fail
 refine HM.out.mono ?_
 rintro e w' ⟨rfl, rfl⟩
 go_wp2_with fail
 refine HZ.out.mono ?_
 rintro e w' ⟨rfl, rfl⟩
 go_wp2_with fail
 go_ret
 exact ⟨rfl, rfl⟩
theorem spWrong_any {w : World} {g : Nat} {s : SF} {m : Option Addr} {z a k : Int} {n : Nd} (hk : k = 0 \/ k = 1) (h : SpAt w g s) (hM : Calls Tryz.prog 27 #[.pointer s.si] w fun e w' => e = .returned (.pointer m) /\ w = w') (hZ : Calls Tryz.prog 30 #[.pointer m] w fun e w' => e = .returned (.int .i64 z) /\ w = w') (hz : z ≠ 0)
  (hA : Calls Tryz.prog 25 #[.pointer s.ho] w fun e w' => e = .returned (.tuple #[.int .u64 a, n.V, .int .i64 k]) /\ Below w.heap.size w w') :
  Calls Tryz.prog 10 #[.pointer (some ⟨g, 0, none⟩)] w fun e w' => e = .returned (.int .i64 k) /\ Below w.heap.size w w' := by
 have c1 : w.cell? ⟨g, 0, none⟩ = some (.pointer s.si) := Row.cell h 0
 have c2 : w.cell? ⟨g, 2, none⟩ = some (.pointer s.ho) := Row.cell h 2
 have HM := Lib.hid hM
 have HZ := Lib.hid hZ
 have HA := Lib.hid hA
 have hz1 : (z == 0) = false := by simpa using hz
 clear h hM hZ hA
 rcases hk with rfl | rfl
 all_goals (
  go_enter Tryz.func10, Tryz.ntmps10
  go_wp2_with fail
  refine HM.out.mono ?_
  rintro e w' ⟨rfl, rfl⟩
  go_wp2_with fail
  refine HZ.out.mono ?_
  rintro e w' ⟨rfl, rfl⟩
  go_wp2_with fail
  refine HA.out.mono ?_
  rintro e w1 ⟨rfl, hb1⟩
  have HB1 := Lib.hid hb1
  clear hb1 c1 c2 HM HZ HA
  go_upto_region 3 with (first
   | ((with_reducible refine show_storeN ?_); refine wpList_store_row rfl _ _ _ rfl w1.heap.size n.cl rfl rfl (Row.new w1 71 zeroNd.cl.toArray) rfl ndI (cl_one _) ?_))
  obtain ⟨W2, hW2, hn2, hb2⟩ := store_ndH w1 n
  (try rw [<- hW2])
  go_ret
  exact ⟨rfl, Below.and HB1.out hb2⟩)
theorem spRun_any {w : World} {g : Nat} {s : SF} {m : Option Addr} {V : Value} {l : List (Nat × Nat)} (h : SpAt w g s) (hM : ∀ W, Below w.heap.size w W -> Calls Tryz.prog 27 #[.pointer s.si] W fun e w' => e = .returned (.pointer m) /\ W = w') (hA : Ahead w V l) (h0 : l ≠ []) (hl : l.length <= 1000) :
  Calls Tryz.prog 40 #[.pointer (some ⟨g, 0, none⟩), V] w fun e w' => (∃ rg V', e = .returned (nextV 79 rg) /\ RunAt w' rg m (RnRS.new s.cl l) V' /\ w.heap.size <= rg /\ ∀ k, V'.ownBlock = some k -> l ≠ [] -> w.heap.size <= k /\ k ≠ rg) /\ Below w.heap.size w w' := by
 have mixed : Tryz.prog.follows .mixedOrders = true := by kernel_rfl
 have c0 : w.cell? ⟨g, 0, none⟩ = some (.pointer s.si) := Row.cell h 0
 have c1 : w.cell? ⟨g, 1, none⟩ = some (.int .i64 s.cl) := Row.cell h 1
 obtain ⟨A, cap, rfl, _, _⟩ := hA.len
 obtain ⟨n, hn⟩ : ∃ n, n = l.length := ⟨_, rfl⟩
 have ca := fun q : LowBy w => q.cell c0
 have cb := fun q : LowBy w => q.cell c1
 rw [<- hn] at hA ⊢
 have HM := Lib.hid hM
 have HR := Lib.hid fun W (hb : Below w.heap.size w W) => rnew_any m s.cl (hA.below hb) (fun e => absurd e h0) (by omega)
 have HST := Lib.hid (show ∀ W, Below w.heap.size w W -> W.cell? ⟨g, 0, none⟩ = some (.pointer s.si) /\ W.cell? ⟨g, 1, none⟩ = some (.int .i64 s.cl) /\ Below w.heap.size w W from fun W hb => ⟨(hb.cell (w.block_lt_of_cell? _ c0)).trans c0, (hb.cell (w.block_lt_of_cell? _ c1)).trans c1, hb⟩)
 have EM := Lib.hid (enters_of Tryz.func27 (by kernel_rfl) rfl)
 have EN := Lib.hid (enters_of Tryz.func78 (by kernel_rfl) rfl)
 have HL0 := Lib.hid h0
 clear h hM hA ca cb c0 c1
 obtain ⟨si, hsi⟩ : ∃ x, x = s.si := ⟨_, rfl⟩
 obtain ⟨cl, hcl⟩ : ∃ x, x = s.cl := ⟨_, rfl⟩
 rw [<- hsi] at HM HST
 rw [<- hcl] at HR HST ⊢
 clear hsi hcl h0
 go_enter Tryz.func40, Tryz.ntmps40
 go_wp2_with fail
 refine wp_region_noPanic ?_
 refine wp_region_held_drew (S := fun W : World => W.cell? ⟨g, 0, none⟩ = some (.pointer si) /\ W.cell? ⟨g, 1, none⟩ = some (.int .i64 cl) /\ Below w.heap.size w W) (by kernel_rfl) (HST.out _ (drew_below _)) (fun hHeld => ?_)
 refine tkH (i := 0) (oi := ⟨some 5, _, _, _, _, _⟩) (v := .pointer (some ⟨g, 0, none⟩)) rfl (Or.inl ⟨by kernel_rfl, by intro WW hSw; obtain ⟨s0, s1, s2⟩ := hSw; go_simp⟩) (by assumption) ?_
 (try simp only [Act.put, q1, q2, q3])
 refine tkH (i := 1) (oi := ⟨some 6, _, _, _, _, _⟩) (v := .pointer (some ⟨g, 0, none⟩)) rfl (Or.inl ⟨by kernel_rfl, by intro WW hSw; obtain ⟨s0, s1, s2⟩ := hSw; go_simp⟩) (by assumption) ?_
 (try simp only [Act.put, q1, q2, q3])
 refine tkH (i := 2) (oi := ⟨some 7, _, _, _, _, _⟩) (v := .pointer (some ⟨g, 0, none⟩)) rfl (Or.inl ⟨by kernel_rfl, by intro WW hSw; obtain ⟨s0, s1, s2⟩ := hSw; go_simp⟩) (by assumption) ?_
 (try simp only [Act.put, q1, q2, q3])
 refine tkH (i := 3) (oi := ⟨some 8, _, _, _, _, _⟩) (v := .pointer si) rfl (Or.inl ⟨by kernel_rfl, by intro WW hSw; obtain ⟨s0, s1, s2⟩ := hSw; go_simp⟩) (by assumption) ?_
 (try simp only [Act.put, q1, q2, q3])
 refine tkH (i := 5) (oi := ⟨some 10, _, _, _, _, _⟩) (v := .pointer (some ⟨g, 0, none⟩)) rfl (Or.inl ⟨by kernel_rfl, by intro WW hSw; obtain ⟨s0, s1, s2⟩ := hSw; go_simp⟩) (by assumption) ?_
 (try simp only [Act.put, q1, q2, q3])
 refine tkH (i := 6) (oi := ⟨some 11, _, _, _, _, _⟩) (v := .pointer (some ⟨g, 0, none⟩)) rfl (Or.inl ⟨by kernel_rfl, by intro WW hSw; obtain ⟨s0, s1, s2⟩ := hSw; go_simp⟩) (by assumption) ?_
 (try simp only [Act.put, q1, q2, q3])
 refine tkH (i := 7) (oi := ⟨some 12, _, _, _, _, _⟩) (v := .pointer (some ⟨g, 1, none⟩)) rfl (Or.inl ⟨by kernel_rfl, by intro WW hSw; obtain ⟨s0, s1, s2⟩ := hSw; go_simp⟩) (by assumption) ?_
 (try simp only [Act.put, q1, q2, q3])
 refine tkH (i := 8) (oi := ⟨some 13, _, _, _, _, _⟩) (v := .int .i64 cl) rfl (Or.inl ⟨by kernel_rfl, by intro WW hSw; obtain ⟨s0, s1, s2⟩ := hSw; go_simp⟩) (by assumption) ?_
 (try simp only [Act.put, q1, q2, q3])
 refine tkH (i := 9) (oi := ⟨some 14, _, _, _, _, _⟩) (v := .slice A n cap) rfl (Or.inl ⟨by kernel_rfl, by intro WW hSw; obtain ⟨s0, s1, s2⟩ := hSw; go_simp⟩) (by assumption) ?_
 (try simp only [Act.put, q1, q2, q3])
 refine wpAnyH_one (i := 4) (oi := ⟨some 9, _, _, _, _, _⟩) rfl (by kernel_rfl) (fun K hK => ?_)
 refine step_calls (by rfl) 27 EM.out [.tmp 8] _ rfl [.pointer si] rfl (HM.out _ (drew_below _)) ?_
 rintro e w1 ⟨rfl, hw1⟩
 have HB1 := Lib.hid (show Below w.heap.size w w1 from by rw [<- hw1]; exact drew_below _)
 clear hw1
 refine ⟨_, rfl, hK _ _ (HST.out _ HB1.out) (fun hHeld => ?_)⟩
 clear hK K
 (try simp only [Act.put, q1, q2, q3])
 refine wpAnyH_one (i := 10) (oi := ⟨some 15, _, _, _, _, _⟩) rfl (by kernel_rfl) (fun K hK => ?_)
 refine step_calls (by rfl) 78 EN.out [.tmp 9, .tmp 13, .tmp 14] _ rfl [.pointer m, .int .i64 cl, .slice A n cap] rfl (HR.out _ HB1.out) ?_
 rintro e w2 ⟨⟨rg, V2, rfl, hra, hrg, hown⟩, hb2⟩
 have HB2 := Lib.hid (Below.and HB1.out hb2)
 have HRA := Lib.hid (And.intro hra (And.intro hrg hown))
 clear hra hrg hown hb2
 refine ⟨_, rfl, hK _ _ (HST.out _ HB2.out) (fun hHeld => ?_)⟩
 clear hK K
 (try simp only [Act.put, q1, q2, q3])
 refine tkH (i := 11) (oi := ⟨some 16, _, _, _, _, _⟩) (v := .func (.func 79) #[.pointer (some ⟨rg, 0, none⟩)] #[]) rfl (Or.inl ⟨by kernel_rfl, by intro WW hSw; obtain ⟨s0, s1, s2⟩ := hSw; go_simp⟩) (by assumption) ?_
 (try simp only [Act.put, q1, q2, q3])
 refine tkH (i := 12) (oi := ⟨some 4, _, _, _, _, _⟩) (v := .func (.func 79) #[.pointer (some ⟨rg, 0, none⟩)] #[]) rfl (Or.inl ⟨by kernel_rfl, by intro WW hSw; obtain ⟨s0, s1, s2⟩ := hSw; go_simp⟩) (by assumption) ?_
 (try simp only [Act.put, q1, q2, q3])
 refine wpAnyH_done (by kernel_rfl) ?_ _
 go_wp2
 (try refine (‹∀ (a : Act) (w : World), Code.wp Tryz.prog _ _ a w -> _›) _ _ ?_)
 go_wp2
 go_ret
 exact ⟨⟨rg, V2, rfl, HRA.out.1, by have := HRA.out.2.1; have := HB1.out.size; omega, fun k hk h => ⟨by have := (HRA.out.2.2 k hk h).1; have := HB1.out.size; omega, (HRA.out.2.2 k hk h).2⟩⟩, HB2.out⟩
theorem spChange_any {w : World} {g : Nat} {s : SF} {V : Value} {k : Int} {Q : Nat -> World -> Prop} (h : SpAt w g s) (hV : ∃ A n c, V = .slice A n c)
  (HR : ∀ W, SpAt W g { s with st := V } -> But w W (fun q => q = g) -> Calls Tryz.prog 40 #[.pointer (some ⟨g, 0, none⟩), V] W fun e w' => (∃ rg, e = .returned (nextV 79 rg) /\ Q rg w')) :
  Calls Tryz.prog 44 #[.pointer (some ⟨g, 0, none⟩), V, .int .i64 k] w fun e w' => (∃ rg, e = .returned (.tuple #[nextV 79 rg, .int .i64 k]) /\ Q rg w') := by
 obtain ⟨A, n, c, rfl⟩ := hV
 have c5 : w.cell? ⟨g, 5, none⟩ = some s.st := Row.cell h 5
 have f5 := Row.free h 5
 obtain ⟨W1, hW1⟩ : ∃ W1, W1 = w.setCell ⟨g, 5, none⟩ (.slice A n c) := ⟨_, rfl⟩
 have HC := Lib.hid (HR W1 (by rw [hW1]; exact h.stores _) (by rw [hW1]; exact hbut1 (But.refl w (fun q => q = g)) 5 _))
 clear h HR
 go_enter Tryz.func44, Tryz.ntmps44
 go_wp2_with fail
 (try rw [<- hW1])
 refine HC.out.mono ?_
 rintro e w2 ⟨rg, rfl, hq⟩
 have HQ := Lib.hid hq
 unfold nextV
 clear hq HC c5 f5 hW1
 go_wp2_with fail
 go_ret2
 exact ⟨rg, rfl, HQ.out⟩
def ChgP (w : World) (g : Nat) (s : SF) (m : Option Addr) (V : Value) (l : List (Nat × Nat)) (rg : Nat) (w' : World) : Prop :=
 SpAt w' g { s with st := V } /\ (∃ V', RunAt w' rg m (RnRS.new s.cl l) V' /\ ∀ k, V'.ownBlock = some k -> l ≠ [] -> w.heap.size <= k /\ k ≠ rg) /\ w.heap.size <= rg /\ But w w' (fun q => q = g)
theorem spChange_run {w : World} {g : Nat} {s : SF} {m : Option Addr} {V : Value} {k : Int} {l : List (Nat × Nat)} (h : SpAt w g s) (hM : ∀ W, But w W (fun q => q = g) -> Calls Tryz.prog 27 #[.pointer s.si] W fun e w' => e = .returned (.pointer m) /\ W = w') (hA : Ahead w V l) (hne : ∀ q, V.ownBlock = some q -> q ≠ g) (h0 : l ≠ []) (hl : l.length <= 1000) :
  Calls Tryz.prog 44 #[.pointer (some ⟨g, 0, none⟩), V, .int .i64 k] w fun e w' => (∃ rg, e = .returned (.tuple #[nextV 79 rg, .int .i64 k]) /\ ChgP w g s m V l rg w') := by
 have hV : ∃ A n c, V = .slice A n c := by
  obtain ⟨A, c, hV, _⟩ := hA.len
  exact ⟨A, _, c, hV⟩
 refine spChange_any h hV fun W h1 hb1 => ?_
 refine (spRun_any (s := { s with st := V }) h1 (fun W2 hb2 => hM W2 (hb1.trans (But.of_below hb2 (fun q => q = g)) fun q hq => .inl hq)) (hA.same fun q hq => hb1.block q (hA.lt h0 hq) (hne q hq)) h0 hl).mono ?_
 rintro e w' ⟨⟨rg, V', rfl, hr, hg, hs⟩, hb⟩
 refine ⟨rg, rfl, h1.below hb, ⟨V', hr, fun q hq h => ⟨Nat.le_trans hb1.size (hs q hq h).1, (hs q hq h).2⟩⟩, Nat.le_trans hb1.size hg, hb1.trans (But.of_below hb (fun q => q = g)) fun q hq => .inl hq⟩
theorem own_ahead {w : World} {B n : Nat} {v : Value} {l : List (Nat × Nat)} (h : w.ownsRow B 165 2 v n (flat l)) (hn : l.length = n) (h0 : l ≠ []) : Ahead w v l := by
 subst hn
 have hp : 0 < l.length := List.length_pos_iff.2 h0
 rcases h.2 with ⟨_, h1⟩ | ⟨g', cap', cur', rfl, hb, hh, h2, h3, h4, h5⟩
 ·omega
 ·refine .inr ⟨h0, g', 0, cap', rfl, by omega, h3, ?_⟩
  intro i u hu
  have := h.cells rfl i u (by simpa using hu)
  rw [Addr.add_lit] at this
  exact this
theorem step_allocN {ops : Array Oper} {o : Oper} {a : Act} {w : World} {K : Act -> World -> Prop} {Q : Exit -> Act -> World -> Prop} {E : Prop} (hgd : o.guard = none) (d : Nat) (hd : o.dst = some d) (ho : o.op = .alloc 71)
  (h : ∀ w' g, g = w.heap.size -> NdAt w' g zeroNd -> Below w.heap.size w w' -> K (a.put (some d) (.pointer (some ⟨g, 0, none⟩))) w') : if Region.wanted o (yielded ops a.tmps) = true then Oper.wp Tryz.prog o a w K Q else E := by
 have hw : Region.wanted o (yielded ops a.tmps) = true := by
  unfold Region.wanted
  rw [hgd]
 rw [if_pos hw]
 have e : (execOp a.eval o).run Tryz.prog w = .ok (.value (.pointer (some ⟨w.heap.size, 0, none⟩))) (w.alloc (.cells zeroNd.cl.toArray 71)) := by
  unfold execOp
  rw [ho]
  rfl
 unfold Oper.wp
 rw [e, Oper.upon_value, hd]
 exact h _ _ rfl (Row.new _ _ _) (alloc_below _ _)
theorem hoApply_yes {w : World} {g : Nat} {s : HF} {V : Value} {l : List (Int × Int)} {M : Nd} (h : HoAt w g s) (hd : s.d = true) (hl : s.lk = true) (hk : s.k = 0) (ha : 0 <= s.at_) (hE : EntAt w V l) (hn : l.length <= 1000) (hwf : ∀ e ∈ l, 0 <= e.1 /\ e.1 < 18446744073709551616) (hr : applyR s.at_ s.n l = (M, 0)) :
  Calls Tryz.prog 31 #[.pointer (some ⟨g, 0, none⟩), V] w fun e w' => e = .returned (.int .i64 0) /\ HoAt w' g { s with n := M } /\ But w w' (fun q => q = g) := by
 have mixed : Tryz.prog.follows .mixedOrders = true := by kernel_rfl
 have EA := Lib.hid (enters_of Tryz.func65 (by kernel_rfl) rfl)
 have HRF := Lib.hid (show Calls Tryz.prog 60 #[.pointer (some ⟨g, 0, none⟩)] w fun e w' => e = .returned (.int .i64 0) /\ w = w' from (hoRefusal_done h hd hk).mono fun e w' ⟨he, hw⟩ => ⟨by rw [he, hl]; rfl, hw⟩)
 have HA := Lib.hid (show ∀ W, Below w.heap.size w W -> Calls Tryz.prog 65 #[.int .u64 s.at_, s.n.V, V] W fun e w' => e = .returned (.tuple #[M.V, .int .i64 0]) /\ Below W.heap.size W w' from fun W hb => by
  have := apply_any ha s.n (hE.low hb) hn hwf
  rw [hr] at this
  exact this)
 obtain ⟨A, cap, rfl, _⟩ := hE
 obtain ⟨m, hm⟩ : ∃ m, m = l.length := ⟨_, rfl⟩
 rw [<- hm] at HA ⊢
 obtain ⟨a, hat⟩ : ∃ x, x = s.at_ := ⟨_, rfl⟩
 obtain ⟨N, hN⟩ : ∃ x, x = s.n := ⟨_, rfl⟩
 rw [<- hat, <- hN] at HA
 have HST := Lib.hid (show ∀ W : World, Below w.heap.size w W -> W.cell? ⟨g, 4, none⟩ = some (.int .u64 a) /\ W.rangeAt g 8 N.cl /\ Below w.heap.size w W from fun W hW => by
  rw [hat, hN]
  exact ⟨Row.cell (h.below hW) 4, (h.below hW).rng, hW⟩)
 have HRG := Lib.hid (show ∀ W : World, (W.cell? ⟨g, 4, none⟩ = some (.int .u64 a) /\ W.rangeAt g 8 N.cl /\ Below w.heap.size w W) -> W.rangeAt g 8 N.cl from fun W h => h.2.1)
 have HH := Lib.hid h
 have HGG := Lib.hid h.lt
 clear h hd hl hk ha hn hwf hr hm hat hN
 go_enter Tryz.func31, Tryz.ntmps31
 go_wp2_with fail
 refine HRF.out.mono ?_
 rintro e w1 ⟨rfl, hw1⟩
 subst hw1
 clear HRF
 go_wp2_with fail
 (try refine (‹∀ (a : Act) (w : World), Code.wp Tryz.prog _ _ a w -> _›) _ _ ?_)
 (try go_wp2_with fail)
 refine wp_region_noPanic ?_
 refine wp_region_held_drew (S := fun W : World => W.cell? ⟨g, 4, none⟩ = some (.int .u64 a) /\ W.rangeAt g 8 N.cl /\ Below w.heap.size w W) (by kernel_rfl) (HST.out _ (drew_below _)) (fun hHeld => ?_)
 refine tkH (i := 0) (oi := ⟨some 14, _, _, _, _, _⟩) (v := .pointer (some ⟨g, 0, none⟩)) rfl (Or.inl ⟨by kernel_rfl, by intro WW hSw; obtain ⟨s4, s8, sb⟩ := hSw; go_simp⟩) (by assumption) ?_
 (try simp only [Act.put, q1, q2, q3])
 refine tkH (i := 1) (oi := ⟨some 15, _, _, _, _, _⟩) (v := .pointer (some ⟨g, 0, none⟩)) rfl (Or.inl ⟨by kernel_rfl, by intro WW hSw; obtain ⟨s4, s8, sb⟩ := hSw; go_simp⟩) (by assumption) ?_
 (try simp only [Act.put, q1, q2, q3])
 refine tkH (i := 2) (oi := ⟨some 16, _, _, _, _, _⟩) (v := .pointer (some ⟨g, 4, none⟩)) rfl (Or.inl ⟨by kernel_rfl, by intro WW hSw; obtain ⟨s4, s8, sb⟩ := hSw; go_simp⟩) (by assumption) ?_
 (try simp only [Act.put, q1, q2, q3])
 refine tkH (i := 3) (oi := ⟨some 17, _, _, _, _, _⟩) (v := .int .u64 a) rfl (Or.inl ⟨by kernel_rfl, by intro WW hSw; obtain ⟨s4, s8, sb⟩ := hSw; go_simp⟩) (by assumption) ?_
 (try simp only [Act.put, q1, q2, q3])
 refine tkH (i := 4) (oi := ⟨some 18, _, _, _, _, _⟩) (v := .pointer (some ⟨g, 0, none⟩)) rfl (Or.inl ⟨by kernel_rfl, by intro WW hSw; obtain ⟨s4, s8, sb⟩ := hSw; go_simp⟩) (by assumption) ?_
 (try simp only [Act.put, q1, q2, q3])
 refine tkH (i := 5) (oi := ⟨some 19, _, _, _, _, _⟩) (v := .pointer (some ⟨g, 0, none⟩)) rfl (Or.inl ⟨by kernel_rfl, by intro WW hSw; obtain ⟨s4, s8, sb⟩ := hSw; go_simp⟩) (by assumption) ?_
 (try simp only [Act.put, q1, q2, q3])
 refine tkH (i := 6) (oi := ⟨some 20, _, _, _, _, _⟩) (v := .pointer (some ⟨g, 8, none⟩)) rfl (Or.inl ⟨by kernel_rfl, by intro WW hSw; obtain ⟨s4, s8, sb⟩ := hSw; go_simp⟩) (by assumption) ?_
 (try simp only [Act.put, q1, q2, q3])
 refine tkH (i := 7) (oi := ⟨some 21, _, _, _, _, _⟩) (v := .agg N.cl.toArray) rfl (yieldsIf_load_mid (by rfl) _ _ rfl g 8 rfl N.cl _ HRG.out Tryz.underlying71 rfl ndI) (by assumption) ?_
 (try simp only [Act.put, q1, q2, q3])
 refine tkH (i := 8) (oi := ⟨some 22, _, _, _, _, _⟩) (v := .slice A m cap) rfl (Or.inl ⟨by kernel_rfl, by intro WW hSw; obtain ⟨s4, s8, sb⟩ := hSw; go_simp⟩) (by assumption) ?_
 (try simp only [Act.put, q1, q2, q3])
 refine wpAnyH_ready (rs := [9, 13]) (by kernel_rfl) (by simp) ?_
 refine AllReadyH.cons (o := ⟨some 23, _, _, _, _, _⟩) rfl (fun K hK => ?_) (AllReadyH.cons (o := ⟨some 5, _, _, _, _, _⟩) rfl (fun K hK => ?_) AllReadyH.nil)
 ·refine step_calls (by rfl) 65 EA.out [.tmp 17, .tmp 21, .tmp 22] _ rfl [.int .u64 a, .agg N.cl.toArray, .slice A m cap] rfl (HA.out _ (drew_below w)) ?_
  rintro e w3 ⟨rfl, hb3⟩
  have HB3 := Lib.hid (Below.and ((drew_below w)) hb3)
  clear hb3
  refine ⟨_, rfl, hK _ _ (HST.out _ HB3.out) (fun hHeld => ?_)⟩
  clear hK K
  (try simp only [Act.put, q1, q2, q3])
  refine tkH (i := 10) (oi := ⟨some 13, _, _, _, _, _⟩) (v := .tuple #[.agg M.cl.toArray, .int .i64 0]) rfl (Or.inl ⟨by kernel_rfl, by intro WW hSw; obtain ⟨s4, s8, sb⟩ := hSw; go_simp⟩) (by assumption) ?_
  (try simp only [Act.put, q1, q2, q3])
  refine tkH (i := 11) (oi := ⟨some 24, _, _, _, _, _⟩) (v := .agg M.cl.toArray) rfl (Or.inl ⟨by kernel_rfl, by intro WW hSw; obtain ⟨s4, s8, sb⟩ := hSw; go_simp⟩) (by assumption) ?_
  (try simp only [Act.put, q1, q2, q3])
  refine tkH (i := 12) (oi := ⟨some 25, _, _, _, _, _⟩) (v := .int .i64 0) rfl (Or.inl ⟨by kernel_rfl, by intro WW hSw; obtain ⟨s4, s8, sb⟩ := hSw; go_simp⟩) (by assumption) ?_
  (try simp only [Act.put, q1, q2, q3])
  refine wpAnyH_one (i := 13) (oi := ⟨some 5, _, _, _, _, _⟩) rfl (by kernel_rfl) (fun K hK => ?_)
  refine step_allocN rfl 5 rfl rfl ?_
  intro wa ga hga hr hb2
  have HB2 := Lib.hid (Below.and (HB3.out) hb2)
  have HGA := Lib.hid hr
  have HGL := Lib.hid (show w.heap.size <= ga from by have := (HB3.out).size; omega)
  clear hr hb2 hga
  refine hK _ _ (HST.out _ HB2.out) (fun hHeld => ?_)
  clear hK K
  (try simp only [Act.put, q1, q2, q3])
  refine wpAnyH_one (i := 14) (oi := ⟨none, _, _, _, _, _⟩) rfl (by kernel_rfl) (fun K hK => ?_)
  refine step_storeNdH (by rfl) (.tmp 5) (.tmp 24) (by rfl) ga M.cl _ (by rfl) (by rfl) HGA.out rfl rfl (cl_one M) ?_
  intro w6 hr6 hb6 hk6
  have HR6 := Lib.hid hr6
  have HB6 := Lib.hid (HB2.out.trans (hb6 _ HGL.out HB2.out.size))
  refine hK _ _ (HST.out w6 HB6.out) (fun hHeld => ?_)
  clear hK K hr6 hb6 hk6
  (try simp only [Act.put, q1, q2, q3])
  refine tkH (i := 15) (oi := ⟨some 6, _, _, _, _, _⟩) (v := .int .i64 0) rfl (Or.inl ⟨by kernel_rfl, by intro WW hSw; obtain ⟨s4, s8, sb⟩ := hSw; go_simp⟩) (by assumption) ?_
  (try simp only [Act.put, q1, q2, q3])
  refine wpAnyH_done (by kernel_rfl) ?_ _
  clear hHeld
  have HN8 := Lib.hid HR6.out
  have H8 := Lib.hid (HH.out.below HB6.out)
  have HTH := Lib.hid (row_thereH (n := 21) (o := 8) H8.out (by show 8 + 21 <= 32; decide))
  go_wp2_with fail
  (try refine (‹∀ (a : Act) (w : World), Code.wp Tryz.prog _ _ a w -> _›) _ _ ?_)
  go_wp2_with (first
   | ((with_reducible refine show_loadN ?_); refine wpList_load_mid rfl _ _ rfl ga 0 rfl M.cl _ (ndR HN8.out) Tryz.underlying71 rfl ndI ?_)
   | ((with_reducible refine show_storeN ?_); refine wpList_store_mid rfl _ _ _ rfl g 8 M.cl.toArray rfl rfl HTH.out ndI (all_oneCell_toArray (cl_one _)) ?_; obtain ⟨W9, hW9⟩ : ∃ W9, W9 = w6.setCells g 8 M.cl := ⟨_, rfl⟩; have H9 := Lib.hid (show HoAt W9 g { s with n := M } from by rw [hW9]; exact H8.out.node M); have HB9 := Lib.hid (show But w6 W9 (fun q => q = g) from by rw [hW9]; exact but_setCells (But.refl w6 _) M.cl 8); (try rw [<- hW9]); clear hW9))
  (try refine (‹∀ (a : Act) (w : World), Code.wp Tryz.prog _ _ a w -> _›) _ _ ?_)
  (try go_wp2)
  go_ret
  exact ⟨rfl, H9.out, (But.of_below HB6.out (fun q => q = g)).trans HB9.out fun q hq => .inl hq⟩
 ·refine step_allocN rfl 5 rfl rfl ?_
  intro wa ga hga hr hb2
  have HB2 := Lib.hid (Below.and ((drew_below w)) hb2)
  have HGA := Lib.hid hr
  have HGL := Lib.hid (show w.heap.size <= ga from by have := ((drew_below w)).size; omega)
  clear hr hb2 hga
  refine hK _ _ (HST.out _ HB2.out) (fun hHeld => ?_)
  clear hK K
  (try simp only [Act.put, q1, q2, q3])
  refine wpAnyH_one (i := 9) (oi := ⟨some 23, _, _, _, _, _⟩) rfl (by kernel_rfl) (fun K hK => ?_)
  refine step_calls (by rfl) 65 EA.out [.tmp 17, .tmp 21, .tmp 22] _ rfl [.int .u64 a, .agg N.cl.toArray, .slice A m cap] rfl (HA.out _ HB2.out) ?_
  rintro e w3 ⟨rfl, hb3⟩
  have HB3 := Lib.hid (Below.and (HB2.out) hb3)
  have HG3 := Lib.hid (HGA.out.below hb3 HGA.out.lt)
  clear hb3
  refine ⟨_, rfl, hK _ _ (HST.out _ HB3.out) (fun hHeld => ?_)⟩
  clear hK K
  (try simp only [Act.put, q1, q2, q3])
  refine tkH (i := 10) (oi := ⟨some 13, _, _, _, _, _⟩) (v := .tuple #[.agg M.cl.toArray, .int .i64 0]) rfl (Or.inl ⟨by kernel_rfl, by intro WW hSw; obtain ⟨s4, s8, sb⟩ := hSw; go_simp⟩) (by assumption) ?_
  (try simp only [Act.put, q1, q2, q3])
  refine tkH (i := 11) (oi := ⟨some 24, _, _, _, _, _⟩) (v := .agg M.cl.toArray) rfl (Or.inl ⟨by kernel_rfl, by intro WW hSw; obtain ⟨s4, s8, sb⟩ := hSw; go_simp⟩) (by assumption) ?_
  (try simp only [Act.put, q1, q2, q3])
  refine tkH (i := 12) (oi := ⟨some 25, _, _, _, _, _⟩) (v := .int .i64 0) rfl (Or.inl ⟨by kernel_rfl, by intro WW hSw; obtain ⟨s4, s8, sb⟩ := hSw; go_simp⟩) (by assumption) ?_
  (try simp only [Act.put, q1, q2, q3])
  refine wpAnyH_one (i := 14) (oi := ⟨none, _, _, _, _, _⟩) rfl (by kernel_rfl) (fun K hK => ?_)
  refine step_storeNdH (by rfl) (.tmp 5) (.tmp 24) (by rfl) ga M.cl _ (by rfl) (by rfl) HG3.out rfl rfl (cl_one M) ?_
  intro w6 hr6 hb6 hk6
  have HR6 := Lib.hid hr6
  have HB6 := Lib.hid (HB3.out.trans (hb6 _ HGL.out HB3.out.size))
  refine hK _ _ (HST.out w6 HB6.out) (fun hHeld => ?_)
  clear hK K hr6 hb6 hk6
  (try simp only [Act.put, q1, q2, q3])
  refine tkH (i := 15) (oi := ⟨some 6, _, _, _, _, _⟩) (v := .int .i64 0) rfl (Or.inl ⟨by kernel_rfl, by intro WW hSw; obtain ⟨s4, s8, sb⟩ := hSw; go_simp⟩) (by assumption) ?_
  (try simp only [Act.put, q1, q2, q3])
  refine wpAnyH_done (by kernel_rfl) ?_ _
  clear hHeld
  have HN8 := Lib.hid HR6.out
  have H8 := Lib.hid (HH.out.below HB6.out)
  have HTH := Lib.hid (row_thereH (n := 21) (o := 8) H8.out (by show 8 + 21 <= 32; decide))
  go_wp2_with fail
  (try refine (‹∀ (a : Act) (w : World), Code.wp Tryz.prog _ _ a w -> _›) _ _ ?_)
  go_wp2_with (first
   | ((with_reducible refine show_loadN ?_); refine wpList_load_mid rfl _ _ rfl ga 0 rfl M.cl _ (ndR HN8.out) Tryz.underlying71 rfl ndI ?_)
   | ((with_reducible refine show_storeN ?_); refine wpList_store_mid rfl _ _ _ rfl g 8 M.cl.toArray rfl rfl HTH.out ndI (all_oneCell_toArray (cl_one _)) ?_; obtain ⟨W9, hW9⟩ : ∃ W9, W9 = w6.setCells g 8 M.cl := ⟨_, rfl⟩; have H9 := Lib.hid (show HoAt W9 g { s with n := M } from by rw [hW9]; exact H8.out.node M); have HB9 := Lib.hid (show But w6 W9 (fun q => q = g) from by rw [hW9]; exact but_setCells (But.refl w6 _) M.cl 8); (try rw [<- hW9]); clear hW9))
  (try refine (‹∀ (a : Act) (w : World), Code.wp Tryz.prog _ _ a w -> _›) _ _ ?_)
  (try go_wp2)
  go_ret
  exact ⟨rfl, H9.out, (But.of_below HB6.out (fun q => q = g)).trans HB9.out fun q hq => .inl hq⟩
theorem eqFnS (w : World) (g : Nat) (fi lb : Array Value) : (binOp .eql 27 (.func (.func g) fi lb) .nilFunc).run Tryz.prog w = .ok (.bool false) w := by kernel_rfl
theorem guardFnS (w : World) (g : Nat) (fi lb : Array Value) (x : Operand) : (eqGuard .eql 27 x (.const .nilFunc) (.func (.func g) fi lb) .nilFunc).run Tryz.prog w = .ok () w := by kernel_rfl
theorem eqNilS (w : World) : (binOp .eql 27 .nilFunc .nilFunc).run Tryz.prog w = .ok (.bool true) w := by kernel_rfl
theorem guardNilS (w : World) (x : Operand) : (eqGuard .eql 27 x (.const .nilFunc) .nilFunc .nilFunc).run Tryz.prog w = .ok () w := by kernel_rfl
theorem spGoOn_more {w : World} {g fu u : Nat} {s : SF} {Q : World -> Prop} (h : SpAt w g s) (hun : s.un = nextV fu u) (hcu : ∀ (w : World) (v : Value), (callFunc fu #[v]).run Tryz.prog w = .ok (.enter fu #[v]) w)
  (HU : Calls Tryz.prog fu #[.pointer (some ⟨u, 0, none⟩)] w fun e w' => e = .returned (.tuple #[.bool false, .int .i64 0]) /\ Q w') :
  Calls Tryz.prog 11 #[.pointer (some ⟨g, 0, none⟩)] w fun e w' => e = .returned (.int .i64 0) /\ Q w' := by
 have c4 : w.cell? ⟨g, 4, none⟩ = some s.un := Row.cell h 4
 rw [hun] at c4
 unfold nextV at c4
 have q1 := fun w => eqFnS w fu #[.pointer (some ⟨u, 0, none⟩)] #[]
 have q2 := fun w => guardFnS w fu #[.pointer (some ⟨u, 0, none⟩)] #[] (.tmp 10)
 have HUU := Lib.hid HU
 clear h hun HU
 go_enter Tryz.func11, Tryz.ntmps11
 go_wp2_with fail
 refine HUU.out.mono ?_
 rintro e w3 ⟨rfl, hq⟩
 have HE := Lib.hid hq
 clear hq HUU c4 q1 q2
 go_wp2_with fail
 go_ret
 exact ⟨rfl, HE.out⟩
theorem spGoOn_last {w : World} {g fu u n c : Nat} {A : Option Addr} {s s' : SF} {P Q : World -> Prop} (h : SpAt w g s) (hun : s.un = nextV fu u) (hcu : ∀ (w : World) (v : Value), (callFunc fu #[v]).run Tryz.prog w = .ok (.enter fu #[v]) w)
  (HU : Calls Tryz.prog fu #[.pointer (some ⟨u, 0, none⟩)] w fun e w' => e = .returned (.tuple #[.bool true, .int .i64 0]) /\ P w') (hP : ∀ w', P w' -> SpAt w' g s) (hrow : s.row = .slice A n c) (hst : ∃ A n c, s.st = .slice A n c)
  (HA : ∀ w', P w' -> ∀ W, Below w'.heap.size w' W -> Calls Tryz.prog 31 #[.pointer s.ho, s.st] W fun e w' => e = .returned (.int .i64 0) /\ Q w') (hQ : ∀ w', Q w' -> SpAt w' g s) :
  Calls Tryz.prog 11 #[.pointer (some ⟨g, 0, none⟩)] w fun e w' => e = .returned (.int .i64 0) /\ ∃ w2, Q w2 /\ But w2 w' (fun q => q = g) /\ SpAt w' g { s with un := .nilFunc, st := .slice none 0 0, d := decide (n = 0) } := by
 have mixed : Tryz.prog.follows .mixedOrders = true := by kernel_rfl
 have EA := Lib.hid (enters_of Tryz.func31 (by kernel_rfl) rfl)
 have c4 : w.cell? ⟨g, 4, none⟩ = some s.un := Row.cell h 4
 rw [hun] at c4
 unfold nextV at c4
 have q1 := fun w => eqFnS w fu #[.pointer (some ⟨u, 0, none⟩)] #[]
 have q2 := fun w => guardFnS w fu #[.pointer (some ⟨u, 0, none⟩)] #[] (.tmp 10)
 have HUU := Lib.hid HU
 have HPP := Lib.hid hP
 have HAA := Lib.hid HA
 have HQQ := Lib.hid hQ
 have HRW := Lib.hid hrow
 have HSI := Lib.hid hst
 clear h hun HU hP HA hQ hrow hst
 go_enter Tryz.func11, Tryz.ntmps11
 go_wp2_with fail
 refine HUU.out.mono ?_
 rintro e w1 ⟨rfl, hp⟩
 have h1 := HPP.out w1 hp
 obtain ⟨ho, hho⟩ : ∃ x, x = s.ho := ⟨_, rfl⟩
 obtain ⟨A5, n5, c5, hV5⟩ := HSI.out
 have HA := Lib.hid (HAA.out w1 hp)
 rw [hV5, <- hho] at HA
 have HST := Lib.hid (show ∀ W, Below w1.heap.size w1 W -> W.cell? ⟨g, 2, none⟩ = some (.pointer ho) /\ W.cell? ⟨g, 5, none⟩ = some (.slice A5 n5 c5) from fun W hb => by
  rw [<- hV5, hho]
  exact ⟨Row.cell (h1.below hb) 2, Row.cell (h1.below hb) 5⟩)
 have HSQ := Lib.hid (show ∀ W, Q W -> W.cell? ⟨g, 2, none⟩ = some (.pointer ho) /\ W.cell? ⟨g, 5, none⟩ = some (.slice A5 n5 c5) from fun W hq => by
  rw [<- hV5, hho]
  exact ⟨Row.cell (HQQ.out W hq) 2, Row.cell (HQQ.out W hq) 5⟩)
 clear hp h1 c4 q1 q2 HUU HPP HAA hho hV5
 go_wp2_with fail
 (try refine (‹∀ (a : Act) (w : World), Code.wp Tryz.prog _ _ a w -> _›) _ _ ?_)
 (try go_wp2_with fail)
 (try refine wp_region_noPanic ?_)
 refine wp_region_held_drew (S := fun W : World => W.cell? ⟨g, 2, none⟩ = some (.pointer ho) /\ W.cell? ⟨g, 5, none⟩ = some (.slice A5 n5 c5)) (by kernel_rfl) (HST.out _ (drew_below _)) (fun hHeld => ?_)
 refine tkH (i := 0) (oi := ⟨some 52, _, _, _, _, _⟩) (v := .pointer (some ⟨g, 0, none⟩)) rfl (Or.inl ⟨by kernel_rfl, by intro WW hSw; obtain ⟨s2, s5⟩ := hSw; go_simp⟩) (by assumption) ?_
 (try simp only [Act.put, q1, q2, q3])
 refine tkH (i := 1) (oi := ⟨some 53, _, _, _, _, _⟩) (v := .pointer (some ⟨g, 0, none⟩)) rfl (Or.inl ⟨by kernel_rfl, by intro WW hSw; obtain ⟨s2, s5⟩ := hSw; go_simp⟩) (by assumption) ?_
 (try simp only [Act.put, q1, q2, q3])
 refine tkH (i := 2) (oi := ⟨some 54, _, _, _, _, _⟩) (v := .pointer (some ⟨g, 2, none⟩)) rfl (Or.inl ⟨by kernel_rfl, by intro WW hSw; obtain ⟨s2, s5⟩ := hSw; go_simp⟩) (by assumption) ?_
 (try simp only [Act.put, q1, q2, q3])
 refine tkH (i := 3) (oi := ⟨some 55, _, _, _, _, _⟩) (v := .pointer ho) rfl (Or.inl ⟨by kernel_rfl, by intro WW hSw; obtain ⟨s2, s5⟩ := hSw; go_simp⟩) (by assumption) ?_
 (try simp only [Act.put, q1, q2, q3])
 refine tkH (i := 4) (oi := ⟨some 56, _, _, _, _, _⟩) (v := .pointer (some ⟨g, 0, none⟩)) rfl (Or.inl ⟨by kernel_rfl, by intro WW hSw; obtain ⟨s2, s5⟩ := hSw; go_simp⟩) (by assumption) ?_
 (try simp only [Act.put, q1, q2, q3])
 refine tkH (i := 5) (oi := ⟨some 57, _, _, _, _, _⟩) (v := .pointer (some ⟨g, 0, none⟩)) rfl (Or.inl ⟨by kernel_rfl, by intro WW hSw; obtain ⟨s2, s5⟩ := hSw; go_simp⟩) (by assumption) ?_
 (try simp only [Act.put, q1, q2, q3])
 refine tkH (i := 6) (oi := ⟨some 58, _, _, _, _, _⟩) (v := .pointer (some ⟨g, 5, none⟩)) rfl (Or.inl ⟨by kernel_rfl, by intro WW hSw; obtain ⟨s2, s5⟩ := hSw; go_simp⟩) (by assumption) ?_
 (try simp only [Act.put, q1, q2, q3])
 refine tkH (i := 7) (oi := ⟨some 59, _, _, _, _, _⟩) (v := (.slice A5 n5 c5)) rfl (Or.inl ⟨by kernel_rfl, by intro WW hSw; obtain ⟨s2, s5⟩ := hSw; go_simp⟩) (by assumption) ?_
 (try simp only [Act.put, q1, q2, q3])
 refine wpAnyH_one (i := 8) (oi := ⟨some 60, _, _, _, _, _⟩) rfl (by kernel_rfl) (fun K hK => ?_)
 refine step_calls (by rfl) 31 EA.out [.tmp 55, .tmp 59] _ rfl [.pointer ho, (.slice A5 n5 c5)] rfl (HA.out _ (drew_below _)) ?_
 rintro e w2 ⟨rfl, hq⟩
 have HQ := Lib.hid hq
 refine ⟨_, rfl, hK _ _ (HSQ.out _ hq) (fun hHeld => ?_)⟩
 clear hK K
 (try simp only [Act.put, q1, q2, q3])
 refine tkH (i := 9) (oi := ⟨some 6, _, _, _, _, _⟩) (v := .int .i64 0) rfl (Or.inl ⟨by kernel_rfl, by intro WW hSw; obtain ⟨s2, s5⟩ := hSw; go_simp⟩) (by assumption) ?_
 (try simp only [Act.put, q1, q2, q3])
 refine wpAnyH_done (by kernel_rfl) ?_ _
 clear hHeld
 have h2 := HQQ.out w2 HQ.out
 have c3 : w2.cell? ⟨g, 3, none⟩ = some s.row := Row.cell h2 3
 have c4 : w2.cell? ⟨g, 4, none⟩ = some s.un := Row.cell h2 4
 have c5' : w2.cell? ⟨g, 5, none⟩ = some s.st := Row.cell h2 5
 have c8 : w2.cell? ⟨g, 8, none⟩ = some (.bool s.d) := Row.cell h2 8
 have f4 := Row.free h2 4
 have f5 := Row.free h2 5
 have f8 := Row.free h2 8
 rw [HRW.out] at c3
 have hdn : ((n : Int) == 0) = decide (n = 0) := by
  by_cases e : n = 0
  ·subst e; rfl
  ·rw [decide_eq_false e, beq_eq_false_iff_ne]; omega
 have HE := Lib.hid (show SpAt (((w2.setCell ⟨g, 4, none⟩ .nilFunc).setCell ⟨g, 5, none⟩ (.slice none 0 0)).setCell ⟨g, 8, none⟩ (.bool (decide (n = 0)))) g { s with un := .nilFunc, st := .slice none 0 0, d := decide (n = 0) } from ((h2.under _).stores _).done _)
 have HEB := Lib.hid (show But w2 (((w2.setCell ⟨g, 4, none⟩ .nilFunc).setCell ⟨g, 5, none⟩ (.slice none 0 0)).setCell ⟨g, 8, none⟩ (.bool (decide (n = 0)))) (fun q => q = g) from hbut1 (hbut1 (hbut1 (But.refl w2 _) 4 _) 5 _) 8 _)
 clear h2 HST HSQ HA HQQ HRW HSI
 go_wp2_with fail
 (try refine (‹∀ (a : Act) (w : World), Code.wp Tryz.prog _ _ a w -> _›) _ _ ?_)
 (try go_wp2_with fail)
 go_ret
 exact ⟨rfl, w2, HQ.out, HEB.out, HE.out⟩
theorem spGoOn_first {w : World} {g gr o n c f fu : Nat} {s : SF} {V2 : Value} {P Q : Nat -> World -> Prop} (h : SpAt w g s) (hun : s.un = .nilFunc) (hrow : s.row = .slice (some ⟨gr, o, none⟩) (n + 1) c) (hcell : w.cell? ⟨gr, o, none⟩ = some (nextV f g))
  (hcf : ∀ (w : World) (v : Value), (callFunc f #[v]).run Tryz.prog w = .ok (.enter f #[v]) w) (hcu : ∀ (w : World) (v : Value), (callFunc fu #[v]).run Tryz.prog w = .ok (.enter fu #[v]) w)
  (hsl : ∀ W, (Instr.slice 25 (.slice (some ⟨gr, o, none⟩) (n + 1) c) (some (.int .i64 1)) none none).run Tryz.prog W = .ok V2 W) (hv2 : V2.cells = #[V2]) (hv3 : V2.oneCell' = true)
  (HB : Calls Tryz.prog f #[.pointer (some ⟨g, 0, none⟩)] w fun e w' => ∃ u, e = .returned (.tuple #[nextV fu u, .int .i64 0]) /\ P u w') (hP : ∀ u w', P u w' -> ∃ s', SpAt w' g s' /\ s'.row = s.row)
  (HU : ∀ u w' W s', P u w' -> SpAt w' g s' -> s'.row = s.row -> SpAt W g { s' with un := nextV fu u, row := V2 } -> But w' W (fun q => q = g) -> Calls Tryz.prog fu #[.pointer (some ⟨u, 0, none⟩)] W fun e w' => e = .returned (.tuple #[.bool false, .int .i64 0]) /\ Q u w') :
  Calls Tryz.prog 11 #[.pointer (some ⟨g, 0, none⟩)] w fun e w' => e = .returned (.int .i64 0) /\ ∃ u, Q u w' := by
 have mixed : Tryz.prog.follows .mixedOrders = true := by kernel_rfl
 have c3 : w.cell? ⟨g, 3, none⟩ = some s.row := Row.cell h 3
 have c4 : w.cell? ⟨g, 4, none⟩ = some s.un := Row.cell h 4
 rw [hrow] at c3
 rw [hun] at c4
 unfold nextV at hcell
 have q1 := fun w => eqNilS w
 have q2 := fun w => guardNilS w (.tmp 10)
 have HBB := Lib.hid HB
 have HPP := Lib.hid hP
 have HUU := Lib.hid HU
 have HRW := Lib.hid hrow
 clear h hun HB hP HU
 go_enter Tryz.func11, Tryz.ntmps11
 go_wp2_with fail
 refine HBB.out.mono ?_
 rintro e w1 ⟨u, rfl, hp⟩
 obtain ⟨s', h1, hr1⟩ := HPP.out u w1 hp
 have HQ := Lib.hid (HUU.out u w1 ((w1.drew.setCell ⟨g, 4, none⟩ (nextV fu u)).setCell ⟨g, 3, none⟩ V2) s' hp h1 hr1 (((h1.below (drew_below w1)).under (nextV fu u)).rows V2) (hbut1 (hbut1 (But.of_below (drew_below w1) (fun q => q = g)) 4 _) 3 _))
 obtain ⟨V1, hV1⟩ : ∃ x, x = Value.slice (some ⟨gr, o, none⟩) (n + 1) c := ⟨_, rfl⟩
 have e3 : ∀ W, Below w1.heap.size w1 W -> W.cell? ⟨g, 3, none⟩ = some V1 := fun W hb => by
  have := Row.cell (h1.below hb) 3
  rw [hV1, <- HRW.out, <- hr1]
  exact this
 have HS5 := Lib.hid e3
 have d4 : w1.drew.cell? ⟨g, 4, none⟩ = some s'.un := Row.cell (h1.below (drew_below w1)) 4
 have f4 := Row.free (h1.below (drew_below w1)) 4
 have h5 := (h1.below (drew_below w1)).under (nextV fu u)
 have H53 := Lib.hid (show (w1.drew.setCell ⟨g, 4, none⟩ (.func (.func fu) #[.pointer (some ⟨u, 0, none⟩)] #[])).cell? ⟨g, 3, none⟩ = some V1 from by
  have := Row.cell h5 3
  rw [hV1, <- HRW.out, <- hr1]
  exact this)
 have f3 : (w1.drew.setCell ⟨g, 4, none⟩ (.func (.func fu) #[.pointer (some ⟨u, 0, none⟩)] #[])).frozen? ⟨g, 3, none⟩ = false := Row.free h5 3
 have c44 : ((w1.drew.setCell ⟨g, 4, none⟩ (.func (.func fu) #[.pointer (some ⟨u, 0, none⟩)] #[])).setCell ⟨g, 3, none⟩ V2).cell? ⟨g, 4, none⟩ = some (nextV fu u) := Row.cell (h5.rows V2) 4
 unfold nextV at c44 ⊢
 rw [<- hV1] at hsl
 clear hp h1 hr1 c3 c4 hcell HBB HPP HUU q1 q2 e3 h5 hV1 HRW
 have C44 := Lib.hid c44
 clear c44
 go_wp2_with fail
 (try refine (‹∀ (a : Act) (w : World), Code.wp Tryz.prog _ _ a w -> _›) _ _ ?_)
 (try go_wp2_with fail)
 (try refine wp_region_noPanic ?_)
 refine wp_region_heldx_drew (S := fun W : World => W.cell? ⟨g, 3, none⟩ = some V1) 13 (by kernel_rfl) (HS5.out _ (drew_below _)) (fun hHeld => ?_)
 refine wpAnyX_take (i := 0) (oi := ⟨some 25, _, _, _, _, _⟩) (v := .pointer (some ⟨g, 0, none⟩)) rfl (by kernel_rfl) (by kernel_rfl) (by kernel_rfl) (by kernel_rfl) (fun _ _ _ h => h) (Or.inl ⟨by kernel_rfl, by intro WW hSw; (try dsimp only at hSw); go_simp⟩) (by assumption) ?_
 (try simp only [Act.put, q1, q2, q3])
 refine wpAnyX_take (i := 1) (oi := ⟨some 26, _, _, _, _, _⟩) (v := .pointer (some ⟨g, 0, none⟩)) rfl (by kernel_rfl) (by kernel_rfl) (by kernel_rfl) (by kernel_rfl) (fun _ _ _ h => h) (Or.inl ⟨by kernel_rfl, by intro WW hSw; (try dsimp only at hSw); go_simp⟩) (by assumption) ?_
 (try simp only [Act.put, q1, q2, q3])
 refine wpAnyX_take (i := 2) (oi := ⟨some 27, _, _, _, _, _⟩) (v := .func (.func fu) #[.pointer (some ⟨u, 0, none⟩)] #[]) rfl (by kernel_rfl) (by kernel_rfl) (by kernel_rfl) (by kernel_rfl) (fun _ _ _ h => h) (Or.inl ⟨by kernel_rfl, by intro WW hSw; (try dsimp only at hSw); go_simp⟩) (by assumption) ?_
 (try simp only [Act.put, q1, q2, q3])
 refine wpAnyX_take (i := 3) (oi := ⟨some 28, _, _, _, _, _⟩) (v := .pointer (some ⟨g, 0, none⟩)) rfl (by kernel_rfl) (by kernel_rfl) (by kernel_rfl) (by kernel_rfl) (fun _ _ _ h => h) (Or.inl ⟨by kernel_rfl, by intro WW hSw; (try dsimp only at hSw); go_simp⟩) (by assumption) ?_
 (try simp only [Act.put, q1, q2, q3])
 refine wpAnyX_take (i := 4) (oi := ⟨some 29, _, _, _, _, _⟩) (v := .pointer (some ⟨g, 0, none⟩)) rfl (by kernel_rfl) (by kernel_rfl) (by kernel_rfl) (by kernel_rfl) (fun _ _ _ h => h) (Or.inl ⟨by kernel_rfl, by intro WW hSw; (try dsimp only at hSw); go_simp⟩) (by assumption) ?_
 (try simp only [Act.put, q1, q2, q3])
 refine wpAnyX_take (i := 5) (oi := ⟨some 30, _, _, _, _, _⟩) (v := .pointer (some ⟨g, 3, none⟩)) rfl (by kernel_rfl) (by kernel_rfl) (by kernel_rfl) (by kernel_rfl) (fun _ _ _ h => h) (Or.inl ⟨by kernel_rfl, by intro WW hSw; (try dsimp only at hSw); go_simp⟩) (by assumption) ?_
 (try simp only [Act.put, q1, q2, q3])
 refine wpAnyX_take (i := 6) (oi := ⟨some 31, _, _, _, _, _⟩) (v := V1) rfl (by kernel_rfl) (by kernel_rfl) (by kernel_rfl) (by kernel_rfl) (fun _ _ _ h => h) (Or.inl ⟨by kernel_rfl, by intro WW hSw; (try dsimp only at hSw); go_simp⟩) (by assumption) ?_
 (try simp only [Act.put, q1, q2, q3])
 refine wpAnyX_take (i := 7) (oi := ⟨some 32, _, _, _, _, _⟩) (v := V2) rfl (by kernel_rfl) (by kernel_rfl) (by kernel_rfl) (by kernel_rfl) (fun _ _ _ h => h) (Or.inl ⟨by kernel_rfl, by intro WW hSw; (try dsimp only at hSw); go_simp⟩) (by assumption) ?_
 (try simp only [Act.put, q1, q2, q3])
 refine wpAnyX_take (i := 8) (oi := ⟨some 33, _, _, _, _, _⟩) (v := .pointer (some ⟨g, 0, none⟩)) rfl (by kernel_rfl) (by kernel_rfl) (by kernel_rfl) (by kernel_rfl) (fun _ _ _ h => h) (Or.inl ⟨by kernel_rfl, by intro WW hSw; (try dsimp only at hSw); go_simp⟩) (by assumption) ?_
 (try simp only [Act.put, q1, q2, q3])
 refine wpAnyX_take (i := 9) (oi := ⟨some 34, _, _, _, _, _⟩) (v := .pointer (some ⟨g, 4, none⟩)) rfl (by kernel_rfl) (by kernel_rfl) (by kernel_rfl) (by kernel_rfl) (fun _ _ _ h => h) (Or.inl ⟨by kernel_rfl, by intro WW hSw; (try dsimp only at hSw); go_simp⟩) (by assumption) ?_
 (try simp only [Act.put, q1, q2, q3])
 refine wpAnyX_ready (rs := [10]) (by kernel_rfl) (by simp) ?_
 refine AllReadyX.cons (o := ⟨none, _, _, _, _, _⟩) rfl (fun K hK => ?_) AllReadyX.nil
 refine step_storeH1 (by rfl) _ (.tmp 34) (.tmp 27) rfl g 4 (.func (.func fu) #[.pointer (some ⟨u, 0, none⟩)] #[]) _ rfl rfl rfl d4 f4 (by kernel_rfl) rfl ?_
 refine hK.out _ _ (H53.out) (fun hHeld => ?_)
 clear hK K
 (try simp only [Act.put, q1, q2, q3])
 refine wpAnyX_ready (rs := [11]) (by kernel_rfl) (by simp) ?_
 refine AllReadyX.cons (o := ⟨some 35, _, _, _, _, _⟩) rfl (fun K hK => ?_) AllReadyX.nil
 go_simp
 refine hK.out _ _ (H53.out) (fun hHeld => ?_)
 clear hK K
 (try simp only [Act.put, q1, q2, q3])
 refine wpAnyX_take (i := 12) (oi := ⟨some 36, _, _, _, _, _⟩) (v := .pointer (some ⟨g, 3, none⟩)) rfl (by kernel_rfl) (by kernel_rfl) (by kernel_rfl) (by kernel_rfl) (fun _ _ _ h => h) (Or.inl ⟨by kernel_rfl, by intro WW hSw; (try dsimp only at hSw); go_simp⟩) (by assumption) ?_
 (try simp only [Act.put, q1, q2, q3])
 refine wpAnyX_ready (rs := [13]) (by kernel_rfl) (by simp) ?_
 refine AllReadyX.last rfl (fun K hK => ?_)
 refine step_storeH1 (by rfl) _ (.tmp 36) (.tmp 32) rfl g 3 V2 _ rfl rfl hv2 H53.out f3 (by kernel_rfl) hv3 ?_
 refine hK.out _ _ ?_
 clear hK K
 (try simp only [Act.put, q1, q2, q3])
 refine wpAnyX_done (by kernel_rfl) ?_ _
 clear hHeld HS5 d4 f4 H53 f3 hsl hv2 hv3 hcf
 go_wp2_with fail
 (try refine (‹∀ (a : Act) (w : World), Code.wp Tryz.prog _ _ a w -> _›) _ _ ?_)
 obtain ⟨W2, hW2⟩ : ∃ W2, W2 = (w1.drew.setCell ⟨g, 4, none⟩ (.func (.func fu) #[.pointer (some ⟨u, 0, none⟩)] #[])).setCell ⟨g, 3, none⟩ V2 := ⟨_, rfl⟩
 have c44 := C44.out
 have HQ2 := Lib.hid HQ.out
 unfold nextV at HQ2
 have hD : (w1.setCell ⟨g, 4, none⟩ (.func (.func fu) #[.pointer (some ⟨u, 0, none⟩)] #[])).drew = w1.drew.setCell ⟨g, 4, none⟩ (.func (.func fu) #[.pointer (some ⟨u, 0, none⟩)] #[]) := by first | rfl | simp
 (try rw [hD])
 rw [<- hW2] at c44 HQ2 ⊢
 clear hW2 C44 HQ hD
 go_wp2_with fail
 (try refine (‹∀ (a : Act) (w : World), Code.wp Tryz.prog _ _ a w -> _›) _ _ ?_)
 (try go_wp2_with fail)
 refine HQ2.out.mono ?_
 rintro e w3 ⟨rfl, hq⟩
 have HE := Lib.hid hq
 clear hq HQ2 c44
 go_wp2_with fail
 go_ret
 exact ⟨rfl, u, HE.out⟩
theorem spPublish_any {w : World} {g : Nat} {s : SF} {q m : Option Addr} {Q : Nat -> World -> Prop} (h : SpAt w g s)
  (hS : ∀ W, Below w.heap.size w W -> Calls Tryz.prog 12 #[.pointer s.si] W fun e w' => e = .returned (.pointer q) /\ W = w') (hM : ∀ W, Below w.heap.size w W -> Calls Tryz.prog 27 #[.pointer s.si] W fun e w' => e = .returned (.pointer m) /\ W = w')
  (hP : ∀ W, Below w.heap.size w W -> Calls Tryz.prog 42 #[.pointer q, .pointer m, .int .i64 s.cl, .int .u64 s.to] W fun e w' => ∃ gt, e = .returned (.tuple #[.pointer (some ⟨gt, 0, none⟩), .int .i64 0]) /\ Q gt w') (hQ : ∀ gt w', Q gt w' -> SpAt w' g s) :
  Calls Tryz.prog 15 #[.pointer (some ⟨g, 0, none⟩)] w fun e w' => ∃ gt, e = .returned (.tuple #[nextV 43 gt, .int .i64 0]) /\ Q gt w' := by
 have mixed : Tryz.prog.follows .mixedOrders = true := by kernel_rfl
 have ES := Lib.hid (enters_of Tryz.func12 (by kernel_rfl) rfl)
 have EM := Lib.hid (enters_of Tryz.func27 (by kernel_rfl) rfl)
 have EP := Lib.hid (enters_of Tryz.func42 (by kernel_rfl) rfl)
 have HS := Lib.hid hS
 have HM := Lib.hid hM
 have HP := Lib.hid hP
 obtain ⟨si, hsi⟩ : ∃ x, x = s.si := ⟨_, rfl⟩
 obtain ⟨cl, hcl⟩ : ∃ x, x = s.cl := ⟨_, rfl⟩
 obtain ⟨to, hto⟩ : ∃ x, x = s.to := ⟨_, rfl⟩
 rw [<- hsi] at HS HM
 rw [<- hcl, <- hto] at HP
 have HST := Lib.hid (show ∀ W, Below w.heap.size w W -> W.cell? ⟨g, 0, none⟩ = some (.pointer si) /\ W.cell? ⟨g, 1, none⟩ = some (.int .i64 cl) /\ W.cell? ⟨g, 7, none⟩ = some (.int .u64 to) from fun W hb => by
  rw [hsi, hcl, hto]
  exact ⟨Row.cell (h.below hb) 0, Row.cell (h.below hb) 1, Row.cell (h.below hb) 7⟩)
 have HQS := Lib.hid (show ∀ gt W, Q gt W -> W.cell? ⟨g, 0, none⟩ = some (.pointer si) /\ W.cell? ⟨g, 1, none⟩ = some (.int .i64 cl) /\ W.cell? ⟨g, 7, none⟩ = some (.int .u64 to) from fun gt W hq => by
  rw [hsi, hcl, hto]
  exact ⟨Row.cell (hQ gt W hq) 0, Row.cell (hQ gt W hq) 1, Row.cell (hQ gt W hq) 7⟩)
 clear h hS hM hP hQ hsi hcl hto
 go_enter Tryz.func15, Tryz.ntmps15
 go_wp2_with fail
 (try refine wp_region_noPanic ?_)
 refine wp_region_held_drew (S := fun W : World => W.cell? ⟨g, 0, none⟩ = some (.pointer si) /\ W.cell? ⟨g, 1, none⟩ = some (.int .i64 cl) /\ W.cell? ⟨g, 7, none⟩ = some (.int .u64 to)) (by kernel_rfl) (HST.out _ (drew_below _)) (fun hHeld => ?_)
 refine tkH (i := 0) (oi := ⟨some 7, _, _, _, _, _⟩) (v := .pointer (some ⟨g, 0, none⟩)) rfl (Or.inl ⟨by kernel_rfl, by intro WW hSw; obtain ⟨s0, s1, s7⟩ := hSw; go_simp⟩) (by assumption) ?_
 (try simp only [Act.put, q1, q2, q3])
 refine tkH (i := 1) (oi := ⟨some 8, _, _, _, _, _⟩) (v := .pointer (some ⟨g, 0, none⟩)) rfl (Or.inl ⟨by kernel_rfl, by intro WW hSw; obtain ⟨s0, s1, s7⟩ := hSw; go_simp⟩) (by assumption) ?_
 (try simp only [Act.put, q1, q2, q3])
 refine tkH (i := 2) (oi := ⟨some 9, _, _, _, _, _⟩) (v := .pointer (some ⟨g, 0, none⟩)) rfl (Or.inl ⟨by kernel_rfl, by intro WW hSw; obtain ⟨s0, s1, s7⟩ := hSw; go_simp⟩) (by assumption) ?_
 (try simp only [Act.put, q1, q2, q3])
 refine tkH (i := 3) (oi := ⟨some 10, _, _, _, _, _⟩) (v := .pointer si) rfl (Or.inl ⟨by kernel_rfl, by intro WW hSw; obtain ⟨s0, s1, s7⟩ := hSw; go_simp⟩) (by assumption) ?_
 (try simp only [Act.put, q1, q2, q3])
 refine tkH (i := 5) (oi := ⟨some 12, _, _, _, _, _⟩) (v := .pointer (some ⟨g, 0, none⟩)) rfl (Or.inl ⟨by kernel_rfl, by intro WW hSw; obtain ⟨s0, s1, s7⟩ := hSw; go_simp⟩) (by assumption) ?_
 (try simp only [Act.put, q1, q2, q3])
 refine tkH (i := 6) (oi := ⟨some 13, _, _, _, _, _⟩) (v := .pointer (some ⟨g, 0, none⟩)) rfl (Or.inl ⟨by kernel_rfl, by intro WW hSw; obtain ⟨s0, s1, s7⟩ := hSw; go_simp⟩) (by assumption) ?_
 (try simp only [Act.put, q1, q2, q3])
 refine tkH (i := 7) (oi := ⟨some 14, _, _, _, _, _⟩) (v := .pointer (some ⟨g, 0, none⟩)) rfl (Or.inl ⟨by kernel_rfl, by intro WW hSw; obtain ⟨s0, s1, s7⟩ := hSw; go_simp⟩) (by assumption) ?_
 (try simp only [Act.put, q1, q2, q3])
 refine tkH (i := 8) (oi := ⟨some 15, _, _, _, _, _⟩) (v := .pointer si) rfl (Or.inl ⟨by kernel_rfl, by intro WW hSw; obtain ⟨s0, s1, s7⟩ := hSw; go_simp⟩) (by assumption) ?_
 (try simp only [Act.put, q1, q2, q3])
 refine tkH (i := 10) (oi := ⟨some 17, _, _, _, _, _⟩) (v := .pointer (some ⟨g, 0, none⟩)) rfl (Or.inl ⟨by kernel_rfl, by intro WW hSw; obtain ⟨s0, s1, s7⟩ := hSw; go_simp⟩) (by assumption) ?_
 (try simp only [Act.put, q1, q2, q3])
 refine tkH (i := 11) (oi := ⟨some 18, _, _, _, _, _⟩) (v := .pointer (some ⟨g, 0, none⟩)) rfl (Or.inl ⟨by kernel_rfl, by intro WW hSw; obtain ⟨s0, s1, s7⟩ := hSw; go_simp⟩) (by assumption) ?_
 (try simp only [Act.put, q1, q2, q3])
 refine tkH (i := 12) (oi := ⟨some 19, _, _, _, _, _⟩) (v := .pointer (some ⟨g, 1, none⟩)) rfl (Or.inl ⟨by kernel_rfl, by intro WW hSw; obtain ⟨s0, s1, s7⟩ := hSw; go_simp⟩) (by assumption) ?_
 (try simp only [Act.put, q1, q2, q3])
 refine tkH (i := 13) (oi := ⟨some 20, _, _, _, _, _⟩) (v := .int .i64 cl) rfl (Or.inl ⟨by kernel_rfl, by intro WW hSw; obtain ⟨s0, s1, s7⟩ := hSw; go_simp⟩) (by assumption) ?_
 (try simp only [Act.put, q1, q2, q3])
 refine tkH (i := 14) (oi := ⟨some 21, _, _, _, _, _⟩) (v := .pointer (some ⟨g, 0, none⟩)) rfl (Or.inl ⟨by kernel_rfl, by intro WW hSw; obtain ⟨s0, s1, s7⟩ := hSw; go_simp⟩) (by assumption) ?_
 (try simp only [Act.put, q1, q2, q3])
 refine tkH (i := 15) (oi := ⟨some 22, _, _, _, _, _⟩) (v := .pointer (some ⟨g, 0, none⟩)) rfl (Or.inl ⟨by kernel_rfl, by intro WW hSw; obtain ⟨s0, s1, s7⟩ := hSw; go_simp⟩) (by assumption) ?_
 (try simp only [Act.put, q1, q2, q3])
 refine tkH (i := 16) (oi := ⟨some 23, _, _, _, _, _⟩) (v := .pointer (some ⟨g, 7, none⟩)) rfl (Or.inl ⟨by kernel_rfl, by intro WW hSw; obtain ⟨s0, s1, s7⟩ := hSw; go_simp⟩) (by assumption) ?_
 (try simp only [Act.put, q1, q2, q3])
 refine tkH (i := 17) (oi := ⟨some 24, _, _, _, _, _⟩) (v := .int .u64 to) rfl (Or.inl ⟨by kernel_rfl, by intro WW hSw; obtain ⟨s0, s1, s7⟩ := hSw; go_simp⟩) (by assumption) ?_
 (try simp only [Act.put, q1, q2, q3])
 refine wpAnyH_one (i := 4) (oi := ⟨some 11, _, _, _, _, _⟩) rfl (by kernel_rfl) (fun K hK => ?_)
 refine step_calls (by rfl) 12 ES.out [.tmp 10] _ rfl [.pointer si] rfl (HS.out _ (drew_below _)) ?_
 rintro e w1 ⟨rfl, hw1⟩
 have HB1 := Lib.hid (show Below w.heap.size w w1 from by rw [<- hw1]; exact drew_below _)
 clear hw1
 refine ⟨_, rfl, hK _ _ (HST.out _ HB1.out) (fun hHeld => ?_)⟩
 clear hK K
 (try simp only [Act.put, q1, q2, q3])
 refine wpAnyH_one (i := 9) (oi := ⟨some 16, _, _, _, _, _⟩) rfl (by kernel_rfl) (fun K hK => ?_)
 refine step_calls (by rfl) 27 EM.out [.tmp 15] _ rfl [.pointer si] rfl (HM.out _ HB1.out) ?_
 rintro e w2 ⟨rfl, hw2⟩
 have HB2 := Lib.hid (show Below w.heap.size w w2 from by rw [<- hw2]; exact HB1.out)
 clear hw2
 refine ⟨_, rfl, hK _ _ (HST.out _ HB2.out) (fun hHeld => ?_)⟩
 clear hK K
 (try simp only [Act.put, q1, q2, q3])
 refine wpAnyH_one (i := 18) (oi := ⟨some 25, _, _, _, _, _⟩) rfl (by kernel_rfl) (fun K hK => ?_)
 refine step_calls (by rfl) 42 EP.out [.tmp 11, .tmp 16, .tmp 20, .tmp 24] _ rfl [.pointer q, .pointer m, .int .i64 cl, .int .u64 to] rfl (HP.out _ HB2.out) ?_
 rintro e w3 ⟨gt, rfl, hq⟩
 have HQ := Lib.hid hq
 refine ⟨_, rfl, hK _ _ (HQS.out _ _ hq) (fun hHeld => ?_)⟩
 clear hK K
 (try simp only [Act.put, q1, q2, q3])
 refine tkH (i := 19) (oi := ⟨some 6, _, _, _, _, _⟩) (v := .tuple #[.pointer (some ⟨gt, 0, none⟩), .int .i64 0]) rfl (Or.inl ⟨by kernel_rfl, by intro WW hSw; obtain ⟨s0, s1, s7⟩ := hSw; go_simp⟩) (by assumption) ?_
 (try simp only [Act.put, q1, q2, q3])
 refine tkH (i := 20) (oi := ⟨some 26, _, _, _, _, _⟩) (v := .pointer (some ⟨gt, 0, none⟩)) rfl (Or.inl ⟨by kernel_rfl, by intro WW hSw; obtain ⟨s0, s1, s7⟩ := hSw; go_simp⟩) (by assumption) ?_
 (try simp only [Act.put, q1, q2, q3])
 refine tkH (i := 21) (oi := ⟨some 27, _, _, _, _, _⟩) (v := .int .i64 0) rfl (Or.inl ⟨by kernel_rfl, by intro WW hSw; obtain ⟨s0, s1, s7⟩ := hSw; go_simp⟩) (by assumption) ?_
 (try simp only [Act.put, q1, q2, q3])
 refine tkH (i := 22) (oi := ⟨some 4, _, _, _, _, _⟩) (v := .pointer (some ⟨gt, 0, none⟩)) rfl (Or.inl ⟨by kernel_rfl, by intro WW hSw; obtain ⟨s0, s1, s7⟩ := hSw; go_simp⟩) (by assumption) ?_
 (try simp only [Act.put, q1, q2, q3])
 refine tkH (i := 23) (oi := ⟨some 5, _, _, _, _, _⟩) (v := .int .i64 0) rfl (Or.inl ⟨by kernel_rfl, by intro WW hSw; obtain ⟨s0, s1, s7⟩ := hSw; go_simp⟩) (by assumption) ?_
 (try simp only [Act.put, q1, q2, q3])
 refine wpAnyH_done (by kernel_rfl) ?_ _
 clear hHeld HQS HST HS HM HP
 go_wp2_with fail
 (try refine (‹∀ (a : Act) (w : World), Code.wp Tryz.prog _ _ a w -> _›) _ _ ?_)
 (try go_wp2_with fail)
 go_ret2
 exact ⟨gt, rfl, HQ.out⟩
theorem spLink_any {w : World} {g : Nat} {s : SF} {m : Option Addr} {a : Int} {N : Nd} {l : List (Int × Int)} {ln : List (Nat × Nat)} (h : SpAt w g s) (hM : ∀ W, But w W (fun q => q = g) -> Calls Tryz.prog 27 #[.pointer s.si] W fun e w' => e = .returned (.pointer m) /\ W = w')
  (hA : Calls Tryz.prog 25 #[.pointer s.ho] w fun e w' => e = .returned (.tuple #[.int .u64 a, N.V, .int .i64 0]) /\ Below w.heap.size w w') (hF : ∀ W, Calls Tryz.prog 39 #[.int .u64 a, N.V, .int .u64 s.to] W (PutsOut W (l, 0))) (hfl : flatE l = flat ln) (hn : ln.length = l.length) (h0 : ln ≠ []) (hl : ln.length <= 1000) :
  Calls Tryz.prog 16 #[.pointer (some ⟨g, 0, none⟩)] w fun e w' => ∃ rg V W0, e = .returned (.tuple #[nextV 79 rg, .int .i64 0]) /\ Below w.heap.size w W0 /\ W0.ownsRow w.heap.size 165 2 V ln.length (flat ln) /\ ChgP W0 g s m V ln rg w' := by
 have mixed : Tryz.prog.follows .mixedOrders = true := by kernel_rfl
 have EF := Lib.hid (enters_of Tryz.func39 (by kernel_rfl) rfl)
 have EC := Lib.hid (enters_of Tryz.func44 (by kernel_rfl) rfl)
 have c2 : w.cell? ⟨g, 2, none⟩ = some (.pointer s.ho) := Row.cell h 2
 have HGG := Lib.hid h.lt
 have HA := Lib.hid hA
 have HF := Lib.hid hF
 have HFL := Lib.hid (And.intro hfl hn)
 have HL0 := Lib.hid h0
 have HH := Lib.hid h
 have HC := Lib.hid (show ∀ W V, Below w.heap.size w W -> Ahead W V ln -> (∀ q, V.ownBlock = some q -> q ≠ g) -> Calls Tryz.prog 44 #[.pointer (some ⟨g, 0, none⟩), V, .int .i64 0] W fun e w' => (∃ rg, e = .returned (.tuple #[nextV 79 rg, .int .i64 0]) /\ ChgP W g s m V ln rg w') from fun W V hb hA hq =>
  spChange_run (h.below hb) (fun W2 hb2 => hM W2 ((But.of_below hb (fun q => q = g)).trans hb2 fun q hq => .inl hq)) hA hq h0 hl)
 clear h hM hA hF hfl hn h0 hl
 go_enter Tryz.func16, Tryz.ntmps16
 go_wp2_with fail
 refine HA.out.mono ?_
 rintro e w1 ⟨rfl, hb1⟩
 have HB1 := Lib.hid hb1
 clear hb1 c2 HA
 go_upto_region 1 with (first
  | ((with_reducible refine show_storeN ?_); refine wpList_store_row rfl _ _ _ rfl w1.heap.size N.cl rfl rfl (Row.new w1 71 zeroNd.cl.toArray) rfl ndI (cl_one _) ?_))
 obtain ⟨W2, hW2, hn2, hb2⟩ := store_ndH w1 N
 rw [<- hW2]
 have HB2 := Lib.hid (Below.and HB1.out hb2)
 obtain ⟨x, hx⟩ : ∃ x, x = s.to := ⟨_, rfl⟩
 have HX := Lib.hid hx
 obtain ⟨gn, hgn⟩ : ∃ gn, gn = w1.heap.size := ⟨_, rfl⟩
 rw [<- hgn] at hn2 ⊢
 have HGN := Lib.hid (show ¬ gn = g from by have := HGG.out; have := HB1.out.size; omega)
 have HST := Lib.hid (show ∀ W : World, Below W2.heap.size W2 W -> W.cell? ⟨g, 7, none⟩ = some (.int .u64 x) /\ W.rangeAt gn 0 N.cl from fun W hW => by
  rw [hx]
  exact ⟨Row.cell (HH.out.below (Below.and HB2.out hW)) 7, ndR (hn2.below hW hn2.lt)⟩)
 have HRG := Lib.hid (show ∀ W : World, (W.cell? ⟨g, 7, none⟩ = some (.int .u64 x) /\ W.rangeAt gn 0 N.cl) -> W.rangeAt gn 0 N.cl from fun W h => h.2)
 rw [<- hx] at HF
 clear hW2 hn2 hb2 hx hgn
 (try go_wp2_with fail)
 (try refine wp_region_noPanic ?_)
 refine wp_region_held_drew (S := fun W : World => W.cell? ⟨g, 7, none⟩ = some (.int .u64 x) /\ W.rangeAt gn 0 N.cl) (by kernel_rfl) (HST.out _ (drew_below _)) (fun hHeld => ?_)
 refine tkH (i := 0) (oi := ⟨some 16, _, _, _, _, _⟩) (v := .pointer (some ⟨g, 0, none⟩)) rfl (Or.inl ⟨by kernel_rfl, by intro WW hSw; obtain ⟨s0, sn⟩ := hSw; go_simp⟩) (by assumption) ?_
 (try simp only [Act.put, q1, q2, q3])
 refine tkH (i := 1) (oi := ⟨some 17, _, _, _, _, _⟩) (v := .int .u64 a) rfl (Or.inl ⟨by kernel_rfl, by intro WW hSw; obtain ⟨s0, sn⟩ := hSw; go_simp⟩) (by assumption) ?_
 (try simp only [Act.put, q1, q2, q3])
 refine tkH (i := 2) (oi := ⟨some 18, _, _, _, _, _⟩) (v := .agg N.cl.toArray) rfl (yieldsIf_load_mid (by rfl) _ _ rfl gn 0 rfl N.cl _ HRG.out Tryz.underlying71 rfl ndI) (by assumption) ?_
 (try simp only [Act.put, q1, q2, q3])
 refine tkH (i := 3) (oi := ⟨some 19, _, _, _, _, _⟩) (v := .pointer (some ⟨g, 0, none⟩)) rfl (Or.inl ⟨by kernel_rfl, by intro WW hSw; obtain ⟨s0, sn⟩ := hSw; go_simp⟩) (by assumption) ?_
 (try simp only [Act.put, q1, q2, q3])
 refine tkH (i := 4) (oi := ⟨some 20, _, _, _, _, _⟩) (v := .pointer (some ⟨g, 0, none⟩)) rfl (Or.inl ⟨by kernel_rfl, by intro WW hSw; obtain ⟨s0, sn⟩ := hSw; go_simp⟩) (by assumption) ?_
 (try simp only [Act.put, q1, q2, q3])
 refine tkH (i := 5) (oi := ⟨some 21, _, _, _, _, _⟩) (v := .pointer (some ⟨g, 7, none⟩)) rfl (Or.inl ⟨by kernel_rfl, by intro WW hSw; obtain ⟨s0, sn⟩ := hSw; go_simp⟩) (by assumption) ?_
 (try simp only [Act.put, q1, q2, q3])
 refine tkH (i := 6) (oi := ⟨some 22, _, _, _, _, _⟩) (v := .int .u64 x) rfl (Or.inl ⟨by kernel_rfl, by intro WW hSw; obtain ⟨s0, sn⟩ := hSw; go_simp⟩) (by assumption) ?_
 (try simp only [Act.put, q1, q2, q3])
 refine wpAnyH_one (i := 7) (oi := ⟨some 23, _, _, _, _, _⟩) rfl (by kernel_rfl) (fun K hK => ?_)
 refine step_calls (by rfl) 39 EF.out [.tmp 17, .tmp 18, .tmp 22] _ rfl [.int .u64 a, .agg N.cl.toArray, .int .u64 x] rfl (HF.out _) ?_
 rintro e w5 ⟨⟨v5, rfl, ho5⟩, hb5⟩
 have HB5 := Lib.hid (Below.and (drew_below W2) hb5)
 dsimp only at ho5
 rw [HFL.out.1, <- HFL.out.2] at ho5
 have ho5' := ownS_mono ho5 (show w.heap.size <= W2.drew.heap.size from (Below.and HB2.out (drew_below _)).size)
 have hA5 := own_ahead ho5 rfl HL0.out
 have HN5 := Lib.hid (show ∀ q, v5.ownBlock = some q -> q ≠ g from fun q hq e => by
  have h1 := (ownS_from ho5 q hq).1
  have h2 := (Below.and HB2.out (drew_below W2)).size
  have h3 := HGG.out
  omega)
 have HA5 := Lib.hid hA5
 obtain ⟨A5, c5, rfl, _, _⟩ := hA5.len
 have HO5 := Lib.hid ho5'
 clear ho5 ho5' hb5 hA5
 obtain ⟨M, hM⟩ : ∃ x, x = ln.length := ⟨_, rfl⟩
 rw [<- hM] at HO5 HN5 HA5 ⊢
 have HMM := Lib.hid hM
 clear hM
 refine ⟨_, rfl, hK _ _ (HST.out _ HB5.out) (fun hHeld => ?_)⟩
 clear hK K
 (try simp only [Act.put, q1, q2, q3])
 refine tkH (i := 8) (oi := ⟨some 24, _, _, _, _, _⟩) (v := .slice A5 M c5) rfl (Or.inl ⟨by kernel_rfl, by intro WW hSw; obtain ⟨s0, sn⟩ := hSw; go_simp⟩) (by assumption) ?_
 (try simp only [Act.put, q1, q2, q3])
 refine tkH (i := 9) (oi := ⟨some 25, _, _, _, _, _⟩) (v := .int .i64 0) rfl (Or.inl ⟨by kernel_rfl, by intro WW hSw; obtain ⟨s0, sn⟩ := hSw; go_simp⟩) (by assumption) ?_
 (try simp only [Act.put, q1, q2, q3])
 refine wpAnyH_one (i := 10) (oi := ⟨some 26, _, _, _, _, _⟩) rfl (by kernel_rfl) (fun K hK => ?_)
 refine step_calls (by rfl) 44 EC.out [.tmp 16, .tmp 24, .tmp 25] _ rfl [.pointer (some ⟨g, 0, none⟩), .slice A5 M c5, .int .i64 0] rfl (HC.out w5 _ (Below.and HB2.out HB5.out) HA5.out HN5.out) ?_
 rintro e w6 ⟨rg, rfl, hq⟩
 have HQ := Lib.hid hq
 have HSQ := Lib.hid (show w6.cell? ⟨g, 7, none⟩ = some (.int .u64 x) /\ w6.rangeAt gn 0 N.cl from by
  rw [HX.out]
  exact ⟨Row.cell HQ.out.1 7, fun j v hv => HQ.out.2.2.2.cell ((HST.out w5 HB5.out).2 j v hv) HGN.out⟩)
 clear hq
 refine ⟨_, rfl, hK _ _ (HSQ.out) (fun hHeld => ?_)⟩
 clear hK K
 (try simp only [Act.put, q1, q2, q3])
 refine tkH (i := 11) (oi := ⟨some 27, _, _, _, _, _⟩) (v := nextV 79 rg) rfl (Or.inl ⟨by kernel_rfl, by intro WW hSw; obtain ⟨s0, sn⟩ := hSw; go_simp⟩) (by assumption) ?_
 (try simp only [Act.put, q1, q2, q3])
 refine tkH (i := 12) (oi := ⟨some 28, _, _, _, _, _⟩) (v := .int .i64 0) rfl (Or.inl ⟨by kernel_rfl, by intro WW hSw; obtain ⟨s0, sn⟩ := hSw; go_simp⟩) (by assumption) ?_
 (try simp only [Act.put, q1, q2, q3])
 refine tkH (i := 13) (oi := ⟨some 2, _, _, _, _, _⟩) (v := nextV 79 rg) rfl (Or.inl ⟨by kernel_rfl, by intro WW hSw; obtain ⟨s0, sn⟩ := hSw; go_simp⟩) (by assumption) ?_
 (try simp only [Act.put, q1, q2, q3])
 refine tkH (i := 14) (oi := ⟨some 3, _, _, _, _, _⟩) (v := .int .i64 0) rfl (Or.inl ⟨by kernel_rfl, by intro WW hSw; obtain ⟨s0, sn⟩ := hSw; go_simp⟩) (by assumption) ?_
 (try simp only [Act.put, q1, q2, q3])
 refine wpAnyH_done (by kernel_rfl) ?_ _
 clear hHeld HST HRG HSQ HF HC
 go_wp2_with fail
 (try refine (‹∀ (a : Act) (w : World), Code.wp Tryz.prog _ _ a w -> _›) _ _ ?_)
 (try go_wp2_with fail)
 go_ret2
 rw [<- HMM.out]
 exact ⟨rg, _, w5, rfl, Below.and HB2.out HB5.out, HO5.out, HQ.out⟩
theorem spCut_any {w : World} {g : Nat} {s : SF} {m : Option Addr} {a : Int} {N : Nd} {l : List (Int × Int)} {ln : List (Nat × Nat)} (h : SpAt w g s) (hM : ∀ W, But w W (fun q => q = g) -> Calls Tryz.prog 27 #[.pointer s.si] W fun e w' => e = .returned (.pointer m) /\ W = w')
  (hA : Calls Tryz.prog 25 #[.pointer s.ho] w fun e w' => e = .returned (.tuple #[.int .u64 a, N.V, .int .i64 0]) /\ Below w.heap.size w w') (hF : ∀ W, Calls Tryz.prog 45 #[.int .u64 a, N.V, .int .u64 s.low] W (PutsOut W (l, 0))) (hfl : flatE l = flat ln) (hn : ln.length = l.length) (h0 : ln ≠ []) (hl : ln.length <= 1000) :
  Calls Tryz.prog 17 #[.pointer (some ⟨g, 0, none⟩)] w fun e w' => ∃ rg V W0, e = .returned (.tuple #[nextV 79 rg, .int .i64 0]) /\ Below w.heap.size w W0 /\ W0.ownsRow w.heap.size 165 2 V ln.length (flat ln) /\ ChgP W0 g s m V ln rg w' := by
 have mixed : Tryz.prog.follows .mixedOrders = true := by kernel_rfl
 have EF := Lib.hid (enters_of Tryz.func45 (by kernel_rfl) rfl)
 have EC := Lib.hid (enters_of Tryz.func44 (by kernel_rfl) rfl)
 have c2 : w.cell? ⟨g, 2, none⟩ = some (.pointer s.ho) := Row.cell h 2
 have HGG := Lib.hid h.lt
 have HA := Lib.hid hA
 have HF := Lib.hid hF
 have HFL := Lib.hid (And.intro hfl hn)
 have HL0 := Lib.hid h0
 have HH := Lib.hid h
 have HC := Lib.hid (show ∀ W V, Below w.heap.size w W -> Ahead W V ln -> (∀ q, V.ownBlock = some q -> q ≠ g) -> Calls Tryz.prog 44 #[.pointer (some ⟨g, 0, none⟩), V, .int .i64 0] W fun e w' => (∃ rg, e = .returned (.tuple #[nextV 79 rg, .int .i64 0]) /\ ChgP W g s m V ln rg w') from fun W V hb hA hq =>
  spChange_run (h.below hb) (fun W2 hb2 => hM W2 ((But.of_below hb (fun q => q = g)).trans hb2 fun q hq => .inl hq)) hA hq h0 hl)
 clear h hM hA hF hfl hn h0 hl
 go_enter Tryz.func17, Tryz.ntmps17
 go_wp2_with fail
 refine HA.out.mono ?_
 rintro e w1 ⟨rfl, hb1⟩
 have HB1 := Lib.hid hb1
 clear hb1 c2 HA
 go_upto_region 1 with (first
  | ((with_reducible refine show_storeN ?_); refine wpList_store_row rfl _ _ _ rfl w1.heap.size N.cl rfl rfl (Row.new w1 71 zeroNd.cl.toArray) rfl ndI (cl_one _) ?_))
 obtain ⟨W2, hW2, hn2, hb2⟩ := store_ndH w1 N
 rw [<- hW2]
 have HB2 := Lib.hid (Below.and HB1.out hb2)
 obtain ⟨x, hx⟩ : ∃ x, x = s.low := ⟨_, rfl⟩
 have HX := Lib.hid hx
 obtain ⟨gn, hgn⟩ : ∃ gn, gn = w1.heap.size := ⟨_, rfl⟩
 rw [<- hgn] at hn2 ⊢
 have HGN := Lib.hid (show ¬ gn = g from by have := HGG.out; have := HB1.out.size; omega)
 have HST := Lib.hid (show ∀ W : World, Below W2.heap.size W2 W -> W.cell? ⟨g, 6, none⟩ = some (.int .u64 x) /\ W.rangeAt gn 0 N.cl from fun W hW => by
  rw [hx]
  exact ⟨Row.cell (HH.out.below (Below.and HB2.out hW)) 6, ndR (hn2.below hW hn2.lt)⟩)
 have HRG := Lib.hid (show ∀ W : World, (W.cell? ⟨g, 6, none⟩ = some (.int .u64 x) /\ W.rangeAt gn 0 N.cl) -> W.rangeAt gn 0 N.cl from fun W h => h.2)
 rw [<- hx] at HF
 clear hW2 hn2 hb2 hx hgn
 (try go_wp2_with fail)
 (try refine wp_region_noPanic ?_)
 refine wp_region_held_drew (S := fun W : World => W.cell? ⟨g, 6, none⟩ = some (.int .u64 x) /\ W.rangeAt gn 0 N.cl) (by kernel_rfl) (HST.out _ (drew_below _)) (fun hHeld => ?_)
 refine tkH (i := 0) (oi := ⟨some 16, _, _, _, _, _⟩) (v := .pointer (some ⟨g, 0, none⟩)) rfl (Or.inl ⟨by kernel_rfl, by intro WW hSw; obtain ⟨s0, sn⟩ := hSw; go_simp⟩) (by assumption) ?_
 (try simp only [Act.put, q1, q2, q3])
 refine tkH (i := 1) (oi := ⟨some 17, _, _, _, _, _⟩) (v := .int .u64 a) rfl (Or.inl ⟨by kernel_rfl, by intro WW hSw; obtain ⟨s0, sn⟩ := hSw; go_simp⟩) (by assumption) ?_
 (try simp only [Act.put, q1, q2, q3])
 refine tkH (i := 2) (oi := ⟨some 18, _, _, _, _, _⟩) (v := .agg N.cl.toArray) rfl (yieldsIf_load_mid (by rfl) _ _ rfl gn 0 rfl N.cl _ HRG.out Tryz.underlying71 rfl ndI) (by assumption) ?_
 (try simp only [Act.put, q1, q2, q3])
 refine tkH (i := 3) (oi := ⟨some 19, _, _, _, _, _⟩) (v := .pointer (some ⟨g, 0, none⟩)) rfl (Or.inl ⟨by kernel_rfl, by intro WW hSw; obtain ⟨s0, sn⟩ := hSw; go_simp⟩) (by assumption) ?_
 (try simp only [Act.put, q1, q2, q3])
 refine tkH (i := 4) (oi := ⟨some 20, _, _, _, _, _⟩) (v := .pointer (some ⟨g, 0, none⟩)) rfl (Or.inl ⟨by kernel_rfl, by intro WW hSw; obtain ⟨s0, sn⟩ := hSw; go_simp⟩) (by assumption) ?_
 (try simp only [Act.put, q1, q2, q3])
 refine tkH (i := 5) (oi := ⟨some 21, _, _, _, _, _⟩) (v := .pointer (some ⟨g, 6, none⟩)) rfl (Or.inl ⟨by kernel_rfl, by intro WW hSw; obtain ⟨s0, sn⟩ := hSw; go_simp⟩) (by assumption) ?_
 (try simp only [Act.put, q1, q2, q3])
 refine tkH (i := 6) (oi := ⟨some 22, _, _, _, _, _⟩) (v := .int .u64 x) rfl (Or.inl ⟨by kernel_rfl, by intro WW hSw; obtain ⟨s0, sn⟩ := hSw; go_simp⟩) (by assumption) ?_
 (try simp only [Act.put, q1, q2, q3])
 refine wpAnyH_one (i := 7) (oi := ⟨some 23, _, _, _, _, _⟩) rfl (by kernel_rfl) (fun K hK => ?_)
 refine step_calls (by rfl) 45 EF.out [.tmp 17, .tmp 18, .tmp 22] _ rfl [.int .u64 a, .agg N.cl.toArray, .int .u64 x] rfl (HF.out _) ?_
 rintro e w5 ⟨⟨v5, rfl, ho5⟩, hb5⟩
 have HB5 := Lib.hid (Below.and (drew_below W2) hb5)
 dsimp only at ho5
 rw [HFL.out.1, <- HFL.out.2] at ho5
 have ho5' := ownS_mono ho5 (show w.heap.size <= W2.drew.heap.size from (Below.and HB2.out (drew_below _)).size)
 have hA5 := own_ahead ho5 rfl HL0.out
 have HN5 := Lib.hid (show ∀ q, v5.ownBlock = some q -> q ≠ g from fun q hq e => by
  have h1 := (ownS_from ho5 q hq).1
  have h2 := (Below.and HB2.out (drew_below W2)).size
  have h3 := HGG.out
  omega)
 have HA5 := Lib.hid hA5
 obtain ⟨A5, c5, rfl, _, _⟩ := hA5.len
 have HO5 := Lib.hid ho5'
 clear ho5 ho5' hb5 hA5
 obtain ⟨M, hM⟩ : ∃ x, x = ln.length := ⟨_, rfl⟩
 rw [<- hM] at HO5 HN5 HA5 ⊢
 have HMM := Lib.hid hM
 clear hM
 refine ⟨_, rfl, hK _ _ (HST.out _ HB5.out) (fun hHeld => ?_)⟩
 clear hK K
 (try simp only [Act.put, q1, q2, q3])
 refine tkH (i := 8) (oi := ⟨some 24, _, _, _, _, _⟩) (v := .slice A5 M c5) rfl (Or.inl ⟨by kernel_rfl, by intro WW hSw; obtain ⟨s0, sn⟩ := hSw; go_simp⟩) (by assumption) ?_
 (try simp only [Act.put, q1, q2, q3])
 refine tkH (i := 9) (oi := ⟨some 25, _, _, _, _, _⟩) (v := .int .i64 0) rfl (Or.inl ⟨by kernel_rfl, by intro WW hSw; obtain ⟨s0, sn⟩ := hSw; go_simp⟩) (by assumption) ?_
 (try simp only [Act.put, q1, q2, q3])
 refine wpAnyH_one (i := 10) (oi := ⟨some 26, _, _, _, _, _⟩) rfl (by kernel_rfl) (fun K hK => ?_)
 refine step_calls (by rfl) 44 EC.out [.tmp 16, .tmp 24, .tmp 25] _ rfl [.pointer (some ⟨g, 0, none⟩), .slice A5 M c5, .int .i64 0] rfl (HC.out w5 _ (Below.and HB2.out HB5.out) HA5.out HN5.out) ?_
 rintro e w6 ⟨rg, rfl, hq⟩
 have HQ := Lib.hid hq
 have HSQ := Lib.hid (show w6.cell? ⟨g, 6, none⟩ = some (.int .u64 x) /\ w6.rangeAt gn 0 N.cl from by
  rw [HX.out]
  exact ⟨Row.cell HQ.out.1 6, fun j v hv => HQ.out.2.2.2.cell ((HST.out w5 HB5.out).2 j v hv) HGN.out⟩)
 clear hq
 refine ⟨_, rfl, hK _ _ (HSQ.out) (fun hHeld => ?_)⟩
 clear hK K
 (try simp only [Act.put, q1, q2, q3])
 refine tkH (i := 11) (oi := ⟨some 27, _, _, _, _, _⟩) (v := nextV 79 rg) rfl (Or.inl ⟨by kernel_rfl, by intro WW hSw; obtain ⟨s0, sn⟩ := hSw; go_simp⟩) (by assumption) ?_
 (try simp only [Act.put, q1, q2, q3])
 refine tkH (i := 12) (oi := ⟨some 28, _, _, _, _, _⟩) (v := .int .i64 0) rfl (Or.inl ⟨by kernel_rfl, by intro WW hSw; obtain ⟨s0, sn⟩ := hSw; go_simp⟩) (by assumption) ?_
 (try simp only [Act.put, q1, q2, q3])
 refine tkH (i := 13) (oi := ⟨some 2, _, _, _, _, _⟩) (v := nextV 79 rg) rfl (Or.inl ⟨by kernel_rfl, by intro WW hSw; obtain ⟨s0, sn⟩ := hSw; go_simp⟩) (by assumption) ?_
 (try simp only [Act.put, q1, q2, q3])
 refine tkH (i := 14) (oi := ⟨some 3, _, _, _, _, _⟩) (v := .int .i64 0) rfl (Or.inl ⟨by kernel_rfl, by intro WW hSw; obtain ⟨s0, sn⟩ := hSw; go_simp⟩) (by assumption) ?_
 (try simp only [Act.put, q1, q2, q3])
 refine wpAnyH_done (by kernel_rfl) ?_ _
 clear hHeld HST HRG HSQ HF HC
 go_wp2_with fail
 (try refine (‹∀ (a : Act) (w : World), Code.wp Tryz.prog _ _ a w -> _›) _ _ ?_)
 (try go_wp2_with fail)
 go_ret2
 rw [<- HMM.out]
 exact ⟨rg, _, w5, rfl, Below.and HB2.out HB5.out, HO5.out, HQ.out⟩
theorem sl48 (gl cap : Nat) (hc : 8 <= cap) (W : World) : (Instr.slice 89 (.slice (some ⟨gl, 0, none⟩) 8 cap) (some (.int .i64 4)) (some (.int .i64 8)) (some (.int .i64 8))).run Tryz.prog W = .ok (.slice (some ⟨gl, 8, none⟩) 4 4) W := by
 have hu : Tryz.prog.underlying 89 = some (.slice (Tryz.prog.elem 89)) := by kernel_rfl
 have hz : ∀ W, (sizeOf (Tryz.prog.elem 89)).run Tryz.prog W = .ok 2 W := fun W => by kernel_rfl
 have h1 : ¬ cap < 8 := by omega
 have h2 : ¬ (cap : Int) < 8 := by omega
 simp [Instr.slice, go_sem, hu, hz, h1, h2, hc]
theorem spUpper_leaf {w : World} {to k4 : Int} {N M : Nd} {gl cap : Nat} {l : List (Int × Int)} (hcap : 8 <= cap) (hl0 : N.l = 0) (hE : EntAt w (.slice (some ⟨gl, 8, none⟩) 4 4) l) (hl : l.length = 4) (hk : w.cell? ⟨gl, 8, none⟩ = some (.int .u64 k4)) (hM : makeR to 0 k4 N.nx to l = (M, 0)) :
  Calls Tryz.prog 38 #[.int .u64 to, N.V, .slice (some ⟨gl, 0, none⟩) 8 cap] w fun e w' => e = .returned (.tuple #[M.V, .int .i64 0]) /\ Below w.heap.size w w' := by
 have mixed : Tryz.prog.follows .mixedOrders = true := by kernel_rfl
 have EM := Lib.hid (enters_of Tryz.func73 (by kernel_rfl) rfl)
 obtain ⟨W1, hW1⟩ : ∃ W1, W1 = (w.alloc (.cells N.cl.toArray 71)).alloc (.cells zeroNd.cl.toArray 71) := ⟨_, rfl⟩
 obtain ⟨gB, hgB⟩ : ∃ x, x = w.heap.size := ⟨_, rfl⟩
 have hb1 : Below w.heap.size w W1 := by rw [hW1]; exact low_and (alloc_low _ _) (alloc_low _ _)
 have r0 : NdAt W1 gB N := by rw [hW1, hgB]; exact (Row.new w 71 N.cl.toArray).alloc _
 have r1 : NdAt W1 (gB + 1) zeroNd := by
  rw [hW1, hgB]
  have := Row.new (w.alloc (.cells N.cl.toArray 71)) 71 zeroNd.cl.toArray
  rwa [World.size_alloc] at this
 have c0 : W1.cell? ⟨gB, 0, none⟩ = some (.int .i64 N.l) := ndAt_at r0 0
 have c2 : W1.cell? ⟨gB, 2, none⟩ = some (.int .u64 N.nx) := ndAt_at r0 2
 have c8 : W1.cell? ⟨gl, 8, none⟩ = some (.int .u64 k4) := (hb1.cell (w.block_lt_of_cell? _ hk)).trans hk
 rw [hl0] at c0
 have HM := Lib.hid (show ∀ W, Below W1.heap.size W1 W -> Calls Tryz.prog 73 #[.int .u64 to, .int .i64 0, .int .u64 k4, .int .u64 N.nx, .int .u64 to, .slice (some ⟨gl, 8, none⟩) 4 4] W fun e w' => e = .returned (.tuple #[M.V, .int .i64 0]) /\ Below W.heap.size W w' from fun W hb => by
  have := nMake_any to 0 k4 N.nx to (hE.low (Below.and hb1 hb)) (by omega)
  rw [hM] at this
  exact this)
 have hgl : gl < w.heap.size := w.block_lt_of_cell? _ hk
 obtain ⟨nx, hnx⟩ : ∃ x, x = N.nx := ⟨_, rfl⟩
 rw [<- hnx] at HM c2
 have HST := Lib.hid (show ∀ W : World, Below W1.heap.size W1 W -> W.cell? ⟨gB, 0, none⟩ = some (.int .i64 0) /\ W.cell? ⟨gB, 2, none⟩ = some (.int .u64 nx) /\ W.cell? ⟨gl, 8, none⟩ = some (.int .u64 k4) /\ (∀ k, k ≠ gB + 1 -> k < W1.heap.size -> W.heap[k]? = W1.heap[k]?) from fun W hb =>
  ⟨(hb.cell (W1.block_lt_of_cell? _ c0)).trans c0, (hb.cell (W1.block_lt_of_cell? _ c2)).trans c2, (hb.cell (W1.block_lt_of_cell? _ c8)).trans c8, fun k _ hk => hb.block k hk⟩)
 have HSK := Lib.hid (show ∀ W W' : World, Below W1.heap.size W1 W -> (∀ k, k ≠ gB + 1 -> W'.heap[k]? = W.heap[k]?) -> W'.cell? ⟨gB, 0, none⟩ = some (.int .i64 0) /\ W'.cell? ⟨gB, 2, none⟩ = some (.int .u64 nx) /\ W'.cell? ⟨gl, 8, none⟩ = some (.int .u64 k4) /\ (∀ k, k ≠ gB + 1 -> k < W1.heap.size -> W'.heap[k]? = W1.heap[k]?) from fun W W' hb hk => by
  obtain ⟨a1, a2, a3, a4⟩ := HST.out W hb
  exact ⟨(cell_heap (hk gB (by omega))).trans a1, (cell_heap (hk gB (by omega))).trans a2, (cell_heap (hk gl (by omega))).trans a3, fun k h1 h2 => (hk k h1).trans (a4 k h1 h2)⟩)
 have HZ := Lib.hid r1
 have HB0 := Lib.hid hb1
 have HGB := Lib.hid hgB
 have HW1 := Lib.hid hW1
 have hsl := fun W => sl48 gl cap hcap W
 have h8c : ¬ cap < 8 := by omega
 clear hE hl hk hM hl0 r0 r1 hb1 hnx hgl hW1
 go_enter Tryz.func38, Tryz.ntmps38
 go_upto_region 1 with (fail)
 have HWW := HW1.out
 unfold zeroNd at HWW
 unfold Nd.cl uw at HWW
 (try unfold Nd.cl uw)
 (try rw [<- HWW])
 clear HWW
 rw [<- hgB]
 clear hgB
 go_wp2_with fail
 (try refine wp_region_noPanic ?_)
 refine wp_region_held_drew (S := fun W : World => W.cell? ⟨gB, 0, none⟩ = some (.int .i64 0) /\ W.cell? ⟨gB, 2, none⟩ = some (.int .u64 nx) /\ W.cell? ⟨gl, 8, none⟩ = some (.int .u64 k4) /\ (∀ k, k ≠ gB + 1 -> k < W1.heap.size -> W.heap[k]? = W1.heap[k]?)) (by kernel_rfl) (HST.out _ (drew_below _)) (fun hHeld => ?_)
 refine tkH (i := 0) (oi := ⟨some 11, _, _, _, _, _⟩) (v := .int .u64 to) rfl (Or.inl ⟨by kernel_rfl, by intro WW hSw; obtain ⟨s0, s2, s8, sb⟩ := hSw; go_simp⟩) (by assumption) ?_
 (try simp only [Act.put, q1, q2, q3])
 refine tkH (i := 1) (oi := ⟨some 12, _, _, _, _, _⟩) (v := .pointer (some ⟨gB, 0, none⟩)) rfl (Or.inl ⟨by kernel_rfl, by intro WW hSw; obtain ⟨s0, s2, s8, sb⟩ := hSw; go_simp⟩) (by assumption) ?_
 (try simp only [Act.put, q1, q2, q3])
 refine tkH (i := 2) (oi := ⟨some 13, _, _, _, _, _⟩) (v := .int .i64 0) rfl (Or.inl ⟨by kernel_rfl, by intro WW hSw; obtain ⟨s0, s2, s8, sb⟩ := hSw; go_simp⟩) (by assumption) ?_
 (try simp only [Act.put, q1, q2, q3])
 refine tkH (i := 3) (oi := ⟨some 14, _, _, _, _, _⟩) (v := .slice (some ⟨gl, 0, none⟩) 8 cap) rfl (Or.inl ⟨by kernel_rfl, by intro WW hSw; obtain ⟨s0, s2, s8, sb⟩ := hSw; go_simp⟩) (by assumption) ?_
 (try simp only [Act.put, q1, q2, q3])
 refine tkH (i := 4) (oi := ⟨some 15, _, _, _, _, _⟩) (v := .pointer (some ⟨gl, 8, none⟩)) rfl (Or.inl ⟨by kernel_rfl, by intro WW hSw; obtain ⟨s0, s2, s8, sb⟩ := hSw; go_simp⟩) (by assumption) ?_
 (try simp only [Act.put, q1, q2, q3])
 refine tkH (i := 5) (oi := ⟨some 16, _, _, _, _, _⟩) (v := .pointer (some ⟨gl, 8, none⟩)) rfl (Or.inl ⟨by kernel_rfl, by intro WW hSw; obtain ⟨s0, s2, s8, sb⟩ := hSw; go_simp⟩) (by assumption) ?_
 (try simp only [Act.put, q1, q2, q3])
 refine tkH (i := 6) (oi := ⟨some 17, _, _, _, _, _⟩) (v := .int .u64 k4) rfl (Or.inl ⟨by kernel_rfl, by intro WW hSw; obtain ⟨s0, s2, s8, sb⟩ := hSw; go_simp⟩) (by assumption) ?_
 (try simp only [Act.put, q1, q2, q3])
 refine tkH (i := 7) (oi := ⟨some 18, _, _, _, _, _⟩) (v := .pointer (some ⟨gB, 2, none⟩)) rfl (Or.inl ⟨by kernel_rfl, by intro WW hSw; obtain ⟨s0, s2, s8, sb⟩ := hSw; go_simp⟩) (by assumption) ?_
 (try simp only [Act.put, q1, q2, q3])
 refine tkH (i := 8) (oi := ⟨some 19, _, _, _, _, _⟩) (v := .int .u64 nx) rfl (Or.inl ⟨by kernel_rfl, by intro WW hSw; obtain ⟨s0, s2, s8, sb⟩ := hSw; go_simp⟩) (by assumption) ?_
 (try simp only [Act.put, q1, q2, q3])
 refine tkH (i := 9) (oi := ⟨some 20, _, _, _, _, _⟩) (v := .int .u64 to) rfl (Or.inl ⟨by kernel_rfl, by intro WW hSw; obtain ⟨s0, s2, s8, sb⟩ := hSw; go_simp⟩) (by assumption) ?_
 (try simp only [Act.put, q1, q2, q3])
 refine tkH (i := 10) (oi := ⟨some 21, _, _, _, _, _⟩) (v := .slice (some ⟨gl, 0, none⟩) 8 cap) rfl (Or.inl ⟨by kernel_rfl, by intro WW hSw; obtain ⟨s0, s2, s8, sb⟩ := hSw; go_simp⟩) (by assumption) ?_
 (try simp only [Act.put, q1, q2, q3])
 refine tkH (i := 11) (oi := ⟨some 22, _, _, _, _, _⟩) (v := .slice (some ⟨gl, 8, none⟩) 4 4) rfl (Or.inl ⟨by kernel_rfl, by intro WW hSw; obtain ⟨s0, s2, s8, sb⟩ := hSw; go_simp⟩) (by assumption) ?_
 (try simp only [Act.put, q1, q2, q3])
 refine wpAnyH_one (i := 12) (oi := ⟨some 23, _, _, _, _, _⟩) rfl (by kernel_rfl) (fun K hK => ?_)
 refine step_calls (by rfl) 73 EM.out [.tmp 11, .tmp 13, .tmp 17, .tmp 19, .tmp 20, .tmp 22] _ rfl [.int .u64 to, .int .i64 0, .int .u64 k4, .int .u64 nx, .int .u64 to, .slice (some ⟨gl, 8, none⟩) 4 4] rfl (HM.out _ (drew_below _)) ?_
 rintro e w5 ⟨rfl, hb5⟩
 have HB5 := Lib.hid (Below.and (drew_below W1) hb5)
 clear hb5
 refine ⟨_, rfl, hK _ _ (HST.out _ HB5.out) (fun hHeld => ?_)⟩
 clear hK K
 (try simp only [Act.put, q1, q2, q3])
 refine tkH (i := 13) (oi := ⟨some 24, _, _, _, _, _⟩) (v := .agg M.cl.toArray) rfl (Or.inl ⟨by kernel_rfl, by intro WW hSw; obtain ⟨s0, s2, s8, sb⟩ := hSw; go_simp⟩) (by assumption) ?_
 (try simp only [Act.put, q1, q2, q3])
 refine tkH (i := 14) (oi := ⟨some 25, _, _, _, _, _⟩) (v := .int .i64 0) rfl (Or.inl ⟨by kernel_rfl, by intro WW hSw; obtain ⟨s0, s2, s8, sb⟩ := hSw; go_simp⟩) (by assumption) ?_
 (try simp only [Act.put, q1, q2, q3])
 refine wpAnyH_one (i := 15) (oi := ⟨none, _, _, _, _, _⟩) rfl (by kernel_rfl) (fun K hK => ?_)
 refine step_storeNdH (by rfl) (.tmp 6) (.tmp 24) (by rfl) (gB + 1) M.cl _ (by rfl) (by rfl) (HZ.out.below HB5.out HZ.out.lt) rfl rfl (cl_one M) ?_
 intro w6 hr6 hb6 hk6
 have HR6 := Lib.hid hr6
 have HB6 := Lib.hid (HB0.out.trans (Below.trans (HB5.out.mono (by have := HB0.out.size; omega)) (hb6 w.heap.size (by rw [<- HGB.out]; omega) (by have := HB0.out.size; have := HB5.out.size; omega))))
 refine hK _ _ (HSK.out w5 w6 HB5.out hk6) (fun hHeld => ?_)
 clear hK K hr6 hb6 hk6
 (try simp only [Act.put, q1, q2, q3])
 refine tkH (i := 16) (oi := ⟨some 7, _, _, _, _, _⟩) (v := .int .i64 0) rfl (Or.inl ⟨by kernel_rfl, by intro WW hSw; obtain ⟨s0, s2, s8, sb⟩ := hSw; go_simp⟩) (by assumption) ?_
 (try simp only [Act.put, q1, q2, q3])
 refine wpAnyH_done (by kernel_rfl) ?_ _
 clear hHeld HST HSK HM hsl
 go_wp2_with fail
 (try refine (‹∀ (a : Act) (w : World), Code.wp Tryz.prog _ _ a w -> _›) _ _ ?_)
 (try go_wp2_with fail)
 refine bodyPost_ret (results_node_tmp rfl _ _ (gB + 1) M (by rfl) HR6.out) rfl ?_
 exact ⟨rfl, HB6.out⟩
end Go.Proofs.YtkbklooocdfcfaaGreatDoor
namespace Go.Proofs.YtkbklooocdfcfaaGreatDoor
open Go.RowKit
theorem run_ix24 (vs : List Value) (hl : vs.length = 24) {k : Nat} (hk : k < 24) {u : Value} (hv : vs[k]? = some u) (W : World) : (Instr.index 145 (.agg vs.toArray) (.int .i64 (k : Int))).run Tryz.prog W = .ok u W := by
 have hu : Tryz.prog.underlying 145 = some (.array 24 29) := by kernel_rfl
 have hk2 : k < vs.length := by omega
 have hv2 : vs[k] = u := by
  rw [List.getElem?_eq_getElem hk2] at hv
  exact Option.some.inj hv
 have h1 : (k : Int) < 24 := by omega
 have h2 : (0 : Int) <= (k : Int) := by omega
 simp [Instr.index, go_sem, hu, hl, hk2, hv, hv2, h1, h2, hk]
theorem spWords_any {base : Int} (hb0 : 0 <= base /\ base <= 1099511627776) (n : Nd) (w : World) : Calls Tryz.prog 41 #[.int .u64 base, n.V] w fun e w' => (∃ v, e = .returned v /\ w'.ownsRow w.heap.size 165 2 v 24 (flatE (layL base n))) /\ Below w.heap.size w w' := by
 obtain ⟨i0, hi, hz0, hz1, hz2⟩ := info_parts infoPut11
 have r0 := Row.new w 71 n.cl.toArray
 obtain ⟨Wa, hWa⟩ : ∃ Wa, Wa = w.alloc (.cells n.cl.toArray 71) := ⟨_, rfl⟩
 rw [<- hWa] at r0
 have HSa := Lib.hid (show w.heap.size <= Wa.heap.size by rw [hWa]; simp)
 have HB0 := Lib.hid (show Below w.heap.size w Wa by rw [hWa]; exact alloc_below _ _)
 have R0 := Lib.hid r0
 have HWa := Lib.hid hWa
 have HW := Lib.hid (nWords_any n Wa)
 have HGET := Lib.hid (show ∀ k, k < 24 -> (wordsL n)[k]? = some (.int .u64 (wAt (wi n) k)) from fun k hk => by
  rw [wi_words]
  exact wAt_get (wi_len n) hk)
 obtain ⟨vs, hV⟩ : ∃ vs, vs = wordsL n := ⟨_, rfl⟩
 have HLV := Lib.hid (show vs.length = 24 by rw [hV, wi_words, List.length_map, wi_len])
 rw [<- hV] at HW HGET
 clear r0 hWa hV
 go_enter Tryz.func41, Tryz.ntmps41
 go_wp2_with (first
  | (rw [<- HWa.out]; refine wpList_load_mid rfl _ _ rfl w.heap.size 0 rfl n.cl _ (ndR R0.out) Tryz.underlying71 rfl ndI ?_)
  | (go_at_call 80; refine HW.out.mono ?_; rintro e W2 ⟨rfl, hb1⟩; have HB2 := Lib.hid hb1; clear hb1))
 go_loopw [5, 10] (fun o i wr => ∃ k : Nat, k <= 24 /\ i = .int .i64 (k : Int) /\ wr.ownsRow W2.heap.size 165 2 o k (flatE ((layL base n).take k)) /\ Below W2.heap.size W2 wr) (fun _ i _ => 24 - (intOf i).toNat)
 case atStart => exact ⟨0, by omega, rfl, World.ownsRow_nil _ _ _ _, Below.refl _ _⟩
 case round =>
  rename World => wr
  obtain ⟨k, hk, rfl, ho, hb⟩ := hrel
  have HO := Lib.hid ho
  have HBr := Lib.hid hb
  have HSZ := Lib.hid hb.size
  have hwsz := hb.size
  by_cases hlt : k < 24
  ·have hxi : (k : Int) < 24 := by omega
   have cg : vs[k]? = some (.int .u64 (wAt (wi n) k)) := HGET.out k hlt
   have HST := Lib.hid (layL_take base n hlt)
   obtain ⟨x, hx⟩ : ∃ x, x = wAt (wi n) k := ⟨_, rfl⟩
   rw [<- hx] at cg HST
   have hw1 : IntKind.u64.wrap (8 * (k : Int)) = 8 * (k : Int) := by rw [IntKind.wrap_u64]; omega
   have hw2 : IntKind.u64.wrap (base + 8 * (k : Int)) = base + 8 * (k : Int) := by rw [IntKind.wrap_u64]; omega
   have HIX := Lib.hid (fun W => run_ix24 vs (HLV.out) hlt cg W)
   have hix := HIX.out
   clear ho hb hx
   go_wp2_with (at_builtin; refine wpList_append_own _ rfl _ _ 28 rfl W2.heap.size 165 i0 (.agg #[.int .u64 0, .int .u64 0]) 2 16 Tryz.underlying28 hi hz0 hz1 hz2 rfl (by decide) _ _ _ rfl (ownS_low HO.out (alloc_below _ _)) ⟨wr.heap.size, 0, none⟩ 1 1 [.int .u64 (base + 8 * (k : Int)), .int .u64 x] rfl ?qc1 ?qc2 ?qc3 ?qc4 ?qc5 ?qc6 ?_)
   case qc1 => rfl
   case qc2 =>
    intro j u hj
    rw [Addr.add_lit, Nat.zero_add, (Row.new _ _ _).cell, <- Array.getElem?_toList]
    exact hj
   case qc3 => intro u hu; simp at hu; rcases hu with rfl | rfl <;> rfl
   case qc4 => unfold maxLen; omega
   case qc5 => omega
   case qc6 => have := HSZ.out; simp; omega
   intro v' w4 hown hgrow hnil
   have HO4 := Lib.hid hown
   have HB4 := Lib.hid (show Below W2.heap.size W2 w4 from (Below.and HBr.out (alloc_below _ _)).grown hgrow (by have := HSZ.out; simp; omega) (fun g hg => (ownS_from HO.out g hg).1))
   clear hown hgrow hnil
   go_wp2
   exact ⟨⟨k + 1, by omega, by go_num, by rw [HST.out, flatE_snoc]; exact HO4.out, HB4.out⟩, by simp [intOf]; omega⟩
  ·obtain rfl : k = 24 := by omega
   go_wp2
   go_ret
   have hs2 := HB2.out.size
   refine ⟨⟨_, rfl, ?_⟩, Below.and HB0.out (Below.and HB2.out HBr.out)⟩
   have := ownS_mono HO.out (show w.heap.size <= W2.heap.size by have := HSa.out; omega)
   rw [List.take_of_length_le (Nat.le_of_eq (layL_len base n))] at this
   exact this
end Go.Proofs.YtkbklooocdfcfaaGreatDoor
namespace Go.Proofs.YtkbklooocdfcfaaGreatDoor
open Go.RowKit
attribute [local go_sem] Oper.semAt_some
theorem ent_cellsS {w : World} {B n : Nat} {e : TypeId} {v : Value} {l : List (Int × Int)} (h : w.ownsRow B e 2 v n (flatE l)) (hn : l.length = n) (h0 : 0 < n) : ∃ g cap, v = .slice (some ⟨g, 0, none⟩) n cap /\ n <= cap /\ B <= g /\ ∀ k, k < n -> w.cell? ⟨g, k * 2, none⟩ = some (.int .u64 (l.getD k (0, 0)).1) /\ w.cell? ⟨g, k * 2 + 1, none⟩ = some (.int .u64 (l.getD k (0, 0)).2) := by
 rcases h.2 with ⟨rfl, h2⟩ | ⟨g, cap, cur, rfl, hb, hh, hc, _⟩
 ·omega
 ·refine ⟨g, cap, rfl, hc, hb, fun k hk => ?_⟩
  obtain ⟨f1, f2⟩ := flatE_at l k (l.getD k (0, 0)) (by rw [List.getD_eq_getElem?_getD, List.getElem?_eq_getElem (by omega)]; rfl)
  have c1 := h.cells (g := g) rfl _ _ f1
  have c2 := h.cells (g := g) rfl _ _ f2
  rw [Addr.add_lit, Nat.zero_add] at c1 c2
  exact ⟨c1, c2⟩
theorem spWrite_leaf {w : World} {g : Nat} {s : SF} {m q : Option Addr} {a to k4 : Int} {N M : Nd} {Q : World -> Prop} {lk : List (Int × Int)} {ln : List (Nat × Nat)} (h : SpAt w g s)
  (hA : Calls Tryz.prog 25 #[.pointer s.ho] w fun e w' => e = .returned (.tuple #[.int .u64 a, N.V, .int .i64 0]) /\ Below w.heap.size w w') (hes : N.es.length = 8) (hl0 : N.l = 0) (hk4 : (N.es.getD 4 (0, 0)).1 = k4)
  (hS : ∀ W, Below w.heap.size w W -> Calls Tryz.prog 12 #[.pointer s.si] W fun e w' => e = .returned (.pointer q) /\ W = w')
  (hR : ∀ W, Below w.heap.size w W -> Calls Tryz.prog 37 #[.pointer q, .int .i64 3] W fun e w' => e = .returned (.tuple #[.int .u64 to, .int .i64 0]) /\ Q w' /\ But W w' (fun k => k < w.heap.size)) (hQ : ∀ W, Q W -> SpAt W g s)
  (hM : makeR to 0 k4 N.nx to (N.es.drop 4) = (M, 0)) (hF : ∀ W, Calls Tryz.prog 39 #[.int .u64 a, N.V, .int .u64 to] W (PutsOut W (lk, 0))) (hto : 0 <= to /\ to <= 1099511627776)
  (hfl : flatE (layL to M) = flat ln) (hn : ln.length = 24) (hMem : ∀ w5 W, Q w5 -> But w5 W (fun q => q = g) -> Calls Tryz.prog 27 #[.pointer s.si] W fun e w' => e = .returned (.pointer m) /\ W = w') :
  Calls Tryz.prog 14 #[.pointer (some ⟨g, 0, none⟩)] w fun e w' => ∃ rg w5, e = .returned (.tuple #[nextV 79 rg, .int .i64 0]) /\ Q w5 /\ But w5 w' (fun q => q = g) /\ SpAt w' g { s with to := to, low := k4 } /\ w5.heap.size <= rg /\ ∃ V', RunAt w' rg m (RnRS.new s.cl ln) V' /\ ∀ k, V'.ownBlock = some k -> ln ≠ [] -> w5.heap.size <= k /\ k ≠ rg := by
 have mixed : Tryz.prog.follows .mixedOrders = true := by kernel_rfl
 have c2 : w.cell? ⟨g, 2, none⟩ = some (.pointer s.ho) := Row.cell h 2
 have HGG := Lib.hid h.lt
 have HA := Lib.hid hA
 have HH := Lib.hid h
 have HS := Lib.hid hS
 have HR := Lib.hid hR
 have HQ := Lib.hid hQ
 have HF := Lib.hid hF
 have HM := Lib.hid hM
 have HMem := Lib.hid hMem
 have HE := Lib.hid (And.intro hes (And.intro hl0 hk4))
 have HL := Lib.hid (And.intro hto (And.intro hfl hn))
 clear h hA hes hl0 hk4 hS hR hQ hM hF hto hfl hn hMem
 go_enter Tryz.func14, Tryz.ntmps14
 go_wp2_with fail
 refine HA.out.mono ?_
 rintro e w1 ⟨rfl, hb1⟩
 have HB1 := Lib.hid hb1
 clear hb1 c2 HA
 go_upto_region 2 with (first
  | ((with_reducible refine show_storeN ?_); refine wpList_store_row rfl _ _ _ rfl w1.heap.size N.cl rfl rfl (Row.new w1 71 zeroNd.cl.toArray) rfl ndI (cl_one _) ?_))
 obtain ⟨W2, hW2, hn2, hb2⟩ := store_ndH w1 N
 rw [<- hW2]
 have HB2 := Lib.hid (Below.and HB1.out hb2)
 have HN2 := Lib.hid hn2
 obtain ⟨gn, hgn⟩ : ∃ gn, gn = w1.heap.size := ⟨_, rfl⟩
 rw [<- hgn] at HN2 ⊢
 have HGN := Lib.hid (show w.heap.size <= gn from by have := HB1.out.size; omega)
 have HV := Lib.hid (nValid_any N W2)
 clear hW2 hn2 hb2 hgn
 go_wp2_with (first
  | ((with_reducible refine show_loadN ?_); refine wpList_load_mid rfl _ _ rfl gn 0 rfl N.cl _ (ndR HN2.out) Tryz.underlying71 rfl ndI ?_))
 refine HV.out.mono ?_
 rintro e w3 ⟨⟨v, rfl, ho3⟩, hb3⟩
 rw [HE.out.1] at ho3
 obtain ⟨gl, cap, rfl, hcap, hgl, hce⟩ := ent_cellsS ho3 HE.out.1 (by decide)
 have HB3 := Lib.hid (Below.and HB2.out hb3)
 have HN3 := Lib.hid (HN2.out.below hb3 HN2.out.lt)
 have HGL := Lib.hid (show w.heap.size <= gl from by have := HB2.out.size; omega)
 have HCE := Lib.hid hce
 have HCAP := Lib.hid hcap
 have HS3 := Lib.hid (HS.out w3 HB3.out)
 have HR3 := Lib.hid (HR.out w3 HB3.out)
 have d0 : w3.cell? ⟨g, 0, none⟩ = some (.pointer s.si) := Row.cell (HH.out.below HB3.out) 0
 clear ho3 hb3 hce hcap hgl HV HN2 HB2 HS HR
 go_wp2_with fail
 refine HS3.out.mono ?_
 rintro e w4 ⟨rfl, hw4⟩
 subst hw4
 go_wp2_with fail
 refine HR3.out.mono ?_
 rintro e w5 ⟨rfl, hq5, hb5⟩
 have h5 := HQ.out w5 hq5
 have HQ5 := Lib.hid hq5
 have e6 : w5.cell? ⟨g, 6, none⟩ = some (.int .u64 s.low) := Row.cell h5 6
 have e7 : w5.cell? ⟨g, 7, none⟩ = some (.int .u64 s.to) := Row.cell h5 7
 have f6 := Row.free h5 6
 have f7 := Row.free h5 7
 have kc : ∀ i u, w3.cell? ⟨gl, i, none⟩ = some u -> w5.cell? ⟨gl, i, none⟩ = some u := fun i u hu => hb5.cell hu (show ¬ gl < w.heap.size by have := HGL.out; omega)
 have e8 : w5.cell? ⟨gl, 8, none⟩ = some (.int .u64 k4) := by
  have := kc _ _ (HCE.out 4 (by decide)).1
  rw [HE.out.2.2] at this
  exact this
 have hn5 : NdAt w5 gn N := hb5.row HN3.out (show ¬ gn < w.heap.size by have := HGN.out; omega)
 obtain ⟨W6, hW6⟩ : ∃ W6, W6 = (w5.setCell ⟨g, 7, none⟩ (.int .u64 to)).setCell ⟨g, 6, none⟩ (.int .u64 k4) := ⟨_, rfl⟩
 have h6 : SpAt W6 g { s with to := to, low := k4 } := by rw [hW6]; exact (h5.tos to).lows k4
 have hb6 : But w5 W6 (fun q => q = g) := by rw [hW6]; exact hbut1 (hbut1 (But.refl w5 (fun q => q = g)) 7 _) 6 _
 have hn6 : NdAt W6 gn N := hb6.row hn5 (show ¬ gn = g by have := HGN.out; have := HGG.out; omega)
 have HEN := Lib.hid (show EntAt W6 (.slice (some ⟨gl, 8, none⟩) 4 4) (N.es.drop 4) from by
  have hlen : (N.es.drop 4).length = 4 := by rw [List.length_drop, HE.out.1]
  refine ⟨some ⟨gl, 8, none⟩, 4, by rw [hlen], fun _ => ⟨gl, 8, rfl, fun i e he => ?_⟩⟩
  have hi : i < 4 := by have := (List.getElem?_eq_some_iff.1 he).1; omega
  obtain ⟨x1, x2⟩ := HCE.out (4 + i) (by omega)
  have hg : N.es.getD (4 + i) (0, 0) = e := by
   rw [List.getElem?_drop] at he
   rw [List.getD_eq_getElem?_getD, he]
   rfl
  rw [hg] at x1 x2
  have y1 := hb6.cell (kc _ _ x1) (show ¬ gl = g by have := HGL.out; have := HGG.out; omega)
  have y2 := hb6.cell (kc _ _ x2) (show ¬ gl = g by have := HGL.out; have := HGG.out; omega)
  rw [show (4 + i) * 2 = 8 + i * 2 by omega] at y1 y2
  exact ⟨y1, y2⟩)
 have k86 : W6.cell? ⟨gl, 8, none⟩ = some (.int .u64 k4) := hb6.cell e8 (show ¬ gl = g by have := HGL.out; have := HGG.out; omega)
 have HUP := Lib.hid (spUpper_leaf HCAP.out HE.out.2.1 HEN.out (by rw [List.length_drop, HE.out.1]) k86 HM.out)
 have HN6 := Lib.hid hn6
 have HB6 := Lib.hid hb6
 have H6 := Lib.hid h6
 clear hq5 h5 hb5 kc hn5 h6 hb6 hn6 k86 d0 HS3 HR3 HN3 HCE
 go_upto_region 9 with (fail)
 (try rw [<- hW6])
 clear e6 e7 e8 f6 f7 hW6
 go_wp2_with (first
  | ((with_reducible refine show_loadN ?_); refine wpList_load_mid rfl _ _ rfl gn 0 rfl N.cl _ (ndR HN6.out) Tryz.underlying71 rfl ndI ?_))
 refine HUP.out.mono ?_
 rintro e w7 ⟨rfl, hb7⟩
 have HB7 := Lib.hid hb7
 clear hb7
 go_upto_region 10 with (first
  | ((with_reducible refine show_storeN ?_); refine wpList_store_row rfl _ _ _ rfl w7.heap.size M.cl rfl rfl (Row.new w7 71 zeroNd.cl.toArray) rfl ndI (cl_one _) ?_))
 obtain ⟨W8, hW8, hn8, hb8⟩ := store_ndH w7 M
 rw [<- hW8]
 have HB8 := Lib.hid (Below.and HB7.out hb8)
 obtain ⟨gm, hgm⟩ : ∃ gm, gm = w7.heap.size := ⟨_, rfl⟩
 rw [<- hgm] at hn8 ⊢
 have HM8 := Lib.hid hn8
 have HN8 := Lib.hid (HN6.out.below HB8.out HN6.out.lt)
 have HF8 := Lib.hid (HF.out W8)
 clear hW8 hn8 hb8 hgm HUP HN6
 go_wp2_with (first
  | ((with_reducible refine show_loadN ?_); refine wpList_load_mid rfl _ _ rfl gn 0 rfl N.cl _ (ndR HN8.out) Tryz.underlying71 rfl ndI ?_))
 refine HF8.out.mono ?_
 rintro e w9 ⟨⟨v9, rfl, ho9⟩, hb9⟩
 have HB9 := Lib.hid (Below.and HB8.out hb9)
 have HM9 := Lib.hid (HM8.out.below hb9 HM8.out.lt)
 have HW9 := Lib.hid (spWords_any HL.out.1 M w9)
 clear hb9 ho9 HF8 HM8
 go_wp2_with (first
  | ((with_reducible refine show_loadN ?_); refine wpList_load_mid rfl _ _ rfl gm 0 rfl M.cl _ (ndR HM9.out) Tryz.underlying71 rfl ndI ?_))
 refine HW9.out.mono ?_
 rintro e wa ⟨⟨va, rfl, hoa⟩, hba⟩
 rw [HL.out.2.1] at hoa
 have hne : ln ≠ [] := fun e => by have := HL.out.2.2; rw [e] at this; cases this
 have hah := own_ahead hoa HL.out.2.2 hne
 have HBA := Lib.hid (Below.and HB9.out hba)
 have HRUN := Lib.hid (spRun_any (H6.out.below HBA.out) (m := m) (fun W hb => HMem.out w5 W HQ5.out (HB6.out.trans (But.of_below (Below.and HBA.out hb) (fun q => q = g)) fun q hq => .inl hq)) hah hne (by have := HL.out.2.2; omega))
 obtain ⟨Aa, ca, rfl, _, _⟩ := hah.len
 clear hoa hba hah hne HW9
 go_wp2_with fail
 refine HRUN.out.mono ?_
 rintro e wb ⟨⟨rg, V', rfl, hra, hrg, hvs⟩, hbb⟩
 have HE2 := Lib.hid (And.intro hra (And.intro hrg (And.intro hvs hbb)))
 clear hra hrg hvs hbb HRUN
 unfold nextV
 go_wp2_with fail
 go_ret2
 have hsz : w5.heap.size <= wa.heap.size := by have := HB6.out.size; have := HBA.out.size; omega
 refine ⟨rg, w5, rfl, HQ5.out, HB6.out.trans (But.of_below (Below.and HBA.out HE2.out.2.2.2) (fun q => q = g)) fun q hq => .inl hq, H6.out.below (Below.and HBA.out HE2.out.2.2.2), by have := HE2.out.2.1; omega, V', HE2.out.1, fun k hk h0 => ⟨by have := (HE2.out.2.2.1 k hk h0).1; omega, (HE2.out.2.2.1 k hk h0).2⟩⟩
end Go.Proofs.YtkbklooocdfcfaaGreatDoor
