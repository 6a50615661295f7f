/- Texts of this claim, packed: LFence, LWhole. -/
import Derived.Test.YtahojhaeebmpoaaGreatDoorPk47
/- What a turn's places do: settle, fence. -/
namespace Go.Proofs.YtahojhaeebmpoaaGreatDoor
open Go.RowKit Go.Sort
set_option linter.unusedVariables false
/-- What a block is behind its turn: published, or free. -/
def settled (v : Nat) : Nat := if v = 4 then 2 else 0
def SetPost (w : World) (ym : Lay) (s : St) (y : SLay) (gt : Nat) (c : Int) (i j : Nat) (f : FuncId) (d : Bool) (code : Int) (hs' : List Hd) (e : Ending) (w' : World) : Prop :=
  e = .returned (.tuple #[]) ∧ ∃ y' fs', Game w' ym s y' hs' fs' ∧ TAt w' ym y' gt c i j f d code ∧ GTurn w w' ym ym y y' gt
set_option maxRecDepth 100000 in
set_option maxHeartbeats 3200000 in
theorem settle_any {w : World} {ym : Lay} {s : St} {y : SLay} {hs : List Hd} {fs : Nat → List Nat} (G : Game w ym s y hs fs) {gt i j v : Nat} {x : Hd} {c code : Int} {d : Bool} {f : Nat}
    (T : TAt w ym y gt c i j f d code) (hx : hs[i]? = some x) (hv : x.bl[j]? = some v) (hv0 : v ≠ 0) :
    Calls Tryz.prog 143 #[fpt gt] w (SetPost w ym s y gt c i j f d code (hs.set i { x with bl := x.bl.set j (settled v) })) := by
  have mixed : Tryz.prog.follows .mixedOrders = true := by kernel_rfl
  have hr : Row w gt 165 (tcells y.gs ym.g c y.gh i j (place f gt) d code) := T
  obtain ⟨n1, n2, n3, n4⟩ := head_addr G hx
  have hjl := (List.getElem?_eq_some_iff.1 hv).1
  have hl15 := (G.mem.lens x (List.mem_of_getElem? hx)).1
  have d0 := hr.cell 0
  have d3 := hr.cell 3
  have d4 := hr.cell 4
  simp only [tcells, List.getElem?_toArray, List.getElem?_cons_succ, List.getElem?_cons_zero] at d0 d3 d4
  obtain ⟨g, hsh, hrow⟩ := (G.mem.blk i x hx).pos (by omega)
  have hown : (y.bv i).ownBlock = some g := by rw [hsh]; rfl
  have hh := (G.mem.head hx).2.2.2
  rw [hsh] at hh
  have cj := hrow.cell j
  rw [List.getElem?_toArray, List.getElem?_map, hv, Option.map_some] at cj
  unfold jv at d4 cj
  unfold fpt at d0
  have fj := hrow.free j
  have HG := Lib.hid G
  have HR := Lib.hid hr
  have HX := Lib.hid hx
  have HV := Lib.hid hv
  have HOW := Lib.hid hown
  have HJB := Lib.hid (show j < blN x.cls by rw [← (G.ho i x hx).2]; exact hjl)
  have HRW := Lib.hid hrow
  have HN := Lib.hid (show 1 ≤ x.no ∧ x.no ≤ 64 from ⟨n1, n2⟩)
  have HJL := Lib.hid hjl
  have D0 := Lib.hid d0
  have D3 := Lib.hid d3
  have D4 := Lib.hid d4
  have DH := Lib.hid hh
  have DJ := Lib.hid cj
  have ca := fun p : LowBy w => p.cell d3
  have cb := fun p : LowBy w => p.cell d4
  have cc := fun p : LowBy w => p.cell hh
  have ce := fun p : LowBy w => p.cell cj
  obtain ⟨gh, hgh⟩ : ∃ gh, gh = y.gh := ⟨_, rfl⟩
  rw [← hgh] at ca cc D3 DH
  obtain ⟨gs, hgs⟩ : ∃ gs, gs = y.gs := ⟨_, rfl⟩
  rw [← hgs] at D0
  have HGH := Lib.hid hgh
  have HGS := Lib.hid hgs
  unfold fpt
  clear G hr T n1 n2 n3 n4 d0 d3 d4 hsh hrow hown hh cj hx hv hgh hgs fj
  generalize x.bl.length = m at *
  by_cases hv4 : v = 4
  · have hz : ((v : Int) == 4) = true := by rw [hv4]; rfl
    have HST := Lib.hid (show settled v = 2 from if_pos hv4)
    have HV0 := Lib.hid hv0
    clear hv4 hv0
    go_enter Tryz.func143, Tryz.ntmps143
    go_wp2_with fail
    refine wp_region_quiet_low (by assumption) (by kernel_rfl) ?_
    repeat (go_big_quiet_step (fail))
    refine wpQuiet_nil ?_
    intro _ hw'
    obtain ⟨p, hw''⟩ := hw'
    subst hw''
    have e3 := p.cell D3.out
    have e4 := p.cell D4.out
    have eh := p.cell DH.out
    have HPL := Lib.hid p.low
    clear ca cb cc ce
    generalize p.W = w1 at *
    clear p
    have ca := fun p : LowBy w1 => p.cell e3
    have cb := fun p : LowBy w1 => p.cell e4
    have cc := fun p : LowBy w1 => p.cell eh
    clear e3 e4 eh
    go_wp2_with fail
    refine wp_region_low_tail 12 (by assumption) (by kernel_rfl) ?_
    simp only [List.take_succ_cons, List.take_zero, List.drop_succ_cons, List.drop_zero]
    repeat (go_big_quiet_step (fail))
    refine wpQuiet_nil ?_
    intro _ hw'
    obtain ⟨p, hw''⟩ := hw'
    subst hw''
    have HB := Lib.hid (Below.and HPL.out p.low)
    have hrw := HRW.out.below HB.out HRW.out.lt
    have k1 := hrw.free j
    have k2 : p.W.cell? ⟨g, j, none⟩ = some (.int .i64 (v : Int)) := (HB.out.cell (p := ⟨g, j, none⟩) HRW.out.lt).trans DJ.out
    have HEND := Lib.hid (show SetPost w ym s y gt c i j f d code (hs.set i { x with bl := x.bl.set j (settled v) }) (.returned (.tuple #[])) (p.W.setCell ⟨g, j, none⟩ (.int .i64 2)) from by
      have Gp := HG.out.below HB.out
      have Tp := HR.out.below HB.out HR.out.lt
      obtain ⟨hp3, tp3⟩ := Gp.mem.put_bl (j := j) HX.out HOW.out 2
      rw [HST.out]
      have G4 := Gp.onSlab hp3 (Gp.ho.set_bl HX.out) (Gp.fo.turn HX.out HV.out HV0.out (by decide)) (by rw [List.length_set]) tp3
      have t4 := (GTurn.of_below ym y gt HB.out).trans (GTurn.of_slab ym gt tp3)
      exact ⟨rfl, y, fs, G4, TAt.turn (Tp.onSlab Gp tp3) t4, t4⟩)
    clear ca cb cc hrw
    go_wp2
    refine bodyPost_ret (results_none rfl _ _ _) rfl ?_
    exact HEND.out
  · have hz : ((v : Int) == 4) = false := by rw [Bool.eq_false_iff]; intro k; have := beq_iff_eq.1 k; omega
    have HST := Lib.hid (show settled v = 0 from if_neg hv4)
    have HV0 := Lib.hid hv0
    clear hv4 hv0
    go_enter Tryz.func143, Tryz.ntmps143
    go_wp2_with fail
    refine wp_region_quiet_low (by assumption) (by kernel_rfl) ?_
    repeat (go_big_quiet_step (fail))
    refine wpQuiet_nil ?_
    intro _ hw'
    obtain ⟨p, hw''⟩ := hw'
    subst hw''
    have e0 := p.cell D0.out
    have e3 := p.cell D3.out
    have e4 := p.cell D4.out
    have HPL := Lib.hid p.low
    clear ca cb cc ce
    generalize p.W = w1 at *
    clear p
    have ca := fun p : LowBy w1 => p.cell e3
    have cb := fun p : LowBy w1 => p.cell e4
    have cc := fun p : LowBy w1 => p.cell e0
    clear e3 e4 e0
    go_wp2_with fail
    refine wp_region_low_tail 12 (by assumption) (by kernel_rfl) ?_
    simp only [List.take_succ_cons, List.take_zero, List.drop_succ_cons, List.drop_zero]
    repeat (go_big_quiet_step (fail))
    refine wpQuiet_nil ?_
    intro _ hw'
    obtain ⟨p, hw''⟩ := hw'
    subst hw''
    have HB := Lib.hid (Below.and HPL.out p.low)
    have Gp := HG.out.below HB.out
    have HLV := leave_any Gp.mem Gp.rs HX.out HN.out (j := j) (by have := HJB.out; have := (Gp.ho i x HX.out).2; omega) HJB.out (by have := Gp.fo.few Gp.ho Gp.mem.most x.cls; omega)
    unfold fpt jv at HLV
    rw [← HGS.out, ← HGH.out] at HLV
    have HLV := Lib.hid HLV
    have HGP := Lib.hid Gp
    clear ca cb cc Gp
    go_wp2_with fail
    refine HLV.out.mono ?_
    rintro e w3 ⟨rfl, y3, hm3, tp3⟩
    have HEND := Lib.hid (show SetPost w ym s y gt c i j f d code (hs.set i { x with bl := x.bl.set j (settled v) }) (.returned (.tuple #[])) w3 from by
      have Gp := HGP.out
      have Tp := HR.out.below HB.out HR.out.lt
      rw [HST.out]
      have G4 := Gp.onSlab hm3 (Gp.ho.set_bl HX.out) (Gp.fo.back Gp.ho Gp.mem.most HX.out (by have := HJB.out; have := (Gp.ho i x HX.out).2; omega)) (by rw [List.length_set]) tp3
      have t4 := (GTurn.of_below ym y gt HB.out).trans (GTurn.of_slab ym gt tp3)
      exact ⟨rfl, y3, _, G4, TAt.turn (Tp.onSlab Gp tp3) t4, t4⟩)
    clear hm3 tp3 HLV
    go_wp2
    refine bodyPost_ret (results_none rfl _ _ _) rfl ?_
    exact HEND.out
set_option maxRecDepth 100000 in
set_option maxHeartbeats 3200000 in
theorem tfence_any {w : World} {ym : Lay} {s : St} {y : SLay} {hs : List Hd} {fs : Nat → List Nat} (G : Game w ym s y hs fs) {gt i j cl v : Nat} {x : Hd} {code : Int} {d : Bool} {f : Nat}
    (T : TAt w ym y gt (cl : Int) i j f d code) (hg : gt ≠ 0) (hcl : cl ≤ 64) (hx : hs[i]? = some x) (hv : x.bl[j]? = some v) (hv0 : v ≠ 0) (hfe : s.fe + 1 < 9223372036854775808) :
    Calls Tryz.prog 135 #[fpt gt] w fun e w' => e = .returned (.int .i64 0) ∧ PlacePost w ym y gt (cl : Int) i j f true code (s.fence cl) (hs.set i { x with bl := x.bl.set j (settled v) }) w' := by
  have mixed : Tryz.prog.follows .mixedOrders = true := by kernel_rfl
  have hr : Row w gt 165 (tcells y.gs ym.g cl y.gh i j (place f gt) d code) := T
  have d1 := hr.cell 1
  have d2 := hr.cell 2
  simp only [tcells, List.getElem?_toArray, List.getElem?_cons_succ, List.getElem?_cons_zero] at d1 d2
  unfold fpt at d1
  have ca := fun p : LowBy w => p.cell d1
  have cb := fun p : LowBy w => p.cell d2
  have hok : (s.fence cl).Ok := fence_Ok G.ok hfe
  have HS0 : ∀ (p : LowBy w), Calls Tryz.prog 142 #[.pointer (some ⟨ym.g, 0, none⟩), .int .i64 (cl : Int)] p.W (StPost p.W ym (s.fence cl) 0) :=
    fun p => fence_ok (G.pm.below p.low) G.ok cl hcl hfe
  have HS := Lib.hid HS0
  have HE := Lib.hid (show ∀ (p : LowBy w) (w' : World) (ym' : Lay), MemAt w' ym' (s.fence cl) → Turn p.W w' ym ym' → Game w' ym' (s.fence cl) y hs fs ∧ TAt w' ym' y gt (cl : Int) i j f d code ∧ GTurn w w' ym ym' y y gt from fun p w' ym' hm' ht' => by
    have Gp := G.below p.low
    have Tp := hr.below p.low hr.lt
    have tt := (GTurn.of_below ym y gt p.low).trans (GTurn.of_mem y gt ht')
    exact ⟨Gp.onMem hm' hok rfl ht', TAt.turn (Tp.onMem Gp ht') tt, tt⟩)
  have HX := Lib.hid hx
  have HV := Lib.hid hv
  have HV0 := Lib.hid hv0
  have HG0 := Lib.hid hg
  obtain ⟨S', hS'⟩ : ∃ S', S' = s.fence cl := ⟨_, rfl⟩
  rw [← hS'] at HS HE ⊢
  obtain ⟨gm, hgm⟩ : ∃ gm, gm = ym.g := ⟨_, rfl⟩
  rw [← hgm] at ca HS
  unfold fpt
  clear G hr T d1 d2 hok hS' hgm HS0 hfe hx hv hv0 hg
  go_enter Tryz.func135, Tryz.ntmps135
  go_wp2_with fail
  refine wp_region_low_tail 8 (by assumption) (by kernel_rfl) ?_
  simp only [List.take_succ_cons, List.take_zero, List.drop_succ_cons, List.drop_zero]
  repeat (go_big_quiet_step (fail))
  refine wpQuiet_nil ?_
  intro _ hw'
  obtain ⟨p, hw''⟩ := hw'
  subst hw''
  clear ca cb
  go_wp2_with fail
  refine (HS.out p).mono ?_
  rintro e w2 ⟨rfl, ym2, hm2, ht2⟩
  obtain ⟨G2, T2, t2⟩ := HE.out p w2 ym2 hm2 ht2
  have HSE := settle_any G2 T2 HX.out HV.out HV0.out
  unfold fpt at HSE
  have HSE := Lib.hid HSE
  have Ht2 := Lib.hid t2
  clear hm2 ht2 G2 T2 t2 HS HE
  go_wp2_with fail
  refine HSE.out.mono ?_
  rintro e w3 ⟨rfl, y3, fs3, G3, T3, t3⟩
  have hr3 : Row w3 gt 165 (tcells y3.gs ym2.g cl y3.gh i j (place f gt) d code) := T3
  have c6 := hr3.cell 6
  simp only [tcells, List.getElem?_toArray, List.getElem?_cons_succ, List.getElem?_cons_zero] at c6
  have f6 := hr3.free 6
  have HEND := Lib.hid (show PlacePost w ym y gt (cl : Int) i j f true code S' (hs.set i { x with bl := x.bl.set j (settled v) }) (w3.setCell ⟨gt, 6, none⟩ (.bool true)) from by
    have t4 := (Ht2.out.trans t3).trans (GTurn.of_set w3 ym2 y3 gt 6 (.bool true))
    refine ⟨ym2, y3, fs3, G3.set hr3 HG0.out 6 _, ?_, t4⟩
    show Row _ _ _ _
    rw [← tcells_done y3.gs ym2.g y3.gh i j gt cl code f d]
    exact hr3.set 6 _)
  clear G3 T3 t3 hr3 HSE
  go_wp2
  go_ret
  exact ⟨rfl, HEND.out⟩
end Go.Proofs.YtahojhaeebmpoaaGreatDoor
/- A turn's step, place by place; did, step, whole of the law. -/
namespace Go.Proofs.YtahojhaeebmpoaaGreatDoor
open Go.RowKit Go.Sort
set_option linter.unusedVariables false
theorem tcells_code (gs gm gh i j gt : Nat) (c code k : Int) (f : Nat) (d : Bool) : ((tcells gs gm c gh i j (place f gt) d code).setIfInBounds 7 (.int .i64 k)).setIfInBounds 6 (.bool d) = tcells gs gm c gh i j (place f gt) d k := rfl
def StepP (w : World) (ym : Lay) (y : SLay) (gt : Nat) (c : Int) (i j : Nat) (f : FuncId) (d : Bool) (s' : St) (hs' : List Hd) (e : Ending) (w' : World) : Prop :=
  e = .returned (.tuple #[.bool d, .int .i64 0]) ∧ PlacePost w ym y gt c i j f d 0 s' hs' w'
theorem step_place {w : World} {ym : Lay} {y : SLay} {gt i j : Nat} {c code : Int} {f f' : Nat} {d' : Bool} {s' : St} {hs' : List Hd} (hcall : ∀ (w : World) (v : Value), (callFunc f #[v]).run Tryz.prog w = .ok (.enter f #[v]) w)
    (T : TAt w ym y gt c i j f false code) (hg : gt ≠ 0) (H : Calls Tryz.prog f #[fpt gt] w fun e w' => e = .returned (.int .i64 0) ∧ PlacePost w ym y gt c i j f' d' code s' hs' w') :
    Calls Tryz.prog 101 #[fpt gt] w (StepP w ym y gt c i j f' d' s' hs') := by
  have hr : Row w gt 165 (tcells y.gs ym.g c y.gh i j (place f gt) false code) := T
  refine (step_of (P := fun w1 => PlacePost w ym y gt c i j f' d' code s' hs' w1) (f' := f') (d' := d') (code' := code) hcall hr (H.mono fun e w' ⟨he, hp⟩ => ⟨he, ?_, hp⟩)).mono fun e w' ⟨he, w1, hp, hb⟩ => ⟨he, ?_⟩
  · obtain ⟨ym', y', fs', G', T', t'⟩ := hp
    have h1 : Row w' gt 165 (tcells y'.gs ym'.g c y'.gh i j (place f' gt) d' code) := T'
    rw [t'.g, t'.gs, t'.gh] at h1
    exact h1
  · obtain ⟨ym', y', fs', G', T', t'⟩ := hp
    have h1 : Row w1 gt 165 (tcells y'.gs ym'.g c y'.gh i j (place f' gt) d' code) := T'
    have G2 := G'.set h1 hg 7 (.int .i64 0)
    have h2 := h1.set 7 (.int .i64 0)
    have G3 := G2.set h2 hg 6 (.bool d')
    have h3 := h2.set 6 (.bool d')
    rw [tcells_code] at h3
    have t3 := (t'.trans (GTurn.of_set w1 ym' y' gt 7 (.int .i64 0))).trans (GTurn.of_set _ ym' y' gt 6 (.bool d'))
    have t4 := t3.trans (GTurn.of_below ym' y' gt hb)
    exact ⟨ym', y', fs', G3.below hb, h3.below hb h3.lt, t4⟩
theorem call0 (w : World) (v : Value) : (callFunc 99 #[v]).run Tryz.prog w = .ok (.enter 99 #[v]) w := by kernel_rfl
theorem call1 (w : World) (v : Value) : (callFunc 109 #[v]).run Tryz.prog w = .ok (.enter 109 #[v]) w := by kernel_rfl
theorem call2 (w : World) (v : Value) : (callFunc 125 #[v]).run Tryz.prog w = .ok (.enter 125 #[v]) w := by kernel_rfl
theorem call3 (w : World) (v : Value) : (callFunc 135 #[v]).run Tryz.prog w = .ok (.enter 135 #[v]) w := by kernel_rfl
section
variable {w : World} {ym : Lay} {s : St} {y : SLay} {hs : List Hd} {fs : Nat → List Nat} {gt i j cl v : Nat} {x : Hd} {code : Int}
theorem step0 (G : Game w ym s y hs fs) (T : TAt w ym y gt (cl : Int) i j 99 false code) (hg : gt ≠ 0) (hx : hs[i]? = some x) (hst : s.st + 1 < 9223372036854775808) (hp : ∀ l ∈ s.pend, l.length + 1 ≤ 1000000000) :
    Calls Tryz.prog 101 #[fpt gt] w (StepP w ym y gt (cl : Int) i j 109 false (s.store (1024 * x.no) x.cls) hs) := step_place call0 T hg (storeClass_any G T hg hx hst hp)
theorem step1 (G : Game w ym s y hs fs) (T : TAt w ym y gt (cl : Int) i j 109 false code) (hg : gt ≠ 0) (hx : hs[i]? = some x) (hv : x.bl[j]? = some v) (hb : x.bits < 18446744073709551616) (hst : s.st + 1 < 9223372036854775808) (hp : ∀ l ∈ s.pend, l.length + 1 ≤ 1000000000) :
    Calls Tryz.prog 101 #[fpt gt] w (StepP w ym y gt (cl : Int) i j 125 false (s.store (1024 * x.no + 8) (bitV v x.bits j)) (hs.set i { x with bits := bitV v x.bits j })) := step_place call1 T hg (storeBits_any G T hg hx hv hb hst hp)
theorem step2 (G : Game w ym s y hs fs) (T : TAt w ym y gt (cl : Int) i j 125 false code) (hg : gt ≠ 0) (hcl : cl ≤ 64) (hx : hs[i]? = some x) (hfl : s.fl + 1 < 9223372036854775808) :
    Calls Tryz.prog 101 #[fpt gt] w (StepP w ym y gt (cl : Int) i j 135 false (s.flush cl (1024 * x.no)) hs) := step_place call2 T hg (tflush_any G T hg hcl hx hfl)
theorem step3 (G : Game w ym s y hs fs) (T : TAt w ym y gt (cl : Int) i j 135 false code) (hg : gt ≠ 0) (hcl : cl ≤ 64) (hx : hs[i]? = some x) (hv : x.bl[j]? = some v) (hv0 : v ≠ 0) (hfe : s.fe + 1 < 9223372036854775808) :
    Calls Tryz.prog 101 #[fpt gt] w (StepP w ym y gt (cl : Int) i j 135 true (s.fence cl) (hs.set i { x with bl := x.bl.set j (settled v) })) := step_place call3 T hg (tfence_any G T hg hcl hx hv hv0 hfe)
end
/-- How many primitives were done. -/
def didN (s : St) : Nat := s.ld + s.st + s.fl + s.fe
set_option maxRecDepth 100000 in
theorem did_any {w : World} {ym : Lay} {s : St} (h : MemAt w ym s) (hd : didN s < 9223372036854775808) : Calls Tryz.prog 100 #[fpt ym.g] w fun e w' => e = .returned (wv (didN s)) ∧ Below w.heap.size w w' := by
  have H := Lib.hid (stats_yes h)
  unfold didN at hd
  have HE := Lib.hid (show wv (didN s) = .int .u64 ((s.ld : Int) + s.st + s.fl + s.fe) from by
    unfold wv didN
    congr 1)
  obtain ⟨g, hgm⟩ : ∃ g, g = ym.g := ⟨_, rfl⟩
  unfold wv at H
  unfold fpt
  rw [HE.out]
  rw [← hgm] at H ⊢
  generalize s.ld = a at *
  generalize s.st = b at *
  generalize s.fl = c at *
  generalize s.fe = d at *
  clear h hgm
  go_enter Tryz.func100, Tryz.ntmps100
  go_wp2_with fail
  refine H.out.mono ?_
  rintro e w1 ⟨rfl, hb⟩
  have HB := Lib.hid hb
  clear hb
  go_wp2_with fail
  go_ret
  exact ⟨rfl, Below.and HB.out (alloc_below _ _)⟩
def Step6P (w : World) (ym : Lay) (y : SLay) (gt : Nat) (c : Int) (i j : Nat) (f : FuncId) (d : Bool) (s' : St) (hs' : List Hd) (e : Ending) (w' : World) : Prop :=
  e = .returned (.tuple #[.bool d, .bool true]) ∧ PlacePost w ym y gt c i j f d 0 s' hs' w'
theorem PlacePost.from {w w1 w' : World} {ym : Lay} {y : SLay} {gt i j : Nat} {c code : Int} {f : Nat} {d : Bool} {s' : St} {hs' : List Hd} (h : PlacePost w1 ym y gt c i j f d code s' hs' w') (hb : Below w.heap.size w w1) : PlacePost w ym y gt c i j f d code s' hs' w' := by
  obtain ⟨ym', y', fs', G', T', t'⟩ := h
  exact ⟨ym', y', fs', G', T', (GTurn.of_below ym y gt hb).trans t'⟩
theorem PlacePost.below {w w1 w' : World} {ym : Lay} {y : SLay} {gt i j : Nat} {c code : Int} {f : Nat} {d : Bool} {s' : St} {hs' : List Hd} (h : PlacePost w ym y gt c i j f d code s' hs' w1) (hb : Below w1.heap.size w1 w') : PlacePost w ym y gt c i j f d code s' hs' w' := by
  obtain ⟨ym', y', fs', G', T', t'⟩ := h
  have h1 : Row w1 gt 165 _ := T'
  exact ⟨ym', y', fs', G'.below hb, h1.below hb h1.lt, t'.trans (GTurn.of_below ym' y' gt hb)⟩
set_option maxRecDepth 100000 in
set_option maxHeartbeats 1600000 in
theorem step6_any {w : World} {ym : Lay} {s s' : St} {y : SLay} {gt i j : Nat} {c : Int} {f' : Nat} {d' : Bool} {hs' : List Hd} (hm : MemAt w ym s) (hd : didN s + 1 < 9223372036854775808) (he : didN s' = didN s + 1)
    (H : ∀ W, Below w.heap.size w W → Calls Tryz.prog 101 #[fpt gt] W (StepP W ym y gt c i j f' d' s' hs')) :
    Calls Tryz.prog 73 #[fpt ym.g, fpt gt] w (Step6P w ym y gt c i j f' d' s' hs') := by
  have HD := Lib.hid (did_any hm (by omega))
  have HD2 := Lib.hid (show ∀ (W : World) (ym' : Lay), MemAt W ym' s' → Calls Tryz.prog 100 #[fpt ym'.g] W fun e w' => e = .returned (wv (didN s + 1)) ∧ Below W.heap.size W w' from fun W ym' h => by
    have := did_any h (by omega)
    rwa [he] at this)
  have HS := Lib.hid H
  obtain ⟨gm, hgm⟩ : ∃ g, g = ym.g := ⟨_, rfl⟩
  unfold fpt wv at HD HD2
  unfold fpt at HS ⊢
  rw [← hgm] at HD ⊢
  have HGM := Lib.hid hgm
  obtain ⟨n, hn⟩ : ∃ n, n = didN s := ⟨_, rfl⟩
  rw [← hn] at HD HD2 hd
  rw [show (((n + 1 : Nat)) : Int) = (n : Int) + 1 from rfl] at HD2
  have e1 : IntKind.u64.wrap ((n : Int) + 1 - (n : Int)) = 1 := by rw [IntKind.wrap_u64]; omega
  have e2 : (n : Int) + 1 - (n : Int) = 1 := by omega
  clear hm he H hgm hn
  cases d' with
  | true =>
    go_enter Tryz.func73, Tryz.ntmps73
    go_wp2_with fail
    refine HD.out.mono ?_
    rintro e w1 ⟨rfl, hb1⟩
    have HS1 := Lib.hid (HS.out w1 hb1)
    have HB1 := Lib.hid hb1
    clear hb1
    go_wp2_with fail
    refine HS1.out.mono ?_
    rintro e w2 ⟨rfl, hp⟩
    have HP := Lib.hid (hp.from HB1.out)
    obtain ⟨ym2, y2, fs2, G2, T2, t2⟩ := hp
    have HD3 := HD2.out w2 ym2 G2.pm
    rw [t2.g, ← HGM.out] at HD3
    have HD3 := Lib.hid HD3
    clear G2 T2 t2 HS1
    go_wp2_with fail
    refine HD3.out.mono ?_
    rintro e w3 ⟨rfl, hb3⟩
    have HE := Lib.hid (HP.out.below hb3)
    clear hb3
    go_wp2
    go_ret2
    exact ⟨rfl, HE.out⟩
  | false =>
    go_enter Tryz.func73, Tryz.ntmps73
    go_wp2_with fail
    refine HD.out.mono ?_
    rintro e w1 ⟨rfl, hb1⟩
    have HS1 := Lib.hid (HS.out w1 hb1)
    have HB1 := Lib.hid hb1
    clear hb1
    go_wp2_with fail
    refine HS1.out.mono ?_
    rintro e w2 ⟨rfl, hp⟩
    have HP := Lib.hid (hp.from HB1.out)
    obtain ⟨ym2, y2, fs2, G2, T2, t2⟩ := hp
    have HD3 := HD2.out w2 ym2 G2.pm
    rw [t2.g, ← HGM.out] at HD3
    have HD3 := Lib.hid HD3
    clear G2 T2 t2 HS1
    go_wp2_with fail
    refine HD3.out.mono ?_
    rintro e w3 ⟨rfl, hb3⟩
    have HE := Lib.hid (HP.out.below hb3)
    clear hb3
    go_wp2
    go_ret2
    exact ⟨rfl, HE.out⟩
end Go.Proofs.YtahojhaeebmpoaaGreatDoor
