/- Texts of this claim, packed: LFence, LWhole, LWh, LKs, LKnown. -/
import Derived.Test.YtahojhaeebmpoaaGreatDoorPq36
/- What a turn's places do: settle, fence. -/
namespace Go.Proofs.YtahojhaeebmpoaaGreatDoor
open Go.RowKit Go.Sort
set_option linter.unusedVariables false
/-- What a block is behind its turn: published, or free. -/
def settled (v : Nat) : Nat := if v = 4 then 2 else 0
def SetPost (w : World) (ym : Lay) (s : St) (y : SLay) (gt : Nat) (c : Int) (i j : Nat) (f : FuncId) (d : Bool) (code : Int) (hs' : List Hd) (e : Ending) (w' : World) : Prop :=
  e = .returned (.tuple #[]) ∧ ∃ y' fs', Game w' ym s y' hs' fs' ∧ TAt w' ym y' gt c i j f d code ∧ GTurn w w' ym ym y y' gt
set_option maxRecDepth 100000 in
set_option maxHeartbeats 3200000 in
theorem settle_any {w : World} {ym : Lay} {s : St} {y : SLay} {hs : List Hd} {fs : Nat → List Nat} (G : Game w ym s y hs fs) {gt i j v : Nat} {x : Hd} {c code : Int} {d : Bool} {f : Nat}
    (T : TAt w ym y gt c i j f d code) (hx : hs[i]? = some x) (hv : x.bl[j]? = some v) (hv0 : v ≠ 0) :
    Calls Tryz.prog 143 #[fpt gt] w (SetPost w ym s y gt c i j f d code (hs.set i { x with bl := x.bl.set j (settled v) })) := by
  have mixed : Tryz.prog.follows .mixedOrders = true := by kernel_rfl
  have hr : Row w gt 165 (tcells y.gs ym.g c y.gh i j (place f gt) d code) := T
  obtain ⟨n1, n2, n3, n4⟩ := head_addr G hx
  have hjl := (List.getElem?_eq_some_iff.1 hv).1
  have hl15 := (G.mem.lens x (List.mem_of_getElem? hx)).1
  have d0 := hr.cell 0
  have d3 := hr.cell 3
  have d4 := hr.cell 4
  simp only [tcells, List.getElem?_toArray, List.getElem?_cons_succ, List.getElem?_cons_zero] at d0 d3 d4
  obtain ⟨g, hsh, hrow⟩ := (G.mem.blk i x hx).pos (by omega)
  have hown : (y.bv i).ownBlock = some g := by rw [hsh]; rfl
  have hh := (G.mem.head hx).2.2.2
  rw [hsh] at hh
  have cj := hrow.cell j
  rw [List.getElem?_toArray, List.getElem?_map, hv, Option.map_some] at cj
  unfold jv at d4 cj
  unfold fpt at d0
  have fj := hrow.free j
  have HG := Lib.hid G
  have HR := Lib.hid hr
  have HX := Lib.hid hx
  have HV := Lib.hid hv
  have HOW := Lib.hid hown
  have HJB := Lib.hid (show j < blN x.cls by rw [← (G.ho i x hx).2]; exact hjl)
  have HRW := Lib.hid hrow
  have HN := Lib.hid (show 1 ≤ x.no ∧ x.no ≤ 64 from ⟨n1, n2⟩)
  have HJL := Lib.hid hjl
  have D0 := Lib.hid d0
  have D3 := Lib.hid d3
  have D4 := Lib.hid d4
  have DH := Lib.hid hh
  have DJ := Lib.hid cj
  have ca := fun p : LowBy w => p.cell d3
  have cb := fun p : LowBy w => p.cell d4
  have cc := fun p : LowBy w => p.cell hh
  have ce := fun p : LowBy w => p.cell cj
  obtain ⟨gh, hgh⟩ : ∃ gh, gh = y.gh := ⟨_, rfl⟩
  rw [← hgh] at ca cc D3 DH
  obtain ⟨gs, hgs⟩ : ∃ gs, gs = y.gs := ⟨_, rfl⟩
  rw [← hgs] at D0
  have HGH := Lib.hid hgh
  have HGS := Lib.hid hgs
  unfold fpt
  clear G hr T n1 n2 n3 n4 d0 d3 d4 hsh hrow hown hh cj hx hv hgh hgs fj
  generalize x.bl.length = m at *
  by_cases hv4 : v = 4
  · have hz : ((v : Int) == 4) = true := by rw [hv4]; rfl
    have HST := Lib.hid (show settled v = 2 from if_pos hv4)
    have HV0 := Lib.hid hv0
    clear hv4 hv0
    go_enter Tryz.func143, Tryz.ntmps143
    go_wp2_with fail
    refine wp_region_quiet_low (by assumption) (by kernel_rfl) ?_
    repeat (go_big_quiet_step (fail))
    refine wpQuiet_nil ?_
    intro _ hw'
    obtain ⟨p, hw''⟩ := hw'
    subst hw''
    have e3 := p.cell D3.out
    have e4 := p.cell D4.out
    have eh := p.cell DH.out
    have HPL := Lib.hid p.low
    clear ca cb cc ce
    generalize p.W = w1 at *
    clear p
    have ca := fun p : LowBy w1 => p.cell e3
    have cb := fun p : LowBy w1 => p.cell e4
    have cc := fun p : LowBy w1 => p.cell eh
    clear e3 e4 eh
    go_wp2_with fail
    refine wp_region_low_tail 12 (by assumption) (by kernel_rfl) ?_
    simp only [List.take_succ_cons, List.take_zero, List.drop_succ_cons, List.drop_zero]
    repeat (go_big_quiet_step (fail))
    refine wpQuiet_nil ?_
    intro _ hw'
    obtain ⟨p, hw''⟩ := hw'
    subst hw''
    have HB := Lib.hid (Below.and HPL.out p.low)
    have hrw := HRW.out.below HB.out HRW.out.lt
    have k1 := hrw.free j
    have k2 : p.W.cell? ⟨g, j, none⟩ = some (.int .i64 (v : Int)) := (HB.out.cell (p := ⟨g, j, none⟩) HRW.out.lt).trans DJ.out
    have HEND := Lib.hid (show SetPost w ym s y gt c i j f d code (hs.set i { x with bl := x.bl.set j (settled v) }) (.returned (.tuple #[])) (p.W.setCell ⟨g, j, none⟩ (.int .i64 2)) from by
      have Gp := HG.out.below HB.out
      have Tp := HR.out.below HB.out HR.out.lt
      obtain ⟨hp3, tp3⟩ := Gp.mem.put_bl (j := j) HX.out HOW.out 2
      rw [HST.out]
      have G4 := Gp.onSlab hp3 (Gp.ho.set_bl HX.out) (Gp.fo.turn HX.out HV.out HV0.out (by decide)) (by rw [List.length_set]) tp3
      have t4 := (GTurn.of_below ym y gt HB.out).trans (GTurn.of_slab ym gt tp3)
      exact ⟨rfl, y, fs, G4, TAt.turn (Tp.onSlab Gp tp3) t4, t4⟩)
    clear ca cb cc hrw
    go_wp2
    refine bodyPost_ret (results_none rfl _ _ _) rfl ?_
    exact HEND.out
  · have hz : ((v : Int) == 4) = false := by rw [Bool.eq_false_iff]; intro k; have := beq_iff_eq.1 k; omega
    have HST := Lib.hid (show settled v = 0 from if_neg hv4)
    have HV0 := Lib.hid hv0
    clear hv4 hv0
    go_enter Tryz.func143, Tryz.ntmps143
    go_wp2_with fail
    refine wp_region_quiet_low (by assumption) (by kernel_rfl) ?_
    repeat (go_big_quiet_step (fail))
    refine wpQuiet_nil ?_
    intro _ hw'
    obtain ⟨p, hw''⟩ := hw'
    subst hw''
    have e0 := p.cell D0.out
    have e3 := p.cell D3.out
    have e4 := p.cell D4.out
    have HPL := Lib.hid p.low
    clear ca cb cc ce
    generalize p.W = w1 at *
    clear p
    have ca := fun p : LowBy w1 => p.cell e3
    have cb := fun p : LowBy w1 => p.cell e4
    have cc := fun p : LowBy w1 => p.cell e0
    clear e3 e4 e0
    go_wp2_with fail
    refine wp_region_low_tail 12 (by assumption) (by kernel_rfl) ?_
    simp only [List.take_succ_cons, List.take_zero, List.drop_succ_cons, List.drop_zero]
    repeat (go_big_quiet_step (fail))
    refine wpQuiet_nil ?_
    intro _ hw'
    obtain ⟨p, hw''⟩ := hw'
    subst hw''
    have HB := Lib.hid (Below.and HPL.out p.low)
    have Gp := HG.out.below HB.out
    have HLV := leave_any Gp.mem Gp.rs HX.out HN.out (j := j) (by have := HJB.out; have := (Gp.ho i x HX.out).2; omega) HJB.out (by have := Gp.fo.few Gp.ho Gp.mem.most x.cls; omega)
    unfold fpt jv at HLV
    rw [← HGS.out, ← HGH.out] at HLV
    have HLV := Lib.hid HLV
    have HGP := Lib.hid Gp
    clear ca cb cc Gp
    go_wp2_with fail
    refine HLV.out.mono ?_
    rintro e w3 ⟨rfl, y3, hm3, tp3⟩
    have HEND := Lib.hid (show SetPost w ym s y gt c i j f d code (hs.set i { x with bl := x.bl.set j (settled v) }) (.returned (.tuple #[])) w3 from by
      have Gp := HGP.out
      have Tp := HR.out.below HB.out HR.out.lt
      rw [HST.out]
      have G4 := Gp.onSlab hm3 (Gp.ho.set_bl HX.out) (Gp.fo.back Gp.ho Gp.mem.most HX.out (by have := HJB.out; have := (Gp.ho i x HX.out).2; omega)) (by rw [List.length_set]) tp3
      have t4 := (GTurn.of_below ym y gt HB.out).trans (GTurn.of_slab ym gt tp3)
      exact ⟨rfl, y3, _, G4, TAt.turn (Tp.onSlab Gp tp3) t4, t4⟩)
    clear hm3 tp3 HLV
    go_wp2
    refine bodyPost_ret (results_none rfl _ _ _) rfl ?_
    exact HEND.out
set_option maxRecDepth 100000 in
set_option maxHeartbeats 3200000 in
theorem tfence_any {w : World} {ym : Lay} {s : St} {y : SLay} {hs : List Hd} {fs : Nat → List Nat} (G : Game w ym s y hs fs) {gt i j cl v : Nat} {x : Hd} {code : Int} {d : Bool} {f : Nat}
    (T : TAt w ym y gt (cl : Int) i j f d code) (hg : gt ≠ 0) (hcl : cl ≤ 64) (hx : hs[i]? = some x) (hv : x.bl[j]? = some v) (hv0 : v ≠ 0) (hfe : s.fe + 1 < 9223372036854775808) :
    Calls Tryz.prog 135 #[fpt gt] w fun e w' => e = .returned (.int .i64 0) ∧ PlacePost w ym y gt (cl : Int) i j f true code (s.fence cl) (hs.set i { x with bl := x.bl.set j (settled v) }) w' := by
  have mixed : Tryz.prog.follows .mixedOrders = true := by kernel_rfl
  have hr : Row w gt 165 (tcells y.gs ym.g cl y.gh i j (place f gt) d code) := T
  have d1 := hr.cell 1
  have d2 := hr.cell 2
  simp only [tcells, List.getElem?_toArray, List.getElem?_cons_succ, List.getElem?_cons_zero] at d1 d2
  unfold fpt at d1
  have ca := fun p : LowBy w => p.cell d1
  have cb := fun p : LowBy w => p.cell d2
  have hok : (s.fence cl).Ok := fence_Ok G.ok hfe
  have HS0 : ∀ (p : LowBy w), Calls Tryz.prog 142 #[.pointer (some ⟨ym.g, 0, none⟩), .int .i64 (cl : Int)] p.W (StPost p.W ym (s.fence cl) 0) :=
    fun p => fence_ok (G.pm.below p.low) G.ok cl hcl hfe
  have HS := Lib.hid HS0
  have HE := Lib.hid (show ∀ (p : LowBy w) (w' : World) (ym' : Lay), MemAt w' ym' (s.fence cl) → Turn p.W w' ym ym' → Game w' ym' (s.fence cl) y hs fs ∧ TAt w' ym' y gt (cl : Int) i j f d code ∧ GTurn w w' ym ym' y y gt from fun p w' ym' hm' ht' => by
    have Gp := G.below p.low
    have Tp := hr.below p.low hr.lt
    have tt := (GTurn.of_below ym y gt p.low).trans (GTurn.of_mem y gt ht')
    exact ⟨Gp.onMem hm' hok rfl ht', TAt.turn (Tp.onMem Gp ht') tt, tt⟩)
  have HX := Lib.hid hx
  have HV := Lib.hid hv
  have HV0 := Lib.hid hv0
  have HG0 := Lib.hid hg
  obtain ⟨S', hS'⟩ : ∃ S', S' = s.fence cl := ⟨_, rfl⟩
  rw [← hS'] at HS HE ⊢
  obtain ⟨gm, hgm⟩ : ∃ gm, gm = ym.g := ⟨_, rfl⟩
  rw [← hgm] at ca HS
  unfold fpt
  clear G hr T d1 d2 hok hS' hgm HS0 hfe hx hv hv0 hg
  go_enter Tryz.func135, Tryz.ntmps135
  go_wp2_with fail
  refine wp_region_low_tail 8 (by assumption) (by kernel_rfl) ?_
  simp only [List.take_succ_cons, List.take_zero, List.drop_succ_cons, List.drop_zero]
  repeat (go_big_quiet_step (fail))
  refine wpQuiet_nil ?_
  intro _ hw'
  obtain ⟨p, hw''⟩ := hw'
  subst hw''
  clear ca cb
  go_wp2_with fail
  refine (HS.out p).mono ?_
  rintro e w2 ⟨rfl, ym2, hm2, ht2⟩
  obtain ⟨G2, T2, t2⟩ := HE.out p w2 ym2 hm2 ht2
  have HSE := settle_any G2 T2 HX.out HV.out HV0.out
  unfold fpt at HSE
  have HSE := Lib.hid HSE
  have Ht2 := Lib.hid t2
  clear hm2 ht2 G2 T2 t2 HS HE
  go_wp2_with fail
  refine HSE.out.mono ?_
  rintro e w3 ⟨rfl, y3, fs3, G3, T3, t3⟩
  have hr3 : Row w3 gt 165 (tcells y3.gs ym2.g cl y3.gh i j (place f gt) d code) := T3
  have c6 := hr3.cell 6
  simp only [tcells, List.getElem?_toArray, List.getElem?_cons_succ, List.getElem?_cons_zero] at c6
  have f6 := hr3.free 6
  have HEND := Lib.hid (show PlacePost w ym y gt (cl : Int) i j f true code S' (hs.set i { x with bl := x.bl.set j (settled v) }) (w3.setCell ⟨gt, 6, none⟩ (.bool true)) from by
    have t4 := (Ht2.out.trans t3).trans (GTurn.of_set w3 ym2 y3 gt 6 (.bool true))
    refine ⟨ym2, y3, fs3, G3.set hr3 HG0.out 6 _, ?_, t4⟩
    show Row _ _ _ _
    rw [← tcells_done y3.gs ym2.g y3.gh i j gt cl code f d]
    exact hr3.set 6 _)
  clear G3 T3 t3 hr3 HSE
  go_wp2
  go_ret
  exact ⟨rfl, HEND.out⟩
end Go.Proofs.YtahojhaeebmpoaaGreatDoor
/- A turn's step, place by place; did, step, whole of the law. -/
namespace Go.Proofs.YtahojhaeebmpoaaGreatDoor
open Go.RowKit Go.Sort
set_option linter.unusedVariables false
theorem tcells_code (gs gm gh i j gt : Nat) (c code k : Int) (f : Nat) (d : Bool) : ((tcells gs gm c gh i j (place f gt) d code).setIfInBounds 7 (.int .i64 k)).setIfInBounds 6 (.bool d) = tcells gs gm c gh i j (place f gt) d k := rfl
def StepP (w : World) (ym : Lay) (y : SLay) (gt : Nat) (c : Int) (i j : Nat) (f : FuncId) (d : Bool) (s' : St) (hs' : List Hd) (e : Ending) (w' : World) : Prop :=
  e = .returned (.tuple #[.bool d, .int .i64 0]) ∧ PlacePost w ym y gt c i j f d 0 s' hs' w'
theorem step_place {w : World} {ym : Lay} {y : SLay} {gt i j : Nat} {c code : Int} {f f' : Nat} {d' : Bool} {s' : St} {hs' : List Hd} (hcall : ∀ (w : World) (v : Value), (callFunc f #[v]).run Tryz.prog w = .ok (.enter f #[v]) w)
    (T : TAt w ym y gt c i j f false code) (hg : gt ≠ 0) (H : Calls Tryz.prog f #[fpt gt] w fun e w' => e = .returned (.int .i64 0) ∧ PlacePost w ym y gt c i j f' d' code s' hs' w') :
    Calls Tryz.prog 101 #[fpt gt] w (StepP w ym y gt c i j f' d' s' hs') := by
  have hr : Row w gt 165 (tcells y.gs ym.g c y.gh i j (place f gt) false code) := T
  refine (step_of (P := fun w1 => PlacePost w ym y gt c i j f' d' code s' hs' w1) (f' := f') (d' := d') (code' := code) hcall hr (H.mono fun e w' ⟨he, hp⟩ => ⟨he, ?_, hp⟩)).mono fun e w' ⟨he, w1, hp, hb⟩ => ⟨he, ?_⟩
  · obtain ⟨ym', y', fs', G', T', t'⟩ := hp
    have h1 : Row w' gt 165 (tcells y'.gs ym'.g c y'.gh i j (place f' gt) d' code) := T'
    rw [t'.g, t'.gs, t'.gh] at h1
    exact h1
  · obtain ⟨ym', y', fs', G', T', t'⟩ := hp
    have h1 : Row w1 gt 165 (tcells y'.gs ym'.g c y'.gh i j (place f' gt) d' code) := T'
    have G2 := G'.set h1 hg 7 (.int .i64 0)
    have h2 := h1.set 7 (.int .i64 0)
    have G3 := G2.set h2 hg 6 (.bool d')
    have h3 := h2.set 6 (.bool d')
    rw [tcells_code] at h3
    have t3 := (t'.trans (GTurn.of_set w1 ym' y' gt 7 (.int .i64 0))).trans (GTurn.of_set _ ym' y' gt 6 (.bool d'))
    have t4 := t3.trans (GTurn.of_below ym' y' gt hb)
    exact ⟨ym', y', fs', G3.below hb, h3.below hb h3.lt, t4⟩
theorem call0 (w : World) (v : Value) : (callFunc 99 #[v]).run Tryz.prog w = .ok (.enter 99 #[v]) w := by kernel_rfl
theorem call1 (w : World) (v : Value) : (callFunc 109 #[v]).run Tryz.prog w = .ok (.enter 109 #[v]) w := by kernel_rfl
theorem call2 (w : World) (v : Value) : (callFunc 125 #[v]).run Tryz.prog w = .ok (.enter 125 #[v]) w := by kernel_rfl
theorem call3 (w : World) (v : Value) : (callFunc 135 #[v]).run Tryz.prog w = .ok (.enter 135 #[v]) w := by kernel_rfl
section
variable {w : World} {ym : Lay} {s : St} {y : SLay} {hs : List Hd} {fs : Nat → List Nat} {gt i j cl v : Nat} {x : Hd} {code : Int}
theorem step0 (G : Game w ym s y hs fs) (T : TAt w ym y gt (cl : Int) i j 99 false code) (hg : gt ≠ 0) (hx : hs[i]? = some x) (hst : s.st + 1 < 9223372036854775808) (hp : ∀ l ∈ s.pend, l.length + 1 ≤ 1000000000) :
    Calls Tryz.prog 101 #[fpt gt] w (StepP w ym y gt (cl : Int) i j 109 false (s.store (1024 * x.no) x.cls) hs) := step_place call0 T hg (storeClass_any G T hg hx hst hp)
theorem step1 (G : Game w ym s y hs fs) (T : TAt w ym y gt (cl : Int) i j 109 false code) (hg : gt ≠ 0) (hx : hs[i]? = some x) (hv : x.bl[j]? = some v) (hb : x.bits < 18446744073709551616) (hst : s.st + 1 < 9223372036854775808) (hp : ∀ l ∈ s.pend, l.length + 1 ≤ 1000000000) :
    Calls Tryz.prog 101 #[fpt gt] w (StepP w ym y gt (cl : Int) i j 125 false (s.store (1024 * x.no + 8) (bitV v x.bits j)) (hs.set i { x with bits := bitV v x.bits j })) := step_place call1 T hg (storeBits_any G T hg hx hv hb hst hp)
theorem step2 (G : Game w ym s y hs fs) (T : TAt w ym y gt (cl : Int) i j 125 false code) (hg : gt ≠ 0) (hcl : cl ≤ 64) (hx : hs[i]? = some x) (hfl : s.fl + 1 < 9223372036854775808) :
    Calls Tryz.prog 101 #[fpt gt] w (StepP w ym y gt (cl : Int) i j 135 false (s.flush cl (1024 * x.no)) hs) := step_place call2 T hg (tflush_any G T hg hcl hx hfl)
theorem step3 (G : Game w ym s y hs fs) (T : TAt w ym y gt (cl : Int) i j 135 false code) (hg : gt ≠ 0) (hcl : cl ≤ 64) (hx : hs[i]? = some x) (hv : x.bl[j]? = some v) (hv0 : v ≠ 0) (hfe : s.fe + 1 < 9223372036854775808) :
    Calls Tryz.prog 101 #[fpt gt] w (StepP w ym y gt (cl : Int) i j 135 true (s.fence cl) (hs.set i { x with bl := x.bl.set j (settled v) })) := step_place call3 T hg (tfence_any G T hg hcl hx hv hv0 hfe)
end
/-- How many primitives were done. -/
def didN (s : St) : Nat := s.ld + s.st + s.fl + s.fe
set_option maxRecDepth 100000 in
theorem did_any {w : World} {ym : Lay} {s : St} (h : MemAt w ym s) (hd : didN s < 9223372036854775808) : Calls Tryz.prog 100 #[fpt ym.g] w fun e w' => e = .returned (wv (didN s)) ∧ Below w.heap.size w w' := by
  have H := Lib.hid (stats_yes h)
  unfold didN at hd
  have HE := Lib.hid (show wv (didN s) = .int .u64 ((s.ld : Int) + s.st + s.fl + s.fe) from by
    unfold wv didN
    congr 1)
  obtain ⟨g, hgm⟩ : ∃ g, g = ym.g := ⟨_, rfl⟩
  unfold wv at H
  unfold fpt
  rw [HE.out]
  rw [← hgm] at H ⊢
  generalize s.ld = a at *
  generalize s.st = b at *
  generalize s.fl = c at *
  generalize s.fe = d at *
  clear h hgm
  go_enter Tryz.func100, Tryz.ntmps100
  go_wp2_with fail
  refine H.out.mono ?_
  rintro e w1 ⟨rfl, hb⟩
  have HB := Lib.hid hb
  clear hb
  go_wp2_with fail
  go_ret
  exact ⟨rfl, Below.and HB.out (alloc_below _ _)⟩
def Step6P (w : World) (ym : Lay) (y : SLay) (gt : Nat) (c : Int) (i j : Nat) (f : FuncId) (d : Bool) (s' : St) (hs' : List Hd) (e : Ending) (w' : World) : Prop :=
  e = .returned (.tuple #[.bool d, .bool true]) ∧ PlacePost w ym y gt c i j f d 0 s' hs' w'
theorem PlacePost.from {w w1 w' : World} {ym : Lay} {y : SLay} {gt i j : Nat} {c code : Int} {f : Nat} {d : Bool} {s' : St} {hs' : List Hd} (h : PlacePost w1 ym y gt c i j f d code s' hs' w') (hb : Below w.heap.size w w1) : PlacePost w ym y gt c i j f d code s' hs' w' := by
  obtain ⟨ym', y', fs', G', T', t'⟩ := h
  exact ⟨ym', y', fs', G', T', (GTurn.of_below ym y gt hb).trans t'⟩
theorem PlacePost.below {w w1 w' : World} {ym : Lay} {y : SLay} {gt i j : Nat} {c code : Int} {f : Nat} {d : Bool} {s' : St} {hs' : List Hd} (h : PlacePost w ym y gt c i j f d code s' hs' w1) (hb : Below w1.heap.size w1 w') : PlacePost w ym y gt c i j f d code s' hs' w' := by
  obtain ⟨ym', y', fs', G', T', t'⟩ := h
  have h1 : Row w1 gt 165 _ := T'
  exact ⟨ym', y', fs', G'.below hb, h1.below hb h1.lt, t'.trans (GTurn.of_below ym' y' gt hb)⟩
set_option maxRecDepth 100000 in
set_option maxHeartbeats 1600000 in
theorem step6_any {w : World} {ym : Lay} {s s' : St} {y : SLay} {gt i j : Nat} {c : Int} {f' : Nat} {d' : Bool} {hs' : List Hd} (hm : MemAt w ym s) (hd : didN s + 1 < 9223372036854775808) (he : didN s' = didN s + 1)
    (H : ∀ W, Below w.heap.size w W → Calls Tryz.prog 101 #[fpt gt] W (StepP W ym y gt c i j f' d' s' hs')) :
    Calls Tryz.prog 73 #[fpt ym.g, fpt gt] w (Step6P w ym y gt c i j f' d' s' hs') := by
  have HD := Lib.hid (did_any hm (by omega))
  have HD2 := Lib.hid (show ∀ (W : World) (ym' : Lay), MemAt W ym' s' → Calls Tryz.prog 100 #[fpt ym'.g] W fun e w' => e = .returned (wv (didN s + 1)) ∧ Below W.heap.size W w' from fun W ym' h => by
    have := did_any h (by omega)
    rwa [he] at this)
  have HS := Lib.hid H
  obtain ⟨gm, hgm⟩ : ∃ g, g = ym.g := ⟨_, rfl⟩
  unfold fpt wv at HD HD2
  unfold fpt at HS ⊢
  rw [← hgm] at HD ⊢
  have HGM := Lib.hid hgm
  obtain ⟨n, hn⟩ : ∃ n, n = didN s := ⟨_, rfl⟩
  rw [← hn] at HD HD2 hd
  rw [show (((n + 1 : Nat)) : Int) = (n : Int) + 1 from rfl] at HD2
  have e1 : IntKind.u64.wrap ((n : Int) + 1 - (n : Int)) = 1 := by rw [IntKind.wrap_u64]; omega
  have e2 : (n : Int) + 1 - (n : Int) = 1 := by omega
  clear hm he H hgm hn
  cases d' with
  | true =>
    go_enter Tryz.func73, Tryz.ntmps73
    go_wp2_with fail
    refine HD.out.mono ?_
    rintro e w1 ⟨rfl, hb1⟩
    have HS1 := Lib.hid (HS.out w1 hb1)
    have HB1 := Lib.hid hb1
    clear hb1
    go_wp2_with fail
    refine HS1.out.mono ?_
    rintro e w2 ⟨rfl, hp⟩
    have HP := Lib.hid (hp.from HB1.out)
    obtain ⟨ym2, y2, fs2, G2, T2, t2⟩ := hp
    have HD3 := HD2.out w2 ym2 G2.pm
    rw [t2.g, ← HGM.out] at HD3
    have HD3 := Lib.hid HD3
    clear G2 T2 t2 HS1
    go_wp2_with fail
    refine HD3.out.mono ?_
    rintro e w3 ⟨rfl, hb3⟩
    have HE := Lib.hid (HP.out.below hb3)
    clear hb3
    go_wp2
    go_ret2
    exact ⟨rfl, HE.out⟩
  | false =>
    go_enter Tryz.func73, Tryz.ntmps73
    go_wp2_with fail
    refine HD.out.mono ?_
    rintro e w1 ⟨rfl, hb1⟩
    have HS1 := Lib.hid (HS.out w1 hb1)
    have HB1 := Lib.hid hb1
    clear hb1
    go_wp2_with fail
    refine HS1.out.mono ?_
    rintro e w2 ⟨rfl, hp⟩
    have HP := Lib.hid (hp.from HB1.out)
    obtain ⟨ym2, y2, fs2, G2, T2, t2⟩ := hp
    have HD3 := HD2.out w2 ym2 G2.pm
    rw [t2.g, ← HGM.out] at HD3
    have HD3 := Lib.hid HD3
    clear G2 T2 t2 HS1
    go_wp2_with fail
    refine HD3.out.mono ?_
    rintro e w3 ⟨rfl, hb3⟩
    have HE := Lib.hid (HP.out.below hb3)
    clear hb3
    go_wp2
    go_ret2
    exact ⟨rfl, HE.out⟩
end Go.Proofs.YtahojhaeebmpoaaGreatDoor
/- whole: a turn's steps up to its end. -/
namespace Go.Proofs.YtahojhaeebmpoaaGreatDoor
open Go.RowKit Go.Sort
set_option linter.unusedVariables false
def WholeR (w : World) (ym : Lay) (s : St) (y : SLay) (hs : List Hd) (gt cl i j b : Nat) (x : Hd) (v : Value) (wr : World) : Prop :=
  (v = .int .i64 1 ∧ PlacePost w ym y gt (cl : Int) i j 99 false 0 s hs wr) ∨
  (v = .int .i64 2 ∧ PlacePost w ym y gt (cl : Int) i j 109 false 0 (s.store (1024 * x.no) x.cls) hs wr) ∨
  (v = .int .i64 3 ∧ PlacePost w ym y gt (cl : Int) i j 125 false 0 ((s.store (1024 * x.no) x.cls).store (1024 * x.no + 8) b) (hs.set i { x with bits := b }) wr) ∨
  (v = .int .i64 4 ∧ PlacePost w ym y gt (cl : Int) i j 135 false 0 (((s.store (1024 * x.no) x.cls).store (1024 * x.no + 8) b).flush cl (1024 * x.no)) (hs.set i { x with bits := b }) wr)
/-- The memory's state behind a whole turn, and the slabs. -/
def turnS (s : St) (no cls b cl : Nat) : St := (((s.store (1024 * no) cls).store (1024 * no + 8) b).flush cl (1024 * no)).fence cl
def turnH (hs : List Hd) (i j v b : Nat) (x : Hd) : List Hd := hs.set i { x with bits := b, bl := x.bl.set j (settled v) }
def WholeP (w : World) (ym : Lay) (s : St) (y : SLay) (hs : List Hd) (gt cl i j v : Nat) (x : Hd) (e : Ending) (w' : World) : Prop :=
  e = .returned (.int .i64 4) ∧ PlacePost w ym y gt (cl : Int) i j 135 true 0 (turnS s x.no x.cls (bitV v x.bits j) cl) (turnH hs i j v (bitV v x.bits j) x) w'
theorem pend_store {s : St} {a u n : Nat} (h : ∀ l ∈ s.pend, l.length ≤ n) : ∀ l ∈ (s.store a u).pend, l.length ≤ n + 1 := by
  intro l hl
  have hl' : l ∈ s.pend.set (a / 64) (s.pend.getD (a / 64) [] ++ [(a, u)]) := hl
  rcases List.mem_or_eq_of_mem_set hl' with h1 | rfl
  · have := h l h1; omega
  · rw [List.length_append, List.getD_eq_getElem?_getD]
    cases hg : s.pend[a / 64]? with
    | none => simp
    | some z => have := h z (List.mem_of_getElem? hg); simp; omega
theorem did_store (s : St) (a u : Nat) : didN (s.store a u) = didN s + 1 := by unfold didN St.store; show s.ld + (s.st + 1) + s.fl + s.fe = _; omega
theorem did_flush (s : St) (c a : Nat) : didN (s.flush c a) = didN s + 1 := by unfold didN St.flush; show s.ld + s.st + (s.fl + 1) + s.fe = _; omega
theorem did_fence (s : St) (c : Nat) : didN (s.fence c) = didN s + 1 := by unfold didN; show s.ld + s.st + s.fl + (s.fe + 1) = _; omega
set_option maxRecDepth 100000 in
set_option maxHeartbeats 3200000 in
theorem whole_any {w : World} {ym : Lay} {s : St} {y : SLay} {hs : List Hd} {fs : Nat → List Nat} (G : Game w ym s y hs fs) {gt i j cl v : Nat} {x : Hd} (T : TAt w ym y gt (cl : Int) i j 99 false 0) (hg : gt ≠ 0) (hcl : cl ≤ 64)
    (hx : hs[i]? = some x) (hv : x.bl[j]? = some v) (hv0 : v ≠ 0) (hb : x.bits < 18446744073709551616) (hd : didN s < 1000000000000) (hp : ∀ l ∈ s.pend, l.length ≤ 900000000) :
    Calls Tryz.prog 32 #[fpt ym.g, fpt gt] w (WholeP w ym s y hs gt cl i j v x) := by
  have hil := (List.getElem?_eq_some_iff.1 hx).1
  have h0 : s.st < 1000000000000 ∧ s.fl < 1000000000000 ∧ s.fe < 1000000000000 := by unfold didN at hd; omega
  have hx1 : ∀ b, (hs.set i { x with bits := b })[i]? = some { x with bits := b } := fun b => by rw [List.getElem?_set, if_pos rfl, if_pos hil]
  obtain ⟨b, hbe⟩ : ∃ b, b = bitV v x.bits j := ⟨_, rfl⟩
  have H0 := Lib.hid (show ∀ (wr : World), PlacePost w ym y gt (cl : Int) i j 99 false 0 s hs wr → Calls Tryz.prog 73 #[fpt ym.g, fpt gt] wr fun e w' => e = .returned (.tuple #[.bool false, .bool true]) ∧ PlacePost w ym y gt (cl : Int) i j 109 false 0 (s.store (1024 * x.no) x.cls) hs w' from fun wr ⟨ym', y', fs', G', T', t'⟩ => by
    rw [← t'.g]
    exact (step6_any G'.pm (by omega) (did_store s _ _) fun W hb => step0 (G'.below hb) (show Row _ _ _ _ from Row.below (show Row wr gt 165 _ from T') hb (show Row wr gt 165 _ from T').lt) hg hx (by omega) (fun l hl => by have := hp l hl; omega)).mono fun e w' ⟨he, ym2, y2, fs2, G2, T2, t2⟩ => ⟨he, ym2, y2, fs2, G2, T2, t'.trans t2⟩)
  have H1 := Lib.hid (show ∀ (wr : World), PlacePost w ym y gt (cl : Int) i j 109 false 0 (s.store (1024 * x.no) x.cls) hs wr → Calls Tryz.prog 73 #[fpt ym.g, fpt gt] wr fun e w' => e = .returned (.tuple #[.bool false, .bool true]) ∧ PlacePost w ym y gt (cl : Int) i j 125 false 0 ((s.store (1024 * x.no) x.cls).store (1024 * x.no + 8) b) (hs.set i { x with bits := b }) w' from fun wr ⟨ym', y', fs', G', T', t'⟩ => by
    rw [← t'.g, hbe]
    exact (step6_any G'.pm (by rw [did_store]; omega) (did_store _ _ _) fun W hb' => step1 (G'.below hb') (show Row _ _ _ _ from Row.below (show Row wr gt 165 _ from T') hb' (show Row wr gt 165 _ from T').lt) hg hx hv hb (by show s.st + 1 + 1 < _; omega) (fun l hl => by have := pend_store hp l hl; omega)).mono fun e w' ⟨he, ym2, y2, fs2, G2, T2, t2⟩ => ⟨he, ym2, y2, fs2, G2, T2, t'.trans t2⟩)
  have H2 := Lib.hid (show ∀ (wr : World), PlacePost w ym y gt (cl : Int) i j 125 false 0 ((s.store (1024 * x.no) x.cls).store (1024 * x.no + 8) b) (hs.set i { x with bits := b }) wr → Calls Tryz.prog 73 #[fpt ym.g, fpt gt] wr fun e w' => e = .returned (.tuple #[.bool false, .bool true]) ∧ PlacePost w ym y gt (cl : Int) i j 135 false 0 (((s.store (1024 * x.no) x.cls).store (1024 * x.no + 8) b).flush cl (1024 * x.no)) (hs.set i { x with bits := b }) w' from fun wr ⟨ym', y', fs', G', T', t'⟩ => by
    rw [← t'.g]
    exact (step6_any G'.pm (by rw [did_store, did_store]; omega) (did_flush _ _ _) fun W hb' => step2 (x := { x with bits := b }) (G'.below hb') (show Row _ _ _ _ from Row.below (show Row wr gt 165 _ from T') hb' (show Row wr gt 165 _ from T').lt) hg hcl (hx1 b) (by show s.fl + 1 < _; omega)).mono fun e w' ⟨he, ym2, y2, fs2, G2, T2, t2⟩ => ⟨he, ym2, y2, fs2, G2, T2, t'.trans t2⟩)
  have H3 := Lib.hid (show ∀ (wr : World), PlacePost w ym y gt (cl : Int) i j 135 false 0 (((s.store (1024 * x.no) x.cls).store (1024 * x.no + 8) b).flush cl (1024 * x.no)) (hs.set i { x with bits := b }) wr → Calls Tryz.prog 73 #[fpt ym.g, fpt gt] wr fun e w' => e = .returned (.tuple #[.bool true, .bool true]) ∧ PlacePost w ym y gt (cl : Int) i j 135 true 0 (turnS s x.no x.cls b cl) (turnH hs i j v b x) w' from fun wr ⟨ym', y', fs', G', T', t'⟩ => by
    rw [← t'.g]
    have e1 : turnH hs i j v b x = (hs.set i { x with bits := b }).set i { ({ x with bits := b } : Hd) with bl := x.bl.set j (settled v) } := by rw [List.set_set]; rfl
    rw [e1]
    exact (step6_any G'.pm (by rw [did_flush, did_store, did_store]; omega) (did_fence _ _) fun W hb' => step3 (x := { x with bits := b }) (G'.below hb') (show Row _ _ _ _ from Row.below (show Row wr gt 165 _ from T') hb' (show Row wr gt 165 _ from T').lt) hg hcl (hx1 b) hv hv0 (by show s.fe + 1 < _; omega)).mono fun e w' ⟨he, ym2, y2, fs2, G2, T2, t2⟩ => ⟨he, ym2, y2, fs2, G2, T2, t'.trans t2⟩)
  have HEND := Lib.hid (show ∀ w', PlacePost w ym y gt (cl : Int) i j 135 true 0 (turnS s x.no x.cls b cl) (turnH hs i j v b x) w' → WholeP w ym s y hs gt cl i j v x (.returned (.int .i64 4)) w' from fun w' h => by rw [hbe] at h; exact ⟨rfl, h⟩)
  have HST := Lib.hid (show PlacePost w ym y gt (cl : Int) i j 99 false 0 s hs w from ⟨ym, y, fs, G, T, GTurn.of_below ym y gt (Below.refl _ _)⟩)
  obtain ⟨gm, hgm⟩ : ∃ gm, gm = ym.g := ⟨_, rfl⟩
  unfold fpt at H0 H1 H2 H3 ⊢
  rw [← hgm] at H0 H1 H2 H3 ⊢
  clear G T hg hcl hx hv hv0 hb hd hp hil h0 hx1 hbe hgm
  go_enter Tryz.func32, Tryz.ntmps32
  go_wp2
  go_loopw [5] (fun u wr => WholeR w ym s y hs gt cl i j b x u wr) (fun u _ => (5 - intOf u).toNat)
  case atStart => exact .inl ⟨rfl, HST.out⟩
  case round =>
    rename World => wr
    rcases hrel with ⟨rfl, h⟩ | ⟨rfl, h⟩ | ⟨rfl, h⟩ | ⟨rfl, h⟩
    · have HC := Lib.hid (H0.out wr h)
      clear h
      go_wp2_with fail
      refine HC.out.mono ?_
      rintro e w2 ⟨rfl, hp⟩
      have HP := Lib.hid hp
      clear hp HC
      go_wp2
      go_roundw
      case rel => exact .inr <| .inl ⟨rfl, HP.out⟩
      case measure => simp [intOf]
    · have HC := Lib.hid (H1.out wr h)
      clear h
      go_wp2_with fail
      refine HC.out.mono ?_
      rintro e w2 ⟨rfl, hp⟩
      have HP := Lib.hid hp
      clear hp HC
      go_wp2
      go_roundw
      case rel => exact .inr <| .inr <| .inl ⟨rfl, HP.out⟩
      case measure => simp [intOf]
    · have HC := Lib.hid (H2.out wr h)
      clear h
      go_wp2_with fail
      refine HC.out.mono ?_
      rintro e w2 ⟨rfl, hp⟩
      have HP := Lib.hid hp
      clear hp HC
      go_wp2
      go_roundw
      case rel => exact .inr <| .inr <| .inr ⟨rfl, HP.out⟩
      case measure => simp [intOf]
    · have HC := Lib.hid (H3.out wr h)
      clear h
      go_wp2_with fail
      refine HC.out.mono ?_
      rintro e w2 ⟨rfl, hp⟩
      have HP := Lib.hid (HEND.out w2 hp)
      clear hp HC
      go_wp2
      go_ret
      exact HP.out
end Go.Proofs.YtahojhaeebmpoaaGreatDoor
/- The chapter's rows, as states: plain facts. -/
namespace Go.Proofs.YtahojhaeebmpoaaGreatDoor
open Go.RowKit Go.Sort
set_option linter.unusedVariables false
theorem ofB_zero (n : Nat) : ofB (List.replicate n 0) = 0 := by
  induction n with
  | zero => rfl
  | succ n ih => rw [List.replicate_succ]; show 0 + 256 * ofB _ = 0; rw [ih]
theorem pw_noughts (n k i : Nat) : pw (List.replicate n 0) k i = 0 := by
  unfold pw
  rw [List.take_replicate, List.drop_replicate, List.take_replicate, ofB_zero]
def A0 : List Hd := [⟨1, 0, 0, []⟩, ⟨2, 0, 0, []⟩]
def A1 : List Hd := [⟨1, 1, 0, List.replicate 15 0⟩, ⟨2, 0, 0, []⟩]
def A2 : List Hd := [⟨1, 1, 0, 1 :: List.replicate 14 0⟩, ⟨2, 0, 0, []⟩]
def A3 : List Hd := [⟨1, 1, 0, 1 :: List.replicate 14 0⟩, ⟨2, 3, 0, List.replicate 5 0⟩]
def A4 : List Hd := [⟨1, 1, 0, 1 :: List.replicate 14 0⟩, ⟨2, 3, 0, 1 :: List.replicate 4 0⟩]
def A5 : List Hd := [⟨1, 1, 0, 4 :: List.replicate 14 0⟩, ⟨2, 3, 0, 1 :: List.replicate 4 0⟩]
def A6 : List Hd := [⟨1, 1, 1, 2 :: List.replicate 14 0⟩, ⟨2, 3, 0, 1 :: List.replicate 4 0⟩]
theorem hsK_noughts (l : List Nat) (hl : l = List.replicate 3072 0) : hsK (hcW l) (hbW l) 2 2 = A0 := by
  have h1 : ∀ q, hcW l q = 0 := fun q => by rw [hl]; exact pw_noughts _ _ _
  have h2 : ∀ q, hbW l q = 0 := fun q => by rw [hl]; exact pw_noughts _ _ _
  have h3 : ∀ q, hdOf (hcW l) (hbW l) q = ⟨q + 1, 0, 0, []⟩ := fun q => by
    unfold hdOf
    rw [h1, h2]
    rfl
  unfold hsK
  rw [show List.range 2 = [0, 1] from rfl]
  simp only [List.map_cons, List.map_nil, h3]
  rfl
theorem okHeads_noughts (l : List Nat) (hl : l = List.replicate 3072 0) (n : Nat) : okHeads l n := by
  intro q _
  have h1 : hcW l q = 0 := by rw [hl]; exact pw_noughts _ _ _
  have h2 : hbW l q = 0 := by rw [hl]; exact pw_noughts _ _ _
  rw [h1, h2]
  decide +kernel
theorem two_get {x0 x1 z : Hd} {i : Nat} (h : [x0, x1][i]? = some z) : (i = 0 ∧ z = x0) ∨ (i = 1 ∧ z = x1) := by
  match i, h with
  | 0, h => exact .inl ⟨rfl, (Option.some.inj h).symm⟩
  | 1, h => exact .inr ⟨rfl, (Option.some.inj h).symm⟩
theorem free_two {x0 x1 : Hd} {c a : Nat} (h : FreeB [x0, x1] c a) : (x0.cls = c ∧ ∃ j : Nat, x0.bl[j]? = some 0 ∧ adr x0.no c j = a) ∨ (x1.cls = c ∧ ∃ j : Nat, x1.bl[j]? = some 0 ∧ adr x1.no c j = a) := by
  obtain ⟨i, j, x, hx, hc, hb, ha⟩ := h
  rcases two_get hx with ⟨_, rfl⟩ | ⟨_, rfl⟩
  · exact .inl ⟨hc, j, hb, ha⟩
  · exact .inr ⟨hc, j, hb, ha⟩
theorem took_det {hs1 hs' : List Hd} {c i j : Nat} {x : Hd} {e : Ending} (ok : HsOk hs1) (hm : hs1.length ≤ 64) (h : Took hs1 hs' c e) (hx : hs1[i]? = some x) (hc : x.cls = c) (hb : x.bl[j]? = some 0) (hmin : ∀ a, FreeB hs1 c a → adr x.no c j ≤ a) :
    hs' = hs1.set i { x with bl := x.bl.set j 1 } ∧ e = .returned (.tuple #[wv (adr x.no c j), .int .i64 0]) := by
  rcases h with ⟨i', j', x', hx', hc', hb', hmin', h1, h2⟩ | ⟨hn, _⟩
  · have e1 := hmin _ ⟨i', j', x', hx', hc', hb', rfl⟩
    have e2 := hmin' _ ⟨i, j, x, hx, hc, hb, rfl⟩
    have e3 : adr x'.no c j' = adr x.no c j := by omega
    obtain ⟨rfl, rfl⟩ := found_one ok hm ⟨x', hx', (List.getElem?_eq_some_iff.1 hb').1, by rw [hc']⟩ ⟨x, hx, (List.getElem?_eq_some_iff.1 hb).1, by rw [hc]; exact e3.symm⟩
    rw [hx] at hx'
    cases hx'
    exact ⟨h1, h2⟩
  · exact absurd ⟨i, j, x, hx, hc, hb, rfl⟩ (hn _)
theorem adr_ge (no c j : Nat) : 1024 * no + 64 ≤ adr no c j := by unfold adr; omega
theorem okA1 : HsOk A1 := by
  intro i x hx
  rcases two_get hx with ⟨rfl, rfl⟩ | ⟨rfl, rfl⟩ <;> exact ⟨rfl, by decide⟩
theorem okA3 : HsOk A3 := by
  intro i x hx
  rcases two_get hx with ⟨rfl, rfl⟩ | ⟨rfl, rfl⟩ <;> exact ⟨rfl, by decide⟩
theorem row1 {hs1 hs' : List Hd} {e : Ending} (hc : Claimed A0 hs1 1) (ht : Took hs1 hs' 1 e) : hs' = A2 ∧ e = .returned (.tuple #[.int .u64 1088, .int .i64 0]) := by
  have h1 : hs1 = A1 := by
    rcases hc with ⟨⟨a, ha⟩, _⟩ | ⟨_, ⟨i, x, hf, hx, rfl⟩ | ⟨hz, _⟩⟩
    · rcases free_two ha with ⟨h, _⟩ | ⟨h, _⟩ <;> cases h
    · have hi : i = 0 := by
        by_cases h0 : i = 0
        · exact h0
        · exact absurd rfl (hf.2 0 ⟨1, 0, 0, []⟩ (by omega) rfl)
      subst hi
      cases hx
      rfl
    · exact absurd rfl (hz 0 _ rfl)
  subst h1
  obtain ⟨h2, h3⟩ := took_det (i := 0) (j := 0) okA1 (by decide) ht rfl rfl rfl (fun a ha => by
    rcases free_two ha with ⟨_, j, _, ha⟩ | ⟨h, _⟩
    · have := adr_ge 1 1 j
      show adr 1 1 0 ≤ a
      have e0 : adr 1 1 0 = 1088 := rfl
      have ha' : adr 1 1 j = a := ha
      omega
    · cases h)
  exact ⟨h2, h3⟩
theorem row3 {hs1 hs' : List Hd} {e : Ending} (hc : Claimed A2 hs1 3) (ht : Took hs1 hs' 3 e) : hs' = A4 ∧ e = .returned (.tuple #[.int .u64 2112, .int .i64 0]) := by
  have h1 : hs1 = A3 := by
    rcases hc with ⟨⟨a, ha⟩, _⟩ | ⟨_, ⟨i, x, hf, hx, rfl⟩ | ⟨hz, _⟩⟩
    · rcases free_two ha with ⟨h, _⟩ | ⟨h, _⟩ <;> cases h
    · have hi : i = 1 := by
        obtain ⟨z, hz, h0⟩ := hf.1
        rcases two_get hz with ⟨rfl, rfl⟩ | ⟨rfl, rfl⟩
        · cases h0
        · rfl
      subst hi
      cases hx
      rfl
    · exact absurd rfl (hz 1 _ rfl)
  subst h1
  obtain ⟨h2, h3⟩ := took_det (i := 1) (j := 0) okA3 (by decide) ht rfl rfl rfl (fun a ha => by
    rcases free_two ha with ⟨h, _⟩ | ⟨_, j, _, ha⟩
    · cases h
    · have := adr_ge 2 3 j
      show adr 2 3 0 ≤ a
      have e0 : adr 2 3 0 = 2112 := rfl
      have ha' : adr 2 3 j = a := ha
      omega)
  exact ⟨h2, h3⟩
theorem row2 {hs1 hs' : List Hd} {e : Ending} (hc : Claimed A4 hs1 2) (ht : Took hs1 hs' 2 e) : hs' = A4 ∧ e = .returned (.tuple #[.int .u64 0, .int .i64 4]) := by
  have h1 : hs1 = A4 := by
    rcases hc with ⟨_, h⟩ | ⟨_, ⟨i, x, hf, hx, _⟩ | ⟨_, h⟩⟩
    · exact h
    · obtain ⟨z, hz, h0⟩ := hf.1
      rcases two_get hz with ⟨rfl, rfl⟩ | ⟨rfl, rfl⟩ <;> cases h0
    · exact h
  subst h1
  rcases ht with ⟨i, j, x, hx, hc', _⟩ | ⟨_, h2, h3⟩
  · rcases two_get hx with ⟨_, rfl⟩ | ⟨_, rfl⟩ <;> cases hc'
  · exact ⟨h2, h3⟩
def k6S : St := turnS (St.zero 48) 1 1 (bitV 4 0 0) 0
set_option maxRecDepth 100000 in
theorem k6_las : (bytesL k6S.lasted).length = 3072 ∧ (bytesL k6S.lasted)[1024]? = some 1 ∧ (bytesL k6S.lasted)[1032]? = some 1 := by decide +kernel
theorem k6_H : turnH A5 0 0 4 (bitV 4 0 0) ⟨1, 1, 0, 4 :: List.replicate 14 0⟩ = A6 := by kernel_rfl
end Go.Proofs.YtahojhaeebmpoaaGreatDoor
/- known: the chapter's rows come out as it says. -/
namespace Go.Proofs.YtahojhaeebmpoaaGreatDoor
open Go.RowKit Go.Sort
set_option linter.unusedVariables false
/-- What stands in the midst of known: all of it in new memory. -/
structure KG (w0 w : World) (gm gs : Nat) (ym : Lay) (s : St) (y : SLay) (hs : List Hd) (fs : Nat → List Nat) : Prop where
  G : Game w ym s y hs fs
  fm : ∀ k, ym.fp k → w0.heap.size ≤ k
  fy : ∀ k, y.fp k → w0.heap.size ≤ k
  low : Below w0.heap.size w0 w
  em : ym.g = gm
  es : y.gs = gs
section
variable {w0 w w' : World} {gm gs : Nat} {ym ym' : Lay} {s s' : St} {y y' : SLay} {hs hs' : List Hd} {fs fs' : Nat → List Nat}
theorem KG.below (h : KG w0 w gm gs ym s y hs fs) (hb : Below w.heap.size w w') : KG w0 w' gm gs ym s y hs fs := ⟨h.G.below hb, h.fm, h.fy, h.low.trans (hb.mono h.low.size), h.em, h.es⟩
theorem KG.slab (h : KG w0 w gm gs ym s y hs fs) (hm : SlabMem w' y' hs' fs') (ho : HsOk hs') (fo : FsOk hs' fs') (hl : hs'.length = hs.length) (t : STurn w w' y y') : KG w0 w' gm gs ym s y' hs' fs' :=
  ⟨h.G.onSlab hm ho fo hl t, h.fm, fun k hk => by
    rcases t.fp k hk with h1 | h1
    · exact h.fy k h1
    · exact Nat.le_trans h.low.size h1, h.low.trans (t.but.below h.low.size h.fy), h.em, t.gs.trans h.es⟩
theorem KG.turn {gt : Nat} (h : KG w0 w gm gs ym s y hs fs) (hg : w0.heap.size ≤ gt) (G' : Game w' ym' s' y' hs' fs') (t : GTurn w w' ym ym' y y' gt) : KG w0 w' gm gs ym' s' y' hs' fs' :=
  ⟨G', fun k hk => by
    rcases t.fm k hk with h1 | h1
    · exact h.fm k h1
    · exact Nat.le_trans h.low.size h1, fun k hk => by
    rcases t.fy k hk with h1 | h1
    · exact h.fy k h1
    · exact Nat.le_trans h.low.size h1, h.low.trans (t.but.below h.low.size fun k hk => by
      rcases hk with h1 | h1 | h1
      · exact h.fm k h1
      · exact h.fy k h1
      · rw [h1]; exact hg), t.g.trans h.em, t.gs.trans h.es⟩
end
theorem bytes_out6 {w : World} {B : Nat} {l : List Nat} {v : Value} {n : Nat} (h : w.ownsRow B 5 1 v l.length (l.map bv)) (hl : l.length = n) (hn : 0 < n) : ∃ g c, v = .slice (some ⟨g, 0, none⟩) n c ∧ Sl w (some ⟨g, 0, none⟩) (l.map bv) := by
  rw [hl] at h
  obtain ⟨A, cap, rfl, _, _, hs, hx⟩ := own_sl h
  rcases h.2 with ⟨h0, hz⟩ | ⟨g, cap', cur, h0, _⟩
  · cases h0; omega
  · cases h0; exact ⟨g, _, rfl, hs⟩
theorem sl_at6 {w : World} {g i n : Nat} {l : List Nat} (h : Sl w (some ⟨g, 0, none⟩) (l.map bv)) (hi : l[i]? = some n) : w.cell? ⟨g, i, none⟩ = some (.int .u8 (n : Int)) := by
  obtain ⟨a, e, hc⟩ := h i (bv n) (by rw [List.getElem?_map, hi]; rfl)
  cases e
  have e : (⟨g, 0, none⟩ : Addr).add i = ⟨g, i, none⟩ := by unfold Addr.add; split <;> simp_all
  rw [e] at hc
  exact hc
theorem noughts48 : bytesL (St.zero 48).lasted = List.replicate 3072 0 := by decide +kernel
set_option maxRecDepth 100000 in
set_option maxHeartbeats 3200000 in
theorem known6_any (w : World) (R : Rms w) : Calls Tryz.prog 7 #[] w fun e w' => e = .returned (.bool true) ∧ Below w.heap.size w w' := by
  have HN := Lib.hid (show Calls Tryz.prog 30 #[.int .i64 3072] w (NewPost 48 w) from new_yes 48 w (by decide) (by decide))
  have HR := Lib.hid R
  have HRL := Lib.hid (show 0 < w.heap.size by obtain ⟨t, ht⟩ := R; exact heap_lt ht)
  clear R
  go_enter Tryz.func7, Tryz.ntmps7
  go_wp2_with fail
  refine HN.out.mono ?_
  rintro e w1 ⟨ym, rfl, hm1, hfm, hb1⟩
  have him := image_yes hm1 (zero_Ok 48).las
  rw [noughts48] at him
  have HM1 := Lib.hid hm1
  have HFM := Lib.hid hfm
  have HB1 := Lib.hid hb1
  obtain ⟨gm, hgm⟩ : ∃ gm, gm = ym.g := ⟨_, rfl⟩
  rw [← hgm] at him ⊢
  have HGM := Lib.hid hgm
  have HIM := Lib.hid him
  clear hm1 hfm hb1 HN hgm him
  go_wp2_with fail
  refine HIM.out.mono ?_
  rintro e w2 ⟨⟨v2, rfl, ho2⟩, hb2⟩
  obtain ⟨ga, ca, rfl, hsa⟩ := bytes_out6 ho2 (n := 3072) List.length_replicate (by decide)
  have HOF := Lib.hid (show Calls Tryz.prog 9 #[.slice (some ⟨ga, 0, none⟩) 3072 ca] w2 (OfPost w2 (List.replicate 3072 0) 2) from
    slabOf_yes (n := 2) (l := List.replicate 3072 0) List.length_replicate hsa (fun x hx => by rw [List.eq_of_mem_replicate hx]; decide) (by decide) (by decide) ((HR.out.below HB1.out).below hb2))
  have HB2 := Lib.hid hb2
  clear ho2 hsa hb2 HIM
  go_wp2_with fail
  refine HOF.out.mono ?_
  rintro e w3 hof
  rcases hof with ⟨_, y3, rfl, hm3, hf3, hb3⟩ | ⟨hno, _⟩
  · rw [hsK_noughts _ rfl] at hm3
    have ho3 : HsOk A0 := by have := hsK_ok (hcW (List.replicate 3072 0)) (hbW (List.replicate 3072 0)) 2; rwa [hsK_noughts _ rfl] at this
    have fo3 : FsOk A0 (fsK (hcW (List.replicate 3072 0)) (hbW (List.replicate 3072 0)) 2) := by have := fsK_ok (hcW (List.replicate 3072 0)) (hbW (List.replicate 3072 0)) 2; rwa [hsK_noughts _ rfl] at this
    have hb12 := HB1.out.trans (HB2.out.mono HB1.out.size)
    have hb13 := hb12.trans (hb3.mono hb12.size)
    have k3 : KG w w3 gm y3.gs ym (St.zero 48) y3 A0 (fsK (hcW (List.replicate 3072 0)) (hbW (List.replicate 3072 0)) 2) := ⟨⟨(HM1.out.below HB2.out).below hb3, zero_Ok 48, hm3, ho3, fo3, ⟨HR.out.below hb13, fun h => by have := hf3 _ h; have := HB1.out.size; have := HB2.out.size; have := HRL.out; omega⟩, fun h => by have := HFM.out _ h; have := HRL.out; omega, by decide⟩, HFM.out, fun k hk => by have := hf3 k hk; have := HB1.out.size; have := HB2.out.size; omega, hb13, HGM.out.symm, rfl⟩
    obtain ⟨gs, hgs⟩ : ∃ gs, gs = y3.gs := ⟨_, rfl⟩
    rw [← hgs] at k3 ⊢
    have hH1 := reserve_any k3.G.mem k3.G.ho k3.G.fo k3.G.rs (c := 1) (by decide) (by decide)
    rw [k3.es] at hH1
    have H1 := Lib.hid (show Calls Tryz.prog 26 #[.pointer (some ⟨gs, 0, none⟩), .int .i64 1] w3 (ResPost w3 y3 A0 1) from hH1)
    clear hH1
    have K3 := Lib.hid k3
    unfold fpt
    clear hm3 hf3 hb3 ho3 fo3 hb12 hb13 k3 hgs HOF HM1 HB1 HB2 HFM HGM
    go_wp2_with fail
    refine H1.out.mono ?_
    rintro e w4 ⟨hs1, hs4, y4, fs4, hcl, htk, hm4, ho4, fo4, ht4⟩
    obtain ⟨rfl, rfl⟩ := row1 hcl htk
    have k4 := K3.out.slab hm4 ho4 fo4 rfl ht4
    have hH2 := reserve_any k4.G.mem k4.G.ho k4.G.fo k4.G.rs (c := 3) (by decide) (by decide)
    rw [k4.es] at hH2
    have H2 := Lib.hid (show Calls Tryz.prog 26 #[.pointer (some ⟨gs, 0, none⟩), .int .i64 3] w4 (ResPost w4 y4 A2 3) from hH2)
    clear hH2
    have K4 := Lib.hid k4
    clear hcl htk hm4 ho4 fo4 ht4 k4 H1 K3
    go_wp2_with fail
    refine H2.out.mono ?_
    rintro e w5 ⟨hs1, hs5, y5, fs5, hcl, htk, hm5, ho5, fo5, ht5⟩
    obtain ⟨rfl, rfl⟩ := row3 hcl htk
    have k5 := K4.out.slab hm5 ho5 fo5 rfl ht5
    have hH3 := reserve_any k5.G.mem k5.G.ho k5.G.fo k5.G.rs (c := 2) (by decide) (by decide)
    rw [k5.es] at hH3
    have H3 := Lib.hid (show Calls Tryz.prog 26 #[.pointer (some ⟨gs, 0, none⟩), .int .i64 2] w5 (ResPost w5 y5 A4 2) from hH3)
    clear hH3
    have K5 := Lib.hid k5
    clear hcl htk hm5 ho5 fo5 ht5 k5 H2 K4
    go_wp2_with fail
    refine H3.out.mono ?_
    rintro e w6 ⟨hs1, hs6, y6, fs6, hcl, htk, hm6, ho6, fo6, ht6⟩
    obtain ⟨rfl, rfl⟩ := row2 hcl htk
    have k6 := K5.out.slab hm6 ho6 fo6 rfl ht6
    have hH4 := publish_ok k6.G.mem k6.G.ho k6.G.rs k6.G.pm (c := 0) (i := 0) (j := 0) (a := 1088) (x := ⟨1, 1, 0, 1 :: List.replicate 14 0⟩) (by decide +kernel) rfl rfl rfl
    rw [k6.es, k6.em] at hH4
    have H4 := Lib.hid (show Calls Tryz.prog 31 #[.pointer (some ⟨gs, 0, none⟩), .pointer (some ⟨gm, 0, none⟩), .int .i64 0, .int .u64 1088] w6 (Began w6 y6 A4 fs6 0 0 ⟨1, 1, 0, 1 :: List.replicate 14 0⟩ gm 0 4) from hH4)
    clear hH4
    have K6 := Lib.hid k6
    clear hcl htk hm6 ho6 fo6 ht6 k6 H3 K5
    go_wp2_with fail
    refine H4.out.mono ?_
    rintro e w7 ⟨gt, rfl, hr7, hg7, hm7, ht7⟩
    have k7 : KG w w7 gm gs ym (St.zero 48) y6 A5 fs6 := K6.out.slab hm7 (K6.out.G.ho.set_bl (i := 0) (j := 0) (v := 4) (x := ⟨1, 1, 0, 1 :: List.replicate 14 0⟩) rfl) (K6.out.G.fo.turn (i := 0) (j := 0) (u := 1) (v := 4) (x := ⟨1, 1, 0, 1 :: List.replicate 14 0⟩) rfl rfl (by decide) (by decide)) rfl ht7
    have hg0 : w.heap.size ≤ gt := Nat.le_trans K6.out.low.size hg7
    have T7 : TAt w7 ym y6 gt ((0 : Nat) : Int) 0 0 99 false 0 := by
      show Row _ _ _ _
      rw [k7.em]
      exact hr7
    have hH5 := whole_any k7.G (gt := gt) (i := 0) (j := 0) (cl := 0) (v := 4) (x := ⟨1, 1, 0, 4 :: List.replicate 14 0⟩) T7 (by have := HRL.out; omega) (by decide) rfl rfl (by decide) (by decide) (by decide) (fun l hl => by rw [List.eq_of_mem_replicate hl]; decide)
    rw [k7.em] at hH5
    have H5 := Lib.hid (show Calls Tryz.prog 32 #[.pointer (some ⟨gm, 0, none⟩), .pointer (some ⟨gt, 0, none⟩)] w7 (WholeP w7 ym (St.zero 48) y6 A5 gt 0 0 0 4 ⟨1, 1, 0, 4 :: List.replicate 14 0⟩) from hH5)
    clear hH5
    have K7 := Lib.hid k7
    have HG0 := Lib.hid hg0
    unfold fpt
    clear hr7 hg7 hm7 ht7 k7 hg0 T7 H4 K6
    go_wp2_with fail
    refine H5.out.mono ?_
    rintro e w8 ⟨rfl, ym8, y8, fs8, G8, T8, t8⟩
    have k8 := K7.out.turn HG0.out G8 t8
    rw [k6_H] at k8
    have H6 := is_any k8.G.mem k8.G.ho k8.G.rs.1 1088
    rw [k8.es] at H6
    have H6' : Calls Tryz.prog 14 #[.pointer (some ⟨gs, 0, none⟩), .int .u64 1088] w8 fun e w' => e = .returned (.int .i64 2) ∧ Below w8.heap.size w8 w' := H6.mono fun e w' ⟨⟨u, hu, he⟩, hb⟩ => by
      obtain rfl := isAt_one k8.G.ho k8.G.mem.most hu (.inl ⟨0, 0, ⟨1, 1, 1, 2 :: List.replicate 14 0⟩, rfl, by decide, rfl, rfl⟩ : isAt A6 1088 2)
      exact ⟨he, hb⟩
    have HI6 := Lib.hid H6'
    have K8 := Lib.hid k8
    clear G8 T8 t8 k8 H6 H6' H5 K7
    go_wp2_with fail
    refine HI6.out.mono ?_
    rintro e w9 ⟨rfl, hb9⟩
    have k9 := K8.out.below hb9
    have h7 := image_yes k9.G.pm k9.G.ok.las
    rw [k9.em] at h7
    have H7 := Lib.hid h7
    clear h7
    have K9 := Lib.hid k9
    clear hb9 k9 HI6 K8
    go_wp2_with fail
    refine H7.out.mono ?_
    rintro e wA ⟨⟨vA, rfl, hoA⟩, hbA⟩
    obtain ⟨gb, cb, rfl, hsb⟩ := bytes_out6 hoA (n := 3072) k6_las.1 (by decide)
    have B0 := sl_at6 hsb k6_las.2.1
    have B8 := sl_at6 hsb k6_las.2.2
    have HE := Lib.hid (K9.out.below hbA).low
    clear hoA hbA hsb H7 K9
    go_wp2
    go_ret
    exact ⟨rfl, HE.out⟩
  · exact absurd (okHeads_noughts _ rfl 2) hno
end Go.Proofs.YtahojhaeebmpoaaGreatDoor
