/- Texts of this claim, packed: WkD, WkE, WkB, WkM, WkN, WkL, WkA, WkH. -/
import Derived.Test.YtfdngoificpjfaaGreatDoorPm35
import Derived.Test.YtfdngoificpjfaaGreatDoorPm20
/- A walk sees the node at which it is done; conditions: no hop, and the node's level is not above the one that is looked for. -/
namespace Go.Proofs.YtfdngoificpjfaaGreatDoor
open Go.RowKit
set_option linter.unusedVariables false
attribute [local go_sem] Oper.semAt_some
/-- What the snapshot answers, in all worlds behind one. -/
def NodeIs (w : World) (g gs : Nat) (N : Nd) : Prop := ∀ W, But w W (fun q => q = g) → Calls Tryz.prog 68 #[.pointer (some ⟨gs, 0, none⟩)] W fun e w' => e = .returned (.tuple #[N.V, .int .i64 0]) ∧ Below W.heap.size W w'
def HighIs (w : World) (g gs : Nat) (hv : Int) (hb : Bool) : Prop := ∀ W, But w W (fun q => q = g) → Calls Tryz.prog 79 #[.pointer (some ⟨gs, 0, none⟩)] W fun e w' => e = .returned (.tuple #[.int .u64 hv, .bool hb]) ∧ Below W.heap.size W w'
theorem NodeIs.but {w w1 : World} {g gs : Nat} {N : Nd} (h : NodeIs w g gs N) (hb : But w w1 (fun q => q = g)) : NodeIs w1 g gs N := fun W hW => h W (hb.trans hW fun q hq => .inl hq)
theorem HighIs.but {w w1 : World} {g gs : Nat} {hv : Int} {b : Bool} (h : HighIs w g gs hv b) (hb : But w w1 (fun q => q = g)) : HighIs w1 g gs hv b := fun W hW => h W (hb.trans hW fun q hq => .inl hq)
def WF.seen (s : WF) (N : Nd) (hv : Int) (hb : Bool) : WF := { s with n := N, hi := hv, has := hb, d := true }
def SeenP (w : World) (g : Nat) (s : WF) (N : Nd) (hv : Int) (hb : Bool) (k : Int) (e : Ending) (w' : World) : Prop := e = .returned (.int .i64 k) ∧ WkAt w' g (s.seen N hv hb) ∧ But w w' (fun q => q = g)
theorem store_nd (w1 : World) (n : Nd) : ∃ W2, W2 = (w1.alloc (.cells #[.int .i64 0, .int .u64 0, .int .u64 0, .int .u64 0, .int .u64 0, .int .u64 0, .int .u64 0, .int .u64 0, .int .u64 0, .int .u64 0, .int .u64 0, .int .u64 0, .int .u64 0, .int .u64 0, .int .u64 0, .int .u64 0, .int .u64 0, .int .u64 0, .int .u64 0, .int .u64 0, .int .u64 0] 46)).setCells w1.heap.size 0 n.cl ∧ NdAt W2 w1.heap.size n ∧ Below w1.heap.size w1 W2 :=
  ⟨_, rfl, row_setCells (Row.new w1 46 zeroNd.cl.toArray) rfl, setCells_low _ (Nat.le_refl _) (alloc_low _ _)⟩
set_option maxRecDepth 100000 in
set_option maxHeartbeats 3200000 in
theorem wkSeen_done {w : World} {g gs : Nat} {s : WF} {N : Nd} {hv : Int} {hb : Bool} (h : WkAt w g s) (hsn : s.sn = .pointer (some ⟨gs, 0, none⟩)) (hN : NodeIs w g gs N) (hH : HighIs w g gs hv hb) (hk : hb = true → s.key < hv) (hl : N.l ≤ s.lev) :
    Calls Tryz.prog 67 #[.pointer (some ⟨g, 0, none⟩)] w (SeenP w g s N hv hb s.ends) := by
  have mixed : Tryz.prog.follows .mixedOrders = true := by kernel_rfl
  have c7 : w.cell? ⟨g, 7, none⟩ = some s.sn := Row.cell h 7
  rw [hsn] at c7
  have H := Lib.hid h
  have HN := Lib.hid (hN w (But.refl _ _))
  have HH := Lib.hid hH
  have HK := Lib.hid hk
  have HL := Lib.hid hl
  have hg := h.lt
  clear h hsn hN hH hk hl
  go_enter Tryz.func67, Tryz.ntmps67
  go_wp2_with fail
  refine HN.out.mono ?_
  rintro e w1 ⟨rfl, hb1⟩
  have HB1 := Lib.hid hb1
  clear hb1 HN
  go_upto_region 2 with (first
    | ((with_reducible refine show_storeN ?_); refine wpList_store_row rfl _ _ _ rfl w1.heap.size N.cl rfl rfl (Row.new w1 46 zeroNd.cl.toArray) rfl ndI (cl_one _) ?_))
  obtain ⟨W2, hW2, hn2, hb2⟩ := store_nd w1 N
  rw [← hW2]
  have HB2 := Lib.hid (Below.and HB1.out hb2)
  have HN2 := Lib.hid hn2
  have c72 : W2.cell? ⟨g, 7, none⟩ = some (.pointer (some ⟨gs, 0, none⟩)) := (HB2.out.cell (p := ⟨g, 7, none⟩) hg).trans c7
  have HHW := Lib.hid (HH.out W2 (But.of_below HB2.out _))
  have HGN := Lib.hid (show w1.heap.size ≠ g from by have := HB1.out.size; omega)
  obtain ⟨gn, hgn⟩ : ∃ gn, gn = w1.heap.size := ⟨_, rfl⟩
  rw [← hgn] at HN2 HGN ⊢
  clear hW2 hn2 hb2 HH c7 hgn
  go_wp2_with fail
  refine HHW.out.mono ?_
  rintro e w3 ⟨rfl, hb3⟩
  have HB3 := Lib.hid (Below.and HB2.out hb3)
  have HN3 := Lib.hid (HN2.out.below hb3 HN2.out.lt)
  have H3 := Lib.hid (H.out.below HB3.out)
  have hth := row_thereM (n := 21) (o := 9) H3.out (by show 9 + 21 ≤ 38; decide)
  have HTH := Lib.hid hth
  clear hb3 c72 HHW hth
  go_upto_region 3 with (fail)
  go_upto_region 4 with (first
    | ((with_reducible refine show_loadN ?_); refine wpList_load_mid rfl _ _ rfl gn 0 rfl N.cl _ (ndR HN3.out) Tryz.underlying46 rfl ndI ?_)
    | ((with_reducible refine show_storeN ?_); refine wpList_store_mid rfl _ _ _ rfl g 9 N.cl.toArray rfl rfl HTH.out ndI (all_oneCell_toArray (cl_one _)) ?_; obtain ⟨W4, hW4⟩ : ∃ W4, W4 = w3.setCells g 9 N.cl := ⟨_, rfl⟩; have H4 := Lib.hid (show WkAt W4 g { s with n := N } from by rw [hW4]; exact H3.out.node N); have HB4 := Lib.hid (show But w3 W4 (fun q => q = g) from by rw [hW4]; exact but_setCells (But.refl w3 _) N.cl 9); have e30 : W4.cell? ⟨g, 30, none⟩ = some (.int .u64 s.hi) := Row.cell H4.out 30; have e31 : W4.cell? ⟨g, 31, none⟩ = some (.bool s.has) := Row.cell H4.out 31; have f30 := Row.free H4.out 30; have f31 := Row.free H4.out 31; (try rw [← hW4]); clear hW4))
  obtain ⟨W5, hW5⟩ : ∃ W5, W5 = (W4.setCell ⟨g, 30, none⟩ (.int .u64 hv)).setCell ⟨g, 31, none⟩ (.bool hb) := ⟨_, rfl⟩
  rw [← hW5]
  have H5 := Lib.hid (show WkAt W5 g { s with n := N, hi := hv, has := hb } from by rw [hW5]; exact (H4.out.high hv).has hb)
  have HB5 := Lib.hid (show But w W5 (fun q => q = g) from by
    rw [hW5]
    exact (((But.of_below HB3.out (fun q => q = g)).trans HB4.out fun q hq => .inl hq).set (p := ⟨g, 30, none⟩) rfl _).set (p := ⟨g, 31, none⟩) rfl _)
  have HN5 := Lib.hid (show NdAt W5 gn N from by
    rw [hW5]
    exact ((HB4.out.row HN3.out HGN.out).other (p := ⟨g, 30, none⟩) HGN.out _).other (p := ⟨g, 31, none⟩) HGN.out _)
  have k0 : W5.cell? ⟨gn, 0, none⟩ = some (.int .i64 N.l) := ndAt_at HN5.out 0
  have k2 : W5.cell? ⟨g, 2, none⟩ = some (.int .u64 s.key) := Row.cell H5.out 2
  have k3 : W5.cell? ⟨g, 3, none⟩ = some (.int .i64 s.lev) := Row.cell H5.out 3
  have k35 : W5.cell? ⟨g, 35, none⟩ = some (.int .i64 s.ends) := Row.cell H5.out 35
  have k36 : W5.cell? ⟨g, 36, none⟩ = some (.bool s.d) := Row.cell H5.out 36
  have f36 := Row.free H5.out 36
  obtain ⟨key, hkey⟩ : ∃ key, key = s.key := ⟨_, rfl⟩
  obtain ⟨lev, hlev⟩ : ∃ lev, lev = s.lev := ⟨_, rfl⟩
  obtain ⟨nl, hnl⟩ : ∃ nl, nl = N.l := ⟨_, rfl⟩
  rw [← hkey] at k2 HK
  rw [← hlev] at k3 HL
  rw [← hnl] at k0 HL
  have d1 : decide (lev < nl) = false := by have := HL.out; simp; omega
  have hL := HL.out
  clear hW5 e30 e31 f30 f31 HN3 H3 HB3 HB4 H4 hkey hlev hnl HTH HN2 HB2 HB1
  cases hb with
  | false =>
    clear H HK HL
    go_wp2_with fail
    go_quiet (fail)
    go_wp2_with fail
    go_ret
    have HBE := Lib.hid (HB5.out.trans (But.of_below (drewN_below W5 nq) (fun q => q = g)) fun q hq => .inl hq)
    exact ⟨rfl, WkAt.done (H5.out.below (drewN_below W5 nq)) true, HBE.out.set (p := ⟨g, 36, none⟩) rfl _⟩
  | true =>
    have hkk := HK.out rfl
    have d2 : decide (hv ≤ key) = false := by simp; omega
    clear H HK HL
    go_wp2_with fail
    go_quiet (fail)
    go_wp2_with fail
    go_ret
    have HBE := Lib.hid (HB5.out.trans (But.of_below (drewN_below W5 nq) (fun q => q = g)) fun q hq => .inl hq)
    exact ⟨rfl, WkAt.done (H5.out.below (drewN_below W5 nq)) true, HBE.out.set (p := ⟨g, 36, none⟩) rfl _⟩
end Go.Proofs.YtfdngoificpjfaaGreatDoor
/- A walk goes on: by its snapshot's step, and what stands behind its last one; no conditions. -/
namespace Go.Proofs.YtfdngoificpjfaaGreatDoor
open Go.RowKit
set_option linter.unusedVariables false
attribute [local go_sem] Oper.semAt_some
set_option maxRecDepth 100000 in
set_option maxHeartbeats 3200000 in
theorem wkSeenRoot_done {w : World} {g gs : Nat} {s : WF} {N : Nd} {hv : Int} {hb : Bool} {k : Int} (h : WkAt w g s) (hsn : s.sn = .pointer (some ⟨gs, 0, none⟩)) (hN : NodeIs w g gs N) (hH : HighIs w g gs hv hb) (hk : hb = true → s.key < hv) (hl : N.l ≤ s.lev) (he : k = if N.l < s.lev then 5 else s.ends) :
    Calls Tryz.prog 48 #[.pointer (some ⟨g, 0, none⟩)] w (SeenP w g { s with ends := k } N hv hb k) := by
  have mixed : Tryz.prog.follows .mixedOrders = true := by kernel_rfl
  have c7 : w.cell? ⟨g, 7, none⟩ = some s.sn := Row.cell h 7
  rw [hsn] at c7
  have H := Lib.hid h
  have HN := Lib.hid (hN w (But.refl _ _))
  have hg := h.lt
  have HSEEN := Lib.hid fun (W : World) (h1 : WkAt W g { s with ends := k }) (h2 : NodeIs W g gs N) (h3 : HighIs W g gs hv hb) => wkSeen_done (s := { s with ends := k }) h1 hsn h2 h3 hk hl
  have HNN := Lib.hid hN
  have HHH := Lib.hid hH
  have HE := Lib.hid he
  have HL := Lib.hid hl
  clear h hsn hN hH hk hl he
  go_enter Tryz.func48, Tryz.ntmps48
  go_wp2_with fail
  refine HN.out.mono ?_
  rintro e w1 ⟨rfl, hb1⟩
  have HB1 := Lib.hid hb1
  clear hb1 HN
  go_upto_region 2 with (first
    | ((with_reducible refine show_storeN ?_); refine wpList_store_row rfl _ _ _ rfl w1.heap.size N.cl rfl rfl (Row.new w1 46 zeroNd.cl.toArray) rfl ndI (cl_one _) ?_))
  obtain ⟨W2, hW2, hn2, hb2⟩ := store_nd w1 N
  rw [← hW2]
  have HB2 := Lib.hid (Below.and HB1.out hb2)
  have H2 := Lib.hid (H.out.below HB2.out)
  have k0 : W2.cell? ⟨w1.heap.size, 0, none⟩ = some (.int .i64 N.l) := ndAt_at hn2 0
  have k3 : W2.cell? ⟨g, 3, none⟩ = some (.int .i64 s.lev) := Row.cell H2.out 3
  have k35 : W2.cell? ⟨g, 35, none⟩ = some (.int .i64 s.ends) := Row.cell H2.out 35
  have f35 := Row.free H2.out 35
  obtain ⟨lev, hlev⟩ : ∃ lev, lev = s.lev := ⟨_, rfl⟩
  obtain ⟨nl, hnl⟩ : ∃ nl, nl = N.l := ⟨_, rfl⟩
  rw [← hlev] at k3 HE
  rw [← hnl] at k0 HE
  clear hW2 hn2 hb2 c7 hlev hnl HB1
  by_cases hlt : nl < lev
  · have d1 : decide (nl < lev) = true := by simpa using hlt
    obtain rfl : k = 5 := HE.out.trans (if_pos hlt)
    clear hlt HE HL H
    go_wp2_with fail
    go_quiet (fail)
    obtain ⟨W3, hW3⟩ : ∃ W3, W3 = (W2.drewN nq).setCell ⟨g, 35, none⟩ (.int .i64 5) := ⟨_, rfl⟩
    have HB3 := Lib.hid (show But w W3 (fun q => q = g) from by
      rw [hW3]
      exact (But.of_below (Below.and HB2.out (drewN_below W2 nq)) (fun q => q = g)).set (p := ⟨g, 35, none⟩) rfl _)
    have HS := Lib.hid (HSEEN.out W3 (by rw [hW3]; exact WkAt.ends (H2.out.below (drewN_below W2 nq)) 5) (HNN.out.but HB3.out) (HHH.out.but HB3.out))
    rw [hW3] at HS HB3
    clear hW3
    go_wp2_with fail
    refine HS.out.mono ?_
    rintro e w4 ⟨rfl, h4, hb4⟩
    have H4 := Lib.hid h4
    have HB4 := Lib.hid (HB3.out.trans hb4 fun q hq => .inl hq)
    clear h4 hb4 HS
    go_wp2
    go_ret
    exact ⟨rfl, H4.out, HB4.out⟩
  · have d1 : decide (nl < lev) = false := by simpa using hlt
    have hke : k = s.ends := HE.out.trans (if_neg hlt)
    have HKE := Lib.hid hke
    clear hlt HE HL H hke
    go_wp2_with fail
    go_quiet (fail)
    have HB3 := Lib.hid (But.of_below (Below.and HB2.out (drewN_below W2 nq)) (fun q => q = g))
    have HS := Lib.hid (HSEEN.out (W2.drewN nq) (by rw [HKE.out]; exact H2.out.below (drewN_below W2 nq)) (HNN.out.but HB3.out) (HHH.out.but HB3.out))
    go_wp2_with fail
    refine HS.out.mono ?_
    rintro e w4 ⟨rfl, h4, hb4⟩
    have H4 := Lib.hid h4
    have HB4 := Lib.hid (HB3.out.trans hb4 fun q hq => .inl hq)
    clear h4 hb4 HS
    go_wp2
    go_ret
    exact ⟨rfl, H4.out, HB4.out⟩
/-- The method that an interface's value names. -/
theorem und_PSnap : Tryz.prog.underlying 72 = some (.pointer 163) := by kernel_rfl
theorem mr_snap : ((Tryz.prog.info? 72).bind fun i => i.methods.find? (·.name == "Step")).map (fun m => (m.path.toList, m.func)) = some ([], some (146, true)) := by kernel_rfl
theorem m_snap (g : Nat) (w : World) : (method (Tryz.prog.types.size + Made.depth) 72 (.pointer (some ⟨g, 0, none⟩)) "Step").run Tryz.prog w = .ok (146, .pointer (some ⟨g, 0, none⟩)) w := by
  obtain ⟨i, m, hi, hm, hp, hf⟩ := row_of mr_snap
  rw [fuel_pos]
  exact method_own hi hm hp hf und_PSnap _
set_option maxRecDepth 100000 in
set_option maxHeartbeats 1600000 in
theorem wkGoOn_more {w : World} {g gs : Nat} {s : WF} {d : Bool} {k : Int} {Q : World → Prop} (h : WkAt w g s) (hun : s.un = .iface 72 (.pointer (some ⟨gs, 0, none⟩)))
    (HS : Calls Tryz.prog 146 #[.pointer (some ⟨gs, 0, none⟩)] w fun e w' => e = .returned (.tuple #[.bool d, .int .i64 k]) ∧ Q w') (hd : d = false ∨ k ≠ 0) :
    Calls Tryz.prog 66 #[.pointer (some ⟨g, 0, none⟩)] w fun e w' => e = .returned (.int .i64 k) ∧ Q w' := by
  have c5 : w.cell? ⟨g, 5, none⟩ = some s.un := Row.cell h 5
  rw [hun] at c5
  have HS := Lib.hid HS
  have M1 : (method 334 72 (.pointer (some ⟨gs, 0, none⟩)) "Step").run Tryz.prog w = .ok (146, .pointer (some ⟨gs, 0, none⟩)) w := m_snap gs w
  clear h hun
  cases d with
  | false =>
    clear hd
    go_enter Tryz.func66, Tryz.ntmps66
    go_wp2_with fail
    refine HS.out.mono ?_
    rintro e w1 ⟨rfl, hq⟩
    have HQ := Lib.hid hq
    clear hq M1 HS
    go_wp2
    go_ret
    exact ⟨rfl, HQ.out⟩
  | true =>
    have hk : k ≠ 0 := hd.elim (fun e => by cases e) id
    have d2 : (k == 0) = false := by simpa using hk
    clear hd hk
    go_enter Tryz.func66, Tryz.ntmps66
    go_wp2_with fail
    refine HS.out.mono ?_
    rintro e w1 ⟨rfl, hq⟩
    have HQ := Lib.hid hq
    clear hq M1 HS
    go_wp2
    go_ret
    exact ⟨rfl, HQ.out⟩
set_option maxRecDepth 100000 in
set_option maxHeartbeats 1600000 in
theorem wkGoOn_then {w : World} {g gs fT : Nat} {s : WF} {k : Int} {Q R : World → Prop} (h : WkAt w g s) (hun : s.un = .iface 72 (.pointer (some ⟨gs, 0, none⟩)))
    (hcall : ∀ (w : World) (v : Value), (callFunc fT #[v]).run Tryz.prog w = .ok (.enter fT #[v]) w)
    (HS : Calls Tryz.prog 146 #[.pointer (some ⟨gs, 0, none⟩)] w fun e w' => e = .returned (.tuple #[.bool true, .int .i64 0]) ∧ Q w')
    (hth : ∀ w', Q w' → w'.cell? ⟨g, 6, none⟩ = some (nextV fT g)) (HT : ∀ w', Q w' → Calls Tryz.prog fT #[.pointer (some ⟨g, 0, none⟩)] w' fun e w' => e = .returned (.int .i64 k) ∧ R w') :
    Calls Tryz.prog 66 #[.pointer (some ⟨g, 0, none⟩)] w fun e w' => e = .returned (.int .i64 k) ∧ R w' := by
  have c5 : w.cell? ⟨g, 5, none⟩ = some s.un := Row.cell h 5
  rw [hun] at c5
  have HS := Lib.hid HS
  have M1 : (method 334 72 (.pointer (some ⟨gs, 0, none⟩)) "Step").run Tryz.prog w = .ok (146, .pointer (some ⟨gs, 0, none⟩)) w := m_snap gs w
  have HTH := Lib.hid hth
  have HTT := Lib.hid HT
  clear h hun hth HT
  go_enter Tryz.func66, Tryz.ntmps66
  go_wp2_with fail
  refine HS.out.mono ?_
  rintro e w1 ⟨rfl, hq⟩
  have c6 := HTH.out w1 hq
  unfold nextV at c6
  have HC := Lib.hid (HTT.out w1 hq)
  clear hq M1 HS HTH HTT
  go_wp2_with fail
  refine HC.out.mono ?_
  rintro e w2 ⟨rfl, hr⟩
  have HR := Lib.hid hr
  clear hr HC
  go_wp2
  go_ret
  exact ⟨rfl, HR.out⟩
end Go.Proofs.YtfdngoificpjfaaGreatDoor
/- A walk's first step: the root is read; conditions: the root's word lies within the memory. -/
namespace Go.Proofs.YtfdngoificpjfaaGreatDoor
open Go.RowKit
set_option linter.unusedVariables false
attribute [local go_sem] Oper.semAt_some
theorem rootAt_any (w : World) : Calls Tryz.prog 46 #[] w fun e w' => e = .returned (.int .u64 16) ∧ w = w' := by
  go_enter Tryz.func46, Tryz.ntmps46
  go_wp2
  go_ret
  exact ⟨rfl, rfl⟩
theorem wkBegin_wrong {w : World} {g : Nat} {s : WF} {Z : Int} (h : WkAt w g s) (hz : SizeIs w s.mem Z) (hk : wrongK Z s.lev ≠ 0) :
    Calls Tryz.prog 26 #[.pointer (some ⟨g, 0, none⟩)] w fun e w' => e = .returned (.int .i64 (wrongK Z s.lev)) ∧ w = w' := by
  have HW := Lib.hid (wkWrong_any h hz)
  obtain ⟨K, hK⟩ : ∃ K, K = wrongK Z s.lev := ⟨_, rfl⟩
  rw [← hK] at HW hk ⊢
  have d1 : (K == 0) = false := by simpa using hk
  clear h hz hK hk
  go_enter Tryz.func26, Tryz.ntmps26
  go_wp2_with fail
  refine HW.out.mono ?_
  rintro e w1 ⟨rfl, rfl⟩
  clear HW
  go_wp2
  go_ret
  exact ⟨rfl, rfl⟩
/-- What the first step leaves: the walk is at the root; Q: what its load leaves. -/
def BeginP (w : World) (g : Nat) (s : WF) (r : Int) (Q : World → Prop) (k : Int) (e : Ending) (w' : World) : Prop :=
  e = .returned (.int .i64 k) ∧ ∃ w1 gs, Q w1 ∧ w1.heap.size ≤ gs ∧ WkAt w' g { s.come g gs r with th := nextV 48 g } ∧ Row w' gs 163 (zeroS s.mem (nextV 78 gs) r).toArray ∧ But w1 w' (fun q => q = g)
set_option maxRecDepth 100000 in
set_option maxHeartbeats 3200000 in
theorem wkBegin_any {w : World} {g : Nat} {s : WF} {Z r k : Int} {Q : World → Prop} (h : WkAt w g s) (hz : SizeIs w s.mem Z) (hk : wrongK Z s.lev = 0)
    (HL : ∀ W, Below w.heap.size w W → Calls Tryz.prog 45 #[.pointer s.mem, .int .u64 16] W fun e w' => e = .returned (.tuple #[.int .u64 r, .int .i64 k]) ∧ Q w' ∧ WkAt w' g s) :
    Calls Tryz.prog 26 #[.pointer (some ⟨g, 0, none⟩)] w (BeginP w g s r Q k) := by
  have mixed : Tryz.prog.follows .mixedOrders = true := by kernel_rfl
  have HW := Lib.hid (wkWrong_any h hz)
  rw [hk] at HW
  have c0 : w.cell? ⟨g, 0, none⟩ = some (.pointer s.mem) := Row.cell h 0
  have HLL := Lib.hid HL
  have HRT := Lib.hid fun W => rootAt_any W
  have EGR := Lib.hid (enters_of Tryz.func46 (by kernel_rfl) rfl)
  have EGL := Lib.hid (enters_of Tryz.func45 (by kernel_rfl) rfl)
  have hg := h.lt
  obtain ⟨p, hp⟩ : ∃ p, p = s.mem := ⟨_, rfl⟩
  rw [← hp] at c0 HLL
  have HP := Lib.hid hp
  clear h hz hk HL hp
  go_enter Tryz.func26, Tryz.ntmps26
  go_wp2_with fail
  refine HW.out.mono ?_
  rintro e w1 ⟨rfl, rfl⟩
  clear HW
  go_upto_region 4 with (fail)
  refine wp_region_noPanic ?_
  refine wp_region_held_drew (S := fun W' => W'.cell? ⟨g, 0, none⟩ = some (.pointer p)) (by kernel_rfl) ((drew_below w).cell (p := ⟨g, 0, none⟩) hg |>.trans c0) (fun hHeld => ?_)
  refine wpAnyH_take (i := 0) (oi := ⟨some 12, _, _, _, _, _⟩) (v := .pointer (some ⟨g, 0, none⟩)) rfl (by kernel_rfl) (by kernel_rfl) (by kernel_rfl) (fun _ _ _ h => h) (Or.inl ⟨by kernel_rfl, by intro WW hSw; (try dsimp only at hSw); go_simp⟩) (by assumption) ?_
  (try simp only [Act.put, List.setIfInBounds_toArray, List.set_cons_zero, List.set_cons_succ])
  refine wpAnyH_take (i := 1) (oi := ⟨some 13, _, _, _, _, _⟩) (v := .pointer (some ⟨g, 0, none⟩)) rfl (by kernel_rfl) (by kernel_rfl) (by kernel_rfl) (fun _ _ _ h => h) (Or.inl ⟨by kernel_rfl, by intro WW hSw; (try dsimp only at hSw); go_simp⟩) (by assumption) ?_
  (try simp only [Act.put, List.setIfInBounds_toArray, List.set_cons_zero, List.set_cons_succ])
  refine wpAnyH_take (i := 2) (oi := ⟨some 14, _, _, _, _, _⟩) (v := .pointer (some ⟨g, 0, none⟩)) rfl (by kernel_rfl) (by kernel_rfl) (by kernel_rfl) (fun _ _ _ h => h) (Or.inl ⟨by kernel_rfl, by intro WW hSw; (try dsimp only at hSw); go_simp⟩) (by assumption) ?_
  (try simp only [Act.put, List.setIfInBounds_toArray, List.set_cons_zero, List.set_cons_succ])
  refine wpAnyH_take (i := 3) (oi := ⟨some 15, _, _, _, _, _⟩) (v := .pointer p) rfl (by kernel_rfl) (by kernel_rfl) (by kernel_rfl) (fun _ _ _ h => h) (Or.inl ⟨by kernel_rfl, by intro WW hSw; (try dsimp only at hSw); go_simp⟩) (by assumption) ?_
  (try simp only [Act.put, List.setIfInBounds_toArray, List.set_cons_zero, List.set_cons_succ])
  refine wpAnyH_one (i := 4) (oi := ⟨some 16, _, _, _, _, _⟩) rfl (by kernel_rfl) (fun K hK => ?_)
  refine step_calls (by rfl) 46 EGR.out [] _ rfl [] rfl (HRT.out _) ?_
  rintro e w2 ⟨rfl, hw2⟩
  have hb2 : Below w.heap.size w w2 := by rw [← hw2]; exact drew_below _
  have HLL2 := Lib.hid (HLL.out w2 hb2)
  refine ⟨_, rfl, hK _ _ (hb2.cell (p := ⟨g, 0, none⟩) hg |>.trans c0) (fun hSn => ?_)⟩
  clear hK K hw2 hb2
  (try simp only [Act.put, List.setIfInBounds_toArray, List.set_cons_zero, List.set_cons_succ])
  refine wpAnyH_one (i := 5) (oi := ⟨some 17, _, _, _, _, _⟩) rfl (by kernel_rfl) (fun K hK => ?_)
  refine step_calls (by rfl) 45 EGL.out [.tmp 15, .tmp 16] _ rfl [.pointer p, .int .u64 16] rfl HLL2.out ?_
  rintro e w3 ⟨rfl, hq, h3⟩
  have HQ := Lib.hid hq
  have H3 := Lib.hid h3
  have HCO := Lib.hid (wkCome_any (a := r) h3)
  refine ⟨_, rfl, hK _ _ (by rw [HP.out]; exact Row.cell h3 0) (fun hSn2 => ?_)⟩
  clear hK K hq h3 HLL2 HLL
  (try simp only [Act.put, List.setIfInBounds_toArray, List.set_cons_zero, List.set_cons_succ])
  refine wpAnyH_take (i := 6) (oi := ⟨some 11, _, _, _, _, _⟩) (v := .tuple #[.int .u64 r, .int .i64 k]) rfl (by kernel_rfl) (by kernel_rfl) (by kernel_rfl) (fun _ _ _ h => h) (Or.inl ⟨by kernel_rfl, by intro WW hSw; (try dsimp only at hSw); go_simp⟩) (by assumption) ?_
  (try simp only [Act.put, List.setIfInBounds_toArray, List.set_cons_zero, List.set_cons_succ])
  refine wpAnyH_take (i := 7) (oi := ⟨some 18, _, _, _, _, _⟩) (v := .int .u64 r) rfl (by kernel_rfl) (by kernel_rfl) (by kernel_rfl) (fun _ _ _ h => h) (Or.inl ⟨by kernel_rfl, by intro WW hSw; (try dsimp only at hSw); go_simp⟩) (by assumption) ?_
  (try simp only [Act.put, List.setIfInBounds_toArray, List.set_cons_zero, List.set_cons_succ])
  refine wpAnyH_take (i := 8) (oi := ⟨some 19, _, _, _, _, _⟩) (v := .int .i64 k) rfl (by kernel_rfl) (by kernel_rfl) (by kernel_rfl) (fun _ _ _ h => h) (Or.inl ⟨by kernel_rfl, by intro WW hSw; (try dsimp only at hSw); go_simp⟩) (by assumption) ?_
  (try simp only [Act.put, List.setIfInBounds_toArray, List.set_cons_zero, List.set_cons_succ])
  refine wpAnyH_take (i := 9) (oi := ⟨some 4, _, _, _, _, _⟩) (v := .int .u64 r) rfl (by kernel_rfl) (by kernel_rfl) (by kernel_rfl) (fun _ _ _ h => h) (Or.inl ⟨by kernel_rfl, by intro WW hSw; (try dsimp only at hSw); go_simp⟩) (by assumption) ?_
  (try simp only [Act.put, List.setIfInBounds_toArray, List.set_cons_zero, List.set_cons_succ])
  refine wpAnyH_take (i := 10) (oi := ⟨some 5, _, _, _, _, _⟩) (v := .int .i64 k) rfl (by kernel_rfl) (by kernel_rfl) (by kernel_rfl) (fun _ _ _ h => h) (Or.inl ⟨by kernel_rfl, by intro WW hSw; (try dsimp only at hSw); go_simp⟩) (by assumption) ?_
  (try simp only [Act.put, List.setIfInBounds_toArray, List.set_cons_zero, List.set_cons_succ])
  refine wpAnyH_done (by kernel_rfl) ?_ _
  go_wp2_with fail
  refine (‹∀ (a : Act) (w : World), Code.wp Tryz.prog _ _ a w → _›) _ _ ?_
  clear hSn hSn2
  go_wp2_with fail
  refine HCO.out.mono ?_
  rintro e w4 ⟨rfl, gs, h4, hr4, hb4, hgs⟩
  have k6 : w4.cell? ⟨g, 6, none⟩ = some (nextV 67 g) := Row.cell h4 6
  have f6 := Row.free h4 6
  have H5 := Lib.hid (h4.then_ (nextV 48 g))
  have hne : gs ≠ g := by have := H3.out.lt; omega
  have HR5 := Lib.hid (hr4.other (p := ⟨g, 6, none⟩) hne (nextV 48 g))
  have HB5 := Lib.hid (hb4.set (p := ⟨g, 6, none⟩) rfl (nextV 48 g))
  have HGS := Lib.hid hgs
  unfold nextV at k6 H5 HR5 HB5
  clear h4 hr4 hb4 hgs hne HCO H3
  go_wp2_with fail
  go_ret
  exact ⟨rfl, w3, gs, HQ.out, HGS.out, H5.out, HR5.out, HB5.out⟩
end Go.Proofs.YtfdngoificpjfaaGreatDoor
/- A walk in a memory in which nobody stores, to a root at which it is done: what stands behind so many steps; conditions: the root has no Next, its level is not above the one that is looked for. -/
namespace Go.Proofs.YtfdngoificpjfaaGreatDoor
open Go.RowKit
set_option linter.unusedVariables false
/-- What stands behind a walk's steps. -/
structure JS (w1 W : World) (y1 : Lay) (gw gs n : Nat) (s : St) (S : SS) (F : WF) : Prop where
  ex : ∃ y, MemAt W y s ∧ y.g = y1.g ∧ (∀ k, y.fp k → y1.fp k ∨ w1.heap.size ≤ k) ∧ ¬ y.fp gs ∧ ¬ y.fp gw
  sn : SnapAt W gs (some ⟨y1.g, 0, none⟩) S
  wk : WkAt W gw F
  lds : Lds s.nl n s
  ne : gs ≠ gw
  gs : w1.heap.size ≤ gs
  but : But w1 W (fun q => y1.fp q ∨ q = gw)
structure JB (w1 W : World) (y1 : Lay) (gw n : Nat) (s : St) (F : WF) : Prop where
  ex : ∃ y, MemAt W y s ∧ y.g = y1.g ∧ (∀ k, y.fp k → y1.fp k ∨ w1.heap.size ≤ k) ∧ ¬ y.fp gw
  wk : WkAt W gw F
  lds : Lds s.nl n s
  but : But w1 W (fun q => y1.fp q ∨ q = gw)
section
variable {w1 W W' : World} {y1 : Lay} {gw gs n : Nat} {s : St} {S : SS} {F F' : WF}
theorem JS.toJB (h : JS w1 W y1 gw gs n s S F) : JB w1 W y1 gw n s F := by
  obtain ⟨y, a, b, c, _, d⟩ := h.ex
  exact ⟨⟨y, a, b, c, d⟩, h.wk, h.lds, h.but⟩
theorem JB.below (h : JB w1 W y1 gw n s F) (hb : Below W.heap.size W W') : JB w1 W' y1 gw n s F := by
  obtain ⟨y, a, b, c, d⟩ := h.ex
  exact ⟨⟨y, a.below hb, b, c, d⟩, h.wk.below hb, h.lds, h.but.trans (But.of_below hb (fun q => y1.fp q ∨ q = gw)) fun q hq => .inl hq⟩
theorem JB.turn (h : JB w1 W y1 gw n s F) (hb : But W W' (fun q => q = gw)) (hw : WkAt W' gw F') : JB w1 W' y1 gw n s F' := by
  obtain ⟨y, a, b, c, d⟩ := h.ex
  exact ⟨⟨y, a.but hb (fun k hk e => d (e ▸ hk)), b, c, d⟩, hw, h.lds, h.but.trans hb fun q hq => .inl (.inr hq)⟩
theorem JS.below (h : JS w1 W y1 gw gs n s S F) (hb : Below W.heap.size W W') : JS w1 W' y1 gw gs n s S F := by
  obtain ⟨y, a, b, c, d, e⟩ := h.ex
  obtain ⟨cs, hr, hs⟩ := h.sn
  exact ⟨⟨y, a.below hb, b, c, d, e⟩, ⟨cs, hr.below hb hr.lt, hs⟩, h.wk.below hb, h.lds, h.ne, h.gs, h.but.trans (But.of_below hb (fun q => y1.fp q ∨ q = gw)) fun q hq => .inl hq⟩
theorem JS.turn (h : JS w1 W y1 gw gs n s S F) (hb : But W W' (fun q => q = gw)) (hw : WkAt W' gw F') : JS w1 W' y1 gw gs n s S F' := by
  obtain ⟨y, a, b, c, d, e⟩ := h.ex
  obtain ⟨cs, hr, hs⟩ := h.sn
  exact ⟨⟨y, a.but hb (fun k hk e' => e (e' ▸ hk)), b, c, d, e⟩, ⟨cs, hb.row hr h.ne, hs⟩, hw, h.lds, h.ne, h.gs, h.but.trans hb fun q hq => .inl (.inr hq)⟩
theorem JB.stats (h : JB w1 W y1 gw n s F) : Calls Tryz.prog 18 #[.pointer (some ⟨y1.g, 0, none⟩)] W fun e w' => e = .returned (.agg #[wv s.ld, wv s.st, wv s.fl, wv s.fe]) ∧ Below W.heap.size W w' := by
  obtain ⟨y, a, b, _⟩ := h.ex
  have := stats_yes a
  rw [b] at this
  exact this
theorem JS.at_ (h : JS w1 W y1 gw gs n s S F) : ∃ y, SnAt W W y gs s s n S := by
  obtain ⟨y, a, b, c, d, e⟩ := h.ex
  have h1 := h.sn
  rw [← b] at h1
  obtain ⟨cs, hr, hs⟩ := h1
  exact ⟨y, ⟨y, a, RT.of_below y gs (Below.refl _ _)⟩, ⟨cs, hr, hs⟩, rfl, rfl, h.lds, d, hr.lt⟩
/-- What it keeps beside. -/
def Keeps (W Wl w' : World) : Prop := ∀ k, W.heap.size ≤ k → k < Wl.heap.size → w'.heap[k]? = Wl.heap[k]?
theorem JS.step {Wl : World} (h : JS w1 W y1 gw gs n s S F) (hb : Below W.heap.size W Wl) (hn : n ≤ 1000000) (G : S.Good) (h1 : ∀ k, y1.fp k → k < w1.heap.size) :
    Calls Tryz.prog 146 #[.pointer (some ⟨gs, 0, none⟩)] Wl fun e w' => e = .returned (.tuple #[.bool (S.go (ldV s) (ldK s)).d, .int .i64 (S.go (ldV s) (ldK s)).k]) ∧
      (JS w1 w' y1 gw gs (n + 1) (ldS s S.ask) (S.go (ldV s) (ldK s)) F ∧ Keeps W Wl w') := by
  have hl := h.below hb
  obtain ⟨y, a, b, c, d, e⟩ := h.ex
  have hlt := a.lt
  have hgs : gs < W.heap.size := by obtain ⟨cs, hr, _⟩ := h.sn; exact hr.lt
  have hsn := hl.sn
  rw [← b] at hsn
  refine (sstep_any (a.below hb) h.lds.ok hsn d G).mono ?_
  rintro e' w' ⟨rfl, y2, hm2, hsn2, t⟩
  rw [b] at hsn2
  have hgw := hl.wk.lt
  refine ⟨rfl, ⟨⟨y2, hm2, t.g.trans b, fun k hk => ?_, fun hf => ?_, fun hf => ?_⟩, hsn2, hl.wk.but t.but (fun hf => hf.elim e (fun e2 => h.ne e2.symm)), ?_, h.ne, h.gs, hl.but.trans t.but fun q hq => ?_⟩, fun k hk hk' => t.but.block k hk' (fun hf => ?_)⟩
  · rcases t.fp k hk with h2 | h2
    · exact c k h2
    · exact .inr (Nat.le_trans hl.but.size h2)
  · rcases t.fp gs hf with h2 | h2
    · exact d h2
    · have := hb.size; omega
  · rcases t.fp gw hf with h2 | h2
    · exact e h2
    · omega
  · have hs : (ldS s S.ask).nl = s.nl := by unfold ldS; split <;> rfl
    rw [hs]
    exact h.lds.load hn _
  · rcases hq with h2 | h2
    · exact (c q h2).imp .inl id
    · exact .inr (by rw [h2]; exact h.gs)
  · rcases hf with h2 | h2
    · have := hlt k h2
      omega
    · omega
end
section
variable {w1 : World} {y1 : Lay} {gw : Nat} {s0 : St} {cl key lev : Int} {a n0 : Nat}
def F0 (y1 : Lay) (gw : Nat) (cl key lev : Int) : WF := WF.new (some ⟨y1.g, 0, none⟩) cl key lev gw
def F1 (y1 : Lay) (gw gs : Nat) (cl key lev : Int) (a : Nat) : WF := { (F0 y1 gw cl key lev).come gw gs (a : Int) with th := nextV 48 gw }
def kE (N : Nd) (lev : Int) : Int := if N.l < lev then 5 else 0
def F2 (y1 : Lay) (gw gs : Nat) (cl key lev : Int) (a : Nat) (N : Nd) : WF := { (({ F1 y1 gw gs cl key lev a with ends := kE N lev } : WF).seen N 0 false) with d := true, k := kE N lev }
/-- Where a walk looks, step by step. -/
def askN (V K : Nat → Int) (a : Nat) : Nat → Nat
  | 0 => 16
  | t + 1 => (SS.it V K t (SS.new a)).ask
def sN (s0 : St) (a : Nat) : Nat → St
  | 0 => s0
  | t + 1 => ldS (sN s0 a t) (askN (ldV s0) (ldK s0) a t)
theorem ldS_vw (s : St) (A : Nat) : (ldS s A).view = s.view ∧ (ldS s A).nl = s.nl := by
  unfold ldS
  split <;> exact ⟨rfl, rfl⟩
theorem sN_vw (s0 : St) (a : Nat) : ∀ t, (sN s0 a t).view = s0.view ∧ (sN s0 a t).nl = s0.nl
  | 0 => ⟨rfl, rfl⟩
  | t + 1 => by
    obtain ⟨h1, h2⟩ := sN_vw s0 a t
    have h3 := ldS_vw (sN s0 a t) (askN (ldV s0) (ldK s0) a t)
    exact ⟨h3.1.trans h1, h3.2.trans h2⟩
theorem sN_val (s0 : St) (a t : Nat) : ldV (sN s0 a t) = ldV s0 ∧ ldK (sN s0 a t) = ldK s0 := by
  obtain ⟨h1, h2⟩ := sN_vw s0 a t
  constructor <;> funext A
  · unfold ldV
    rw [h1, h2]
  · unfold ldK
    rw [h2]
theorem sN_num (s0 : St) (a t : Nat) : (sN s0 a (t + 1)).st = (sN s0 a t).st ∧ (sN s0 a (t + 1)).fl = (sN s0 a t).fl ∧ (sN s0 a (t + 1)).fe = (sN s0 a t).fe ∧ (sN s0 a t).ld ≤ (sN s0 a (t + 1)).ld ∧ (sN s0 a (t + 1)).ld ≤ (sN s0 a t).ld + 1 := ldS_num _ _
/-- Behind so many steps. -/
def JW (w1 : World) (y1 : Lay) (gw n0 : Nat) (s0 : St) (cl key lev : Int) (a T : Nat) (N : Nd) (i : Nat) (W : World) : Prop :=
  (i = 0 ∧ JB w1 W y1 gw n0 s0 (F0 y1 gw cl key lev)) ∨
  (1 ≤ i ∧ i ≤ T ∧ ∃ gs, JS w1 W y1 gw gs (n0 + i) (sN s0 a i) (SS.it (ldV s0) (ldK s0) (i - 1) (SS.new a)) (F1 y1 gw gs cl key lev a)) ∨
  (i = T + 1 ∧ ∃ gs, JB w1 W y1 gw (n0 + i) (sN s0 a i) (F2 y1 gw gs cl key lev a N))
variable {T : Nat} {N : Nd} {S' : SS}
theorem JW.jb {i : Nat} {W : World} (h : JW w1 y1 gw n0 s0 cl key lev a T N i W) : ∃ F, JB w1 W y1 gw (n0 + i) (sN s0 a i) F := by
  rcases h with ⟨rfl, h⟩ | ⟨_, _, gs, h⟩ | ⟨_, gs, h⟩
  · exact ⟨_, h⟩
  · exact ⟨_, h.toJB⟩
  · exact ⟨_, h⟩
theorem JW.below {i : Nat} {W W' : World} (h : JW w1 y1 gw n0 s0 cl key lev a T N i W) (hb : Below W.heap.size W W') : JW w1 y1 gw n0 s0 cl key lev a T N i W' := by
  rcases h with ⟨h0, h⟩ | ⟨h1, h2, gs, h⟩ | ⟨h1, gs, h⟩
  · exact .inl ⟨h0, h.below hb⟩
  · exact .inr (.inl ⟨h1, h2, gs, h.below hb⟩)
  · exact .inr (.inr ⟨h1, gs, h.below hb⟩)
theorem callB : ∀ (w : World) (v : Value), (callFunc 26 #[v]).run Tryz.prog w = .ok (.enter 26 #[v]) w := fun w v => enters_of Tryz.func26 (by kernel_rfl) rfl #[v] w
theorem callG : ∀ (w : World) (v : Value), (callFunc 66 #[v]).run Tryz.prog w = .ok (.enter 66 #[v]) w := fun w v => enters_of Tryz.func66 (by kernel_rfl) rfl #[v] w
theorem callS : ∀ (w : World) (v : Value), (callFunc 48 #[v]).run Tryz.prog w = .ok (.enter 48 #[v]) w := fun w v => enters_of Tryz.func48 (by kernel_rfl) rfl #[v] w
end
end Go.Proofs.YtfdngoificpjfaaGreatDoor
/- A walk's step, in a memory in which nobody stores, to a root at which it is done; conditions: as in what it is made of. -/
namespace Go.Proofs.YtfdngoificpjfaaGreatDoor
open Go.RowKit
set_option linter.unusedVariables false
/-- What must hold of the memory, the root, the walk. -/
structure WkOk (w1 : World) (y1 : Lay) (gw n0 : Nat) (s0 : St) (lev : Int) (a T : Nat) (N : Nd) (S' : SS) : Prop where
  fp : ∀ k, y1.fp k → k < w1.heap.size
  nl : 0 < s0.nl
  l0 : 0 ≤ lev
  l1 : lev ≤ 15
  rv : ldV s0 16 = (a : Int)
  rk : ldK s0 16 = 0
  ga : a < 18446744073709551616
  vb : ∀ A, 0 ≤ ldV s0 A ∧ ldV s0 A < 18446744073709551616
  goes : Goes (ldV s0) (ldK s0) (SS.new a) T S'
  d : S'.d = true
  k : S'.k = 0
  n : S'.n = N
  nx : N.nx = 0
  lv : N.l ≤ lev
  t1 : 1 ≤ T
  few : n0 + T ≤ 900000
section
variable {w1 W Wl W' : World} {y1 : Lay} {gw n0 a T i : Nat} {s0 : St} {cl key lev : Int} {N : Nd} {S' : SS}
theorem Keeps.but {w2 : World} (h : Keeps W Wl w2) (hb : But w2 W' (fun q => q = gw)) (hg : gw < W.heap.size) : Keeps W Wl W' := fun k h1 h2 => by
  have h3 := h k h1 h2
  have h4 : k < w2.heap.size := by
    by_cases h5 : k < w2.heap.size
    · exact h5
    · rw [Array.getElem?_eq_none (by omega), Array.getElem?_eq_getElem h2] at h3
      cases h3
  exact (hb.block k h4 (by omega)).trans h3
theorem JS.at_but {gs n : Nat} {s : St} {S : SS} {F : WF} (h : JS w1 W y1 gw gs n s S F) (hb : But W W' (fun q => q = gw)) : ∃ y, SnAt W' W' y gs s s n S := by
  obtain ⟨y, a, b, c, d, e⟩ := h.ex
  have h1 := h.sn
  rw [← b] at h1
  obtain ⟨cs, hr, hs⟩ := h1
  have hr2 := hb.row hr h.ne
  exact ⟨y, ⟨y, a.but hb (fun k hk e' => e (e' ▸ hk)), RT.of_below y gs (Below.refl _ _)⟩, ⟨cs, hr2, hs⟩, rfl, rfl, h.lds, d, hr2.lt⟩
theorem jw_begin (O : WkOk w1 y1 gw n0 s0 lev a T N S') (h : JB w1 W y1 gw n0 s0 (F0 y1 gw cl key lev)) (hb : Below W.heap.size W Wl) :
    Calls Tryz.prog 19 #[.pointer (some ⟨gw, 0, none⟩)] Wl fun e w' => e = .returned (.tuple #[.bool false, .int .i64 0]) ∧ JW w1 y1 gw n0 s0 cl key lev a T N 1 w' ∧ Keeps W Wl w' := by
  have hl := h.below hb
  have hgw := h.wk.lt
  have hz : SizeIs Wl (some ⟨y1.g, 0, none⟩) ((64 * s0.nl : Nat) : Int) := fun W2 hb2 => by
    obtain ⟨y, hm, hg, _⟩ := hl.ex
    have := size_yes (hm.below hb2)
    rw [hg] at this
    exact this
  have hwr : wrongK ((64 * s0.nl : Nat) : Int) lev = 0 := by
    unfold wrongK
    have := O.nl
    have := O.l0
    have := O.l1
    rw [if_neg (by omega), if_neg (by omega)]
  have HB : Calls Tryz.prog 26 #[.pointer (some ⟨gw, 0, none⟩)] Wl (BeginP Wl gw (F0 y1 gw cl key lev) (a : Int) (fun w' => JB w1 w' y1 gw (n0 + 1) (sN s0 a 1) (F0 y1 gw cl key lev) ∧ Keeps W Wl w') 0) := by
    refine wkBegin_any (s := F0 y1 gw cl key lev) hl.wk hz hwr fun W2 hb2 => ?_
    have h2 := hl.below hb2
    obtain ⟨y, hm, hg, hf, hsep⟩ := h.ex
    have hlt := hm.lt
    have hla := load_any ((hm.below hb).below hb2) h.lds.ok 16
    rw [hg, O.rv, O.rk] at hla
    refine hla.mono ?_
    rintro e w' ⟨rfl, y2, hm2, t⟩
    have hgw2 := h2.wk.lt
    have hwk : WkAt w' gw (F0 y1 gw cl key lev) := h2.wk.but t.but hsep
    refine ⟨rfl, ⟨⟨⟨y2, hm2, t.g.trans hg, fun k hk => ?_, fun hk => ?_⟩, hwk, ?_, h2.but.trans t.but fun q hq => (hf q hq).imp .inl id⟩, fun k h3 h4 => ?_⟩, hwk⟩
    · rcases t.fp k hk with h3 | h3
      · exact hf k h3
      · exact .inr (Nat.le_trans h2.but.size h3)
    · rcases t.fp gw hk with h3 | h3
      · exact hsep h3
      · omega
    · show Lds (ldS s0 16).nl (n0 + 1) (ldS s0 16)
      rw [(ldS_vw s0 16).2]
      exact h.lds.load (by have := O.few; omega) _
    · refine (t.but.block k (Nat.lt_of_lt_of_le h4 hb2.size) (fun hf2 => by have := hlt k hf2; omega)).trans (hb2.block k h4)
  have HS := wkStep_of (g := gw) (f := 26) (s := F0 y1 gw cl key lev) (d' := false) (D := false) (kk := 0) (R := fun w' s' => ∃ gs, s' = F1 y1 gw gs cl key lev a ∧ JS w1 w' y1 gw gs (n0 + 1) (sN s0 a 1) (SS.new a) s' ∧ Keeps W Wl w') callB hl.wk rfl rfl rfl (HB.mono (by
    rintro e w' ⟨rfl, w2, gs, ⟨hjb, hkp⟩, hgs, hwk, hrow, hbt⟩
    refine ⟨rfl, F1 y1 gw gs cl key lev a, hwk, rfl, gs, rfl, ?_, hkp.but hbt hgw⟩
    obtain ⟨y, hm, hg, hf, hsep⟩ := hjb.ex
    have hlt := hm.lt
    have hgw2 := hjb.wk.lt
    have hs1 := hjb.but.size
    refine ⟨⟨y, hm.but hbt (fun k hk e => hsep (e ▸ hk)), hg, hf, fun hk => by have := hlt gs hk; omega, hsep⟩, ⟨_, hrow, zeroS_is _ _ _⟩, hwk, hjb.lds, by omega, by omega, hjb.but.trans hbt fun q hq => .inl (.inr hq)⟩))
  refine HS.mono ?_
  rintro e w' ⟨rfl, w2, s', ⟨gs, rfl, hjs, hkp⟩, _, hwk, hbt⟩
  refine ⟨rfl, .inr (.inl ⟨Nat.le_refl _, O.t1, gs, ?_⟩), hkp.but hbt hgw⟩
  exact hjs.turn hbt hwk
theorem jw_step (O : WkOk w1 y1 gw n0 s0 lev a T N S') (h : JW w1 y1 gw n0 s0 cl key lev a T N i W) (hi : i ≤ T) (hb : Below W.heap.size W Wl) :
    Calls Tryz.prog 19 #[.pointer (some ⟨gw, 0, none⟩)] Wl fun e w' => ∃ k, e = .returned (.tuple #[.bool (decide (i = T)), .int .i64 k]) ∧ JW w1 y1 gw n0 s0 cl key lev a T N (i + 1) w' ∧ Keeps W Wl w' := by
  rcases h with ⟨rfl, h⟩ | ⟨h1, h2, gs, h⟩ | ⟨h1, _⟩
  · refine (jw_begin (cl := cl) (key := key) O h hb).mono ?_
    rintro e w' ⟨rfl, h3, h4⟩
    exact ⟨0, by rw [decide_eq_false (by have := O.t1; omega)], h3, h4⟩
  · obtain ⟨t, rfl⟩ : ∃ t, i = t + 1 := ⟨i - 1, by omega⟩
    rw [Nat.add_sub_cancel] at h
    have hgw := h.wk.lt
    have hl := h.below hb
    obtain ⟨S, hS⟩ : ∃ S, S = SS.it (ldV s0) (ldK s0) t (SS.new a) := ⟨_, rfl⟩
    have hv := sN_val s0 a (t + 1)
    have hG : S.Good := by rw [hS]; exact it_good O.vb (new_SGood O.ga) t (fun u hu => O.goes.on u (by omega))
    have hgo : S.go (ldV s0) (ldK s0) = SS.it (ldV s0) (ldK s0) (t + 1) (SS.new a) := by rw [hS]; rfl
    have hask : S.ask = askN (ldV s0) (ldK s0) a (t + 1) := by rw [hS]; rfl
    rw [← hS] at h hl
    have hst := h.step hb (by have := O.few; omega) hG O.fp
    rw [hv.1, hv.2, hgo, hask] at hst
    by_cases hlast : t + 1 = T
    · have e1 : SS.it (ldV s0) (ldK s0) (t + 1) (SS.new a) = S' := by rw [hlast]; exact O.goes.it
      rw [e1, O.d, O.k] at hst
      have hend := wkGoOn_then (g := gw) (gs := gs) (fT := 48) (s := F1 y1 gw gs cl key lev a) (k := kE N lev) (R := fun w' => WkAt w' gw (({ F1 y1 gw gs cl key lev a with ends := kE N lev } : WF).seen N 0 false) ∧ JB w1 w' y1 gw (n0 + (t + 1) + 1) (sN s0 a (t + 2)) (({ F1 y1 gw gs cl key lev a with ends := kE N lev } : WF).seen N 0 false) ∧ Keeps W Wl w') hl.wk rfl callS hst
        (fun w' hq => Row.cell hq.1.wk 6) (fun w' hq => by
          obtain ⟨hj, hkp⟩ := hq
          have hnl : 0 < (ldS (sN s0 a (t + 1)) (askN (ldV s0) (ldK s0) a (t + 1))).nl := by
            rw [(ldS_vw _ _).2, (sN_vw s0 a (t + 1)).2]
            exact O.nl
          have hnd : NodeIs w' gw gs N := fun W2 hb2 => by
            obtain ⟨y, hsa⟩ := hj.at_but hb2
            exact hsa.nodeD hnl O.d O.k O.n W2 (Below.refl _ _)
          have hhi : HighIs w' gw gs 0 false := fun W2 hb2 => by
            obtain ⟨y, hsa⟩ := hj.at_but hb2
            exact hsa.high0 hnl O.d O.k O.n (.inr O.nx) W2 (Below.refl _ _)
          refine (wkSeenRoot_done (s := F1 y1 gw gs cl key lev a) (k := kE N lev) hj.wk rfl hnd hhi (fun e => by cases e) O.lv rfl).mono ?_
          rintro e w'' ⟨rfl, hwk, hbt⟩
          exact ⟨rfl, hwk, hj.toJB.turn hbt hwk, hkp.but hbt hgw⟩)
      have hD : ((true : Bool) || (kE N lev != 0)) = true := rfl
      have HS := wkStep_of (g := gw) (f := 66) (s := F1 y1 gw gs cl key lev a) (d' := true) (D := true) (kk := kE N lev) (R := fun w' s' => s' = (({ F1 y1 gw gs cl key lev a with ends := kE N lev } : WF).seen N 0 false) ∧ JB w1 w' y1 gw (n0 + (t + 1) + 1) (sN s0 a (t + 2)) s' ∧ Keeps W Wl w') callG hl.wk rfl rfl hD (hend.mono (by
        rintro e w' ⟨rfl, hwk, hjb, hkp⟩
        exact ⟨rfl, _, hwk, rfl, rfl, hjb, hkp⟩))
      refine HS.mono ?_
      rintro e w' ⟨rfl, w2, s', ⟨rfl, hjb, hkp⟩, _, hwk, hbt⟩
      refine ⟨_, by rw [decide_eq_true hlast], .inr (.inr ⟨by omega, gs, ?_⟩), hkp.but hbt hgw⟩
      exact hjb.turn hbt hwk
    · have hd := O.goes.on (t + 1) (by omega)
      have hk : (SS.it (ldV s0) (ldK s0) (t + 1) (SS.new a)).k = 0 := by
        rw [← hgo] at hd ⊢
        exact next_k hd
      rw [hd, hk] at hst
      have hmore := wkGoOn_more (g := gw) (gs := gs) (s := F1 y1 gw gs cl key lev a) hl.wk rfl hst (.inl rfl)
      have HS := wkStep_of (g := gw) (f := 66) (s := F1 y1 gw gs cl key lev a) (d' := false) (D := false) (kk := 0) (R := fun w' s' => s' = F1 y1 gw gs cl key lev a ∧ JS w1 w' y1 gw gs (n0 + (t + 1) + 1) (sN s0 a (t + 2)) (SS.it (ldV s0) (ldK s0) (t + 1) (SS.new a)) s' ∧ Keeps W Wl w') callG hl.wk rfl rfl rfl (hmore.mono (by
        rintro e w' ⟨rfl, hjs, hkp⟩
        exact ⟨rfl, _, hjs.wk, rfl, rfl, hjs, hkp⟩))
      refine HS.mono ?_
      rintro e w' ⟨rfl, w2, s', ⟨rfl, hjs, hkp⟩, _, hwk, hbt⟩
      refine ⟨0, by rw [decide_eq_false hlast], .inr (.inl ⟨by omega, by omega, gs, ?_⟩), hkp.but hbt hgw⟩
      exact hjs.turn hbt hwk
  · omega
end
end Go.Proofs.YtfdngoificpjfaaGreatDoor
/- The law's done, of a walk in a memory in which nobody stores: so many steps, each of one primitive at most; conditions: as the walk's. -/
namespace Go.Proofs.YtfdngoificpjfaaGreatDoor
open Go.RowKit
set_option linter.unusedVariables false
attribute [local go_sem] Oper.semAt_some
set_option maxRecDepth 100000 in
set_option maxHeartbeats 3200000 in
theorem l14done_jw {w1 w : World} {x : Option Addr} {y1 : Lay} {gw n0 a T most : Nat} {s0 : St} {cl key lev : Int} {N : Nd} {S' : SS} (O : WkOk w1 y1 gw n0 s0 lev a T N S') (hM : Calls Tryz.prog 14 #[.pointer x] w fun e w' => e = .returned (.pointer (some ⟨y1.g, 0, none⟩)) ∧ w = w')
    (h0 : JW w1 y1 gw n0 s0 cl key lev a T N 0 w) (hm : T + 1 ≤ most) (hm2 : most ≤ 1000000) :
    Calls Tryz.prog 11 #[.pointer x, .pointer (some ⟨gw, 0, none⟩), .int .i64 (most : Int)] w fun e w' => e = .returned (.tuple #[.int .i64 ((T : Int) + 1), .bool true]) ∧ JW w1 y1 gw n0 s0 cl key lev a T N (T + 1) w' := by
  have HM := Lib.hid hM
  have HJ := Lib.hid h0
  have HO := Lib.hid O
  have hT := O.few
  obtain ⟨gm, hgm⟩ : ∃ gm, gm = y1.g := ⟨_, rfl⟩
  rw [← hgm] at HM
  have HGM := Lib.hid hgm
  clear hM h0 O hgm
  go_enter Tryz.func11, Tryz.ntmps11
  go_wp2_with fail
  refine HM.out.mono ?_
  rintro e w0 ⟨rfl, rfl⟩
  clear HM
  go_wp2_with fail
  go_loopw [9, 10] (fun sv iv wr => ∃ i : Nat, i ≤ T ∧ sv = .bool true ∧ iv = .int .i64 ((i : Int) + 1) ∧ JW w1 y1 gw n0 s0 cl key lev a T N i wr) (fun _ iv _ => T + 2 - (intOf iv).toNat)
  case atStart => exact ⟨0, Nat.zero_le _, rfl, rfl, HJ.out⟩
  case round =>
    rename World => wr
    obtain ⟨i, hi, rfl, rfl, hj⟩ := hrel
    obtain ⟨F, hjb⟩ := hj.jb
    have hnum := hjb.lds.num
    have hst1 := hjb.stats
    rw [← HGM.out] at hst1
    obtain ⟨q1, q2, q3, q4, q5⟩ := sN_num s0 a i
    have HST1 := Lib.hid hst1
    have HSK := Lib.hid fun (W : World) (hb : Below wr.heap.size wr W) => jw_step (cl := cl) (key := key) HO.out hj hi hb
    obtain ⟨L0, hL0⟩ : ∃ L0, L0 = (sN s0 a i).ld := ⟨_, rfl⟩
    obtain ⟨S0, hS0⟩ : ∃ S0, S0 = (sN s0 a i).st := ⟨_, rfl⟩
    obtain ⟨F0, hF0⟩ : ∃ F0, F0 = (sN s0 a i).fl := ⟨_, rfl⟩
    obtain ⟨E0, hE0⟩ : ∃ E0, E0 = (sN s0 a i).fe := ⟨_, rfl⟩
    obtain ⟨L1, hL1⟩ : ∃ L1, L1 = (sN s0 a (i + 1)).ld := ⟨_, rfl⟩
    rw [← hL0, ← hS0, ← hF0, ← hE0] at HST1 hnum
    rw [← hL0, ← hL1] at q4 q5
    rw [← hS0] at q1
    rw [← hF0] at q2
    rw [← hE0] at q3
    have HST2 := Lib.hid (show ∀ w', JW w1 y1 gw n0 s0 cl key lev a T N (i + 1) w' → Calls Tryz.prog 18 #[.pointer (some ⟨gm, 0, none⟩)] w' _ from fun w' h => by
      obtain ⟨F', h'⟩ := h.jb
      have := h'.stats
      rw [← hL1, q1, q2, q3, ← HGM.out] at this
      exact this)
    unfold wv at HST1 HST2
    obtain ⟨Y1, hY1⟩ : ∃ Y1 : Int, Y1 = (L1 : Int) - (L0 : Int) := ⟨_, rfl⟩
    obtain ⟨Y2, hY2⟩ : ∃ Y2 : Int, Y2 = Y1 + (S0 : Int) := ⟨_, rfl⟩
    obtain ⟨Y3, hY3⟩ : ∃ Y3 : Int, Y3 = Y1 + (F0 : Int) := ⟨_, rfl⟩
    obtain ⟨Y4, hY4⟩ : ∃ Y4 : Int, Y4 = Y1 + (E0 : Int) := ⟨_, rfl⟩
    have f1 : IntKind.u64.wrap ((L1 : Int) - (L0 : Int)) = Y1 := by rw [IntKind.wrap_u64]; omega
    have f2 : IntKind.u64.wrap (Y1 + (S0 : Int)) = Y2 := by rw [IntKind.wrap_u64]; omega
    have f3 : IntKind.u64.wrap (Y2 - (S0 : Int)) = Y1 := by rw [IntKind.wrap_u64]; omega
    have f4 : IntKind.u64.wrap (Y1 + (F0 : Int)) = Y3 := by rw [IntKind.wrap_u64]; omega
    have f5 : IntKind.u64.wrap (Y3 - (F0 : Int)) = Y1 := by rw [IntKind.wrap_u64]; omega
    have f6 : IntKind.u64.wrap (Y1 + (E0 : Int)) = Y4 := by rw [IntKind.wrap_u64]; omega
    have f7 : IntKind.u64.wrap (Y4 - (E0 : Int)) = Y1 := by rw [IntKind.wrap_u64]; omega
    have f8 : decide (Y1 ≤ 1) = true := by rw [decide_eq_true_iff]; omega
    have him : (i : Int) + 1 ≤ (most : Int) := by omega
    have hi6 : i ≤ 900000 := by omega
    obtain ⟨D, hD⟩ : ∃ D, D = decide (i = T) := ⟨_, rfl⟩
    rw [← hD] at HSK
    have HDD := Lib.hid hD
    clear hL0 hS0 hF0 hE0 hL1 hY1 hY2 hY3 hY4 q1 q2 q3 q4 q5 hnum hst1 hjb hj hD HJ
    go_wp2_with fail
    refine HST1.out.mono ?_
    rintro e w5 ⟨rfl, hb5⟩
    obtain ⟨Wa5, hWa5⟩ : ∃ Wa5, Wa5 = w5.alloc (.cells #[.int .u64 (L0 : Int), .int .u64 (S0 : Int), .int .u64 (F0 : Int), .int .u64 (E0 : Int)] 60) := ⟨_, rfl⟩
    have HBa5 := Lib.hid (show Below wr.heap.size wr Wa5 by rw [hWa5]; exact low_and hb5 (alloc_low _ _))
    have HRa5 := Lib.hid (show Row Wa5 w5.heap.size 60 #[.int .u64 (L0 : Int), .int .u64 (S0 : Int), .int .u64 (F0 : Int), .int .u64 (E0 : Int)] by rw [hWa5]; exact Row.new _ _ _)
    have HSKa := Lib.hid (HSK.out Wa5 HBa5.out)
    have HW5 := Lib.hid hWa5
    have HS5 := Lib.hid hb5.size
    clear hb5 hWa5 HST1 HSK
    go_wp2_with fail
    rw [← HW5.out]
    refine HSKa.out.mono ?_
    rintro e w6 ⟨kc, rfl, h6, hk6⟩
    have HRa6 := Lib.hid (show Row w6 w5.heap.size 60 #[.int .u64 (L0 : Int), .int .u64 (S0 : Int), .int .u64 (F0 : Int), .int .u64 (E0 : Int)] from (hk6 _ HS5.out HRa5.out.lt).trans HRa5.out)
    have HST3 := Lib.hid (HST2.out w6 h6)
    have H6 := Lib.hid h6
    clear h6 hk6 HSKa HST2 HW5
    go_wp2_with fail
    refine HST3.out.mono ?_
    rintro e w7 ⟨rfl, hb7⟩
    obtain ⟨Wb7, hWb7⟩ : ∃ Wb7, Wb7 = w7.alloc (.cells #[.int .u64 (L1 : Int), .int .u64 (S0 : Int), .int .u64 (F0 : Int), .int .u64 (E0 : Int)] 60) := ⟨_, rfl⟩
    have hbb : Below w6.heap.size w6 Wb7 := by rw [hWb7]; exact low_and hb7 (alloc_low _ _)
    have hra := HRa6.out.below hb7 HRa6.out.lt
    have a0 := fun o => (hra.alloc o).cell 0
    have a1 := fun o => (hra.alloc o).cell 1
    have a2 := fun o => (hra.alloc o).cell 2
    have a3 := fun o => (hra.alloc o).cell 3
    simp only [List.getElem?_toArray, List.getElem?_cons_succ, List.getElem?_cons_zero] at a0 a1 a2 a3
    have H7 := Lib.hid (H6.out.below hbb)
    have HW7 := Lib.hid hWb7
    clear hra hbb hb7 hWb7 HST3 HRa6 HRa5 H6
    cases D with
    | false =>
      go_wp2_with fail
      rw [← HW7.out]
      have hne : i ≠ T := by have := HDD.out; simpa using this.symm
      exact ⟨⟨i + 1, by omega, rfl, by go_num, H7.out⟩, by simp [intOf]; omega⟩
    | true =>
      have hT2 : i = T := by have := HDD.out; simpa using this.symm
      go_wp2_with fail
      rw [← HW7.out]
      go_ret2
      subst hT2
      exact ⟨rfl, H7.out⟩
end Go.Proofs.YtfdngoificpjfaaGreatDoor
/- At, of whatever is told; no conditions. -/
namespace Go.Proofs.YtfdngoificpjfaaGreatDoor
open Go.RowKit
set_option linter.unusedVariables false
attribute [local go_sem] Oper.semAt_some
theorem step_storeNd {ops : Array Oper} {o : Oper} {a : Act} {w : World} {K : Act → World → Prop} {Q : Exit → Act → World → Prop} {E : Prop} (hw : Region.wanted o (yielded ops a.tmps) = true) (x y : Operand) (ho : o.op = .store 46 x y)
    (g : Nat) (vs : List Value) (old : Array Value) (hx : a.eval x = .pointer (some ⟨g, 0, none⟩)) (hy : a.eval y = .agg vs.toArray) (hr : Row w g 46 old) (hold : old.size = 21) (hl : vs.length = 21) (h1 : ∀ v ∈ vs, v.oneCell' = true)
    (h : ∀ w', Row w' g 46 vs.toArray → (∀ B, B ≤ g → B ≤ w.heap.size → Below B w w') → (∀ k, k ≠ g → w'.heap[k]? = w.heap[k]?) → K (a.put o.dst undef) w') : if Region.wanted o (yielded ops a.tmps) = true then Oper.wp Tryz.prog o a w K Q else E := by
  rw [if_pos hw]
  refine wp_store_row 46 x y ho g vs.toArray hx hy 46 old hr (by rw [List.size_toArray, hl]; exact ndI) (by rw [hold, List.size_toArray, hl]) (all_oneCell_toArray h1) ?_
  exact h _ (hr.setRow _) (fun B hB hB2 => below_setRow (Below.refl _ _) hB _) (fun k hk => setRow_other w g k _ hk)
set_option maxRecDepth 100000 in
set_option maxHeartbeats 3200000 in
theorem wkAt_of {w : World} {x : Option Addr} {at_ hi k : Int} {n : Nd} {has : Bool} (HT : ∀ W, Below w.heap.size w W → Calls Tryz.prog 29 #[.pointer x] W (TellP W (plV at_ n hi has) k)) :
    Calls Tryz.prog 16 #[.pointer x] w fun e w' => e = .returned (.tuple #[.int .u64 at_, n.V, .int .i64 k]) ∧ Below w.heap.size w w' := by
  have mixed : Tryz.prog.follows .mixedOrders = true := by kernel_rfl
  obtain ⟨W0, hW0⟩ : ∃ W0, W0 = w.alloc (.cells zeroNd.cl.toArray 46) := ⟨_, rfl⟩
  have hb0 : Below w.heap.size w W0 := by rw [hW0]; exact alloc_low _ _
  have HT := Lib.hid (HT W0 hb0)
  have HR0 := Lib.hid (show NdAt W0 w.heap.size zeroNd from by rw [hW0]; exact Row.new _ _ _)
  have HB0 := Lib.hid hb0
  obtain ⟨vs, hvs⟩ : ∃ vs, vs = plV at_ n hi has := ⟨_, rfl⟩
  rw [← hvs] at HT
  have HVO := Lib.hid (show ∀ v ∈ vs, v.oneCell' = true by rw [hvs]; exact plV_one _ _ _ _)
  have HVL := Lib.hid (show vs.length = 24 by rw [hvs]; rfl)
  have HVS := Lib.hid hvs
  have HW0 := Lib.hid hW0
  clear hvs hb0 hW0
  go_enter Tryz.func16, Tryz.ntmps16
  go_upto_region 1 with (fail)
  have HWW := HW0.out
  unfold zeroNd Nd.cl uw at HWW
  rw [← HWW]
  clear HWW
  go_wp2_with fail
  refine HT.out.mono ?_
  rintro e w1 ⟨rfl, hb1⟩
  have HB1 := Lib.hid (Below.and HB0.out hb1)
  have HR1 := Lib.hid (HR0.out.below hb1 HR0.out.lt)
  clear hb1 HT
  go_upto_region 2 with (first
    | ((with_reducible refine show_storePl ?_); refine wpList_store_row rfl _ _ _ rfl w1.heap.size vs rfl rfl (Row.new w1 74 plZ.toArray) (by rw [HVL.out]; rfl) (by rw [HVL.out]; exact plI) HVO.out ?_))
  obtain ⟨W2, hW2⟩ : ∃ W2, W2 = (w1.alloc (.cells plZ.toArray 74)).setCells w1.heap.size 0 vs := ⟨_, rfl⟩
  have hr2 : Row W2 w1.heap.size 74 vs.toArray := by rw [hW2]; exact row_setCells (Row.new w1 74 plZ.toArray) (by rw [HVL.out]; rfl)
  have hb2 : Below w1.heap.size w1 W2 := by rw [hW2]; exact setCells_low vs (Nat.le_refl _) (alloc_low _ _)
  unfold plZ plV zeroNd Nd.cl uw at hW2
  simp only [List.cons_append, List.nil_append] at hW2
  rw [← hW2]
  rw [HVS.out] at hr2
  have HB2 := Lib.hid (Below.and HB1.out hb2)
  have HN2 := Lib.hid (HR1.out.below hb2 HR1.out.lt)
  have hgn : w.heap.size < w1.heap.size := HR1.out.lt
  obtain ⟨g5, hg5⟩ : ∃ g5, g5 = w1.heap.size := ⟨_, rfl⟩
  rw [← hg5] at hr2 hgn ⊢
  have HR5 := Lib.hid hr2
  have HRG := Lib.hid (show ∀ W, Row W g5 74 (plV at_ n hi has).toArray ∧ W.cell? ⟨g5, 0, none⟩ = some (.int .u64 at_) → W.rangeAt g5 1 n.cl from fun W hW => plV_low hW.1)
  have STAY := Lib.hid (show ∀ W, Row W g5 74 (plV at_ n hi has).toArray → Row W g5 74 (plV at_ n hi has).toArray ∧ W.cell? ⟨g5, 0, none⟩ = some (.int .u64 at_) from fun W h => ⟨h, h.cell 0⟩)
  clear hW2 hr2 hb2 hg5
  refine wp_region_noPanic ?_
  refine wp_region_held_drew (S := fun W => Row W g5 74 (plV at_ n hi has).toArray ∧ W.cell? ⟨g5, 0, none⟩ = some (.int .u64 at_)) (by kernel_rfl) (STAY.out _ (HR5.out.below (drew_below W2) HR5.out.lt)) (fun hHeld => ?_)
  refine wpAnyH_take (i := 0) (oi := ⟨some 12, _, _, _, _, _⟩) (v := .pointer (some ⟨g5, 0, none⟩)) rfl (by kernel_rfl) (by kernel_rfl) (by kernel_rfl) (fun _ _ _ h => h) (Or.inl ⟨by kernel_rfl, by intro WW hSw; (try dsimp only at hSw); go_simp⟩) (by assumption) ?_
  (try simp only [Act.put, List.setIfInBounds_toArray, List.set_cons_zero, List.set_cons_succ])
  refine wpAnyH_take (i := 1) (oi := ⟨some 13, _, _, _, _, _⟩) (v := .int .u64 at_) rfl (by kernel_rfl) (by kernel_rfl) (by kernel_rfl) (fun _ _ _ h => h) (Or.inl ⟨by kernel_rfl, by intro WW hSw; (try dsimp only at hSw); go_simp⟩) (by assumption) ?_
  (try simp only [Act.put, List.setIfInBounds_toArray, List.set_cons_zero, List.set_cons_succ])
  refine wpAnyH_take (i := 2) (oi := ⟨some 14, _, _, _, _, _⟩) (v := .pointer (some ⟨g5, 1, none⟩)) rfl (by kernel_rfl) (by kernel_rfl) (by kernel_rfl) (fun _ _ _ h => h) (Or.inl ⟨by kernel_rfl, by intro WW hSw; (try dsimp only at hSw); go_simp⟩) (by assumption) ?_
  (try simp only [Act.put, List.setIfInBounds_toArray, List.set_cons_zero, List.set_cons_succ])
  refine wpAnyH_take (i := 3) (oi := ⟨some 15, _, _, _, _, _⟩) (v := .agg n.cl.toArray) rfl (by kernel_rfl) (by kernel_rfl) (by kernel_rfl) (fun _ _ _ h => h) (yieldsIf_load_mid (by rfl) _ _ rfl g5 1 rfl n.cl _ HRG.out Tryz.underlying46 rfl ndI) (by assumption) ?_
  (try simp only [Act.put, List.setIfInBounds_toArray, List.set_cons_zero, List.set_cons_succ])
  refine wpAnyH_take (i := 4) (oi := ⟨some 16, _, _, _, _, _⟩) (v := .int .i64 k) rfl (by kernel_rfl) (by kernel_rfl) (by kernel_rfl) (fun _ _ _ h => h) (Or.inl ⟨by kernel_rfl, by intro WW hSw; (try dsimp only at hSw); go_simp⟩) (by assumption) ?_
  (try simp only [Act.put, List.setIfInBounds_toArray, List.set_cons_zero, List.set_cons_succ])
  refine wpAnyH_take (i := 5) (oi := ⟨some 2, _, _, _, _, _⟩) (v := .int .u64 at_) rfl (by kernel_rfl) (by kernel_rfl) (by kernel_rfl) (fun _ _ _ h => h) (Or.inl ⟨by kernel_rfl, by intro WW hSw; (try dsimp only at hSw); go_simp⟩) (by assumption) ?_
  (try simp only [Act.put, List.setIfInBounds_toArray, List.set_cons_zero, List.set_cons_succ])
  refine wpAnyH_one (i := 6) (oi := ⟨none, _, _, _, _, _⟩) rfl (by kernel_rfl) (fun K hK => ?_)
  refine step_storeNd (by rfl) (.tmp 3) (.tmp 15) (by rfl) w.heap.size n.cl _ (by rfl) (by rfl) (HN2.out.below (drew_below W2) HN2.out.lt) rfl rfl (cl_one n) ?_
  intro w5 hr5 hb5 hk5
  have HR6 := Lib.hid hr5
  have HB5 := Lib.hid ((Below.and HB2.out (drew_below W2)).trans (hb5 _ (Nat.le_refl _) (Below.and HB2.out (drew_below W2)).size))
  refine hK _ _ (STAY.out _ ((hk5 g5 (by omega)).trans (HR5.out.below (drew_below W2) HR5.out.lt))) (fun hSn => ?_)
  clear hK K hr5 hb5 hk5
  (try simp only [Act.put, List.setIfInBounds_toArray, List.set_cons_zero, List.set_cons_succ])
  refine wpAnyH_take (i := 7) (oi := ⟨some 4, _, _, _, _, _⟩) (v := .int .i64 k) rfl (by kernel_rfl) (by kernel_rfl) (by kernel_rfl) (fun _ _ _ h => h) (Or.inl ⟨by kernel_rfl, by intro WW hSw; (try dsimp only at hSw); go_simp⟩) (by assumption) ?_
  (try simp only [Act.put, List.setIfInBounds_toArray, List.set_cons_zero, List.set_cons_succ])
  refine wpAnyH_done (by kernel_rfl) ?_ _
  clear hSn hHeld
  go_wp2_with fail
  refine (‹∀ (a : Act) (w : World), Code.wp Tryz.prog _ _ a w → _›) _ _ ?_
  go_wp2_with fail
  refine bodyPost_ret (results_tct rfl _ _ w.heap.size n rfl HR6.out) rfl ⟨rfl, HB5.out⟩
end Go.Proofs.YtfdngoificpjfaaGreatDoor
/- What is told of a walk that ended in an error, and of none; no conditions. -/
namespace Go.Proofs.YtfdngoificpjfaaGreatDoor
open Go.RowKit
set_option linter.unusedVariables false
attribute [local go_sem] Oper.semAt_some
theorem wkHop_nil (w : World) : Calls Tryz.prog 12 #[.pointer none] w fun e w' => e = .returned (.tuple #[.int .u64 0, .int .u64 0, .bool false]) ∧ w = w' := by
  go_enter Tryz.func12, Tryz.ntmps12
  go_wp2
  go_ret3
  exact ⟨rfl, rfl⟩
set_option maxRecDepth 100000 in
set_option maxHeartbeats 3200000 in
theorem told_code {w : World} {g f : Nat} {s : WF} {k : Int} (h : WkAt w g s) (hn : s.nx = nextV f g) (hd : s.d = true) (hk : s.k = k) (h0 : (k == 0) = false) (h5 : (k == 5) = false) : Calls Tryz.prog 29 #[.pointer (some ⟨g, 0, none⟩)] w (TellP w plZ k) := by
  have mixed : Tryz.prog.follows .mixedOrders = true := by kernel_rfl
  have c4 : w.cell? ⟨g, 4, none⟩ = some s.nx := Row.cell h 4
  have c36 : w.cell? ⟨g, 36, none⟩ = some (.bool s.d) := Row.cell h 36
  have c37 : w.cell? ⟨g, 37, none⟩ = some (.int .i64 s.k) := Row.cell h 37
  rw [hn] at c4
  rw [hd] at c36
  rw [hk] at c37
  unfold nextV at c4
  have q1 := fun w => eqFnR w f #[.pointer (some ⟨g, 0, none⟩)] #[]
  have q2 := fun w => guardFnR w f #[.pointer (some ⟨g, 0, none⟩)] #[] (.tmp 11)
  have hg := h.lt
  obtain ⟨W1, hW1⟩ : ∃ W1, W1 = w.alloc (.cells plZ.toArray 74) := ⟨_, rfl⟩
  have hb1 : Below w.heap.size w W1 := by rw [hW1]; exact alloc_low _ _
  have HB1 := Lib.hid hb1
  have HRW := Lib.hid (show Row W1.drew w.heap.size 74 plZ.toArray from (show Row W1 w.heap.size 74 plZ.toArray by rw [hW1]; exact Row.new _ _ _))
  have HC := Lib.hid (show ∀ W, Below W1.heap.size W1 W → W.cell? ⟨g, 37, none⟩ = some (.int .i64 k) from fun W hb => ((hb1.cell (p := ⟨g, 37, none⟩) hg).trans c37 ▸ (hb.cell (p := ⟨g, 37, none⟩) (Nat.lt_of_lt_of_le hg hb1.size))))
  have hne : g ≠ w.heap.size := by omega
  have HW1 := Lib.hid hW1
  clear h hn hd hk hb1 hW1
  go_enter Tryz.func29, Tryz.ntmps29
  go_upto_region 7 with (fail)
  have HWW := HW1.out
  unfold plZ plV zeroNd Nd.cl uw at HWW
  simp only [List.cons_append, List.nil_append] at HWW
  rw [← HWW]
  clear HWW c4 c36 c37 q1 q2
  refine wp_region_noPanic ?_
  refine wp_region_held_drew (S := fun W => W.cell? ⟨g, 37, none⟩ = some (.int .i64 k)) (by kernel_rfl) (HC.out _ (drew_below _)) (fun hHeld => ?_)
  refine wpAnyH_take (i := 0) (oi := ⟨some 45, _, _, _, _, _⟩) (v := .agg plZ.toArray) rfl (by kernel_rfl) (by kernel_rfl) (by kernel_rfl) (fun _ _ _ h => h) (Or.inl ⟨by kernel_rfl, by intro WW hSw; kernel_rfl⟩) (by assumption) ?_
  (try simp only [Act.put, List.setIfInBounds_toArray, List.set_cons_zero, List.set_cons_succ])
  refine wpAnyH_take (i := 1) (oi := ⟨some 46, _, _, _, _, _⟩) (v := .pointer (some ⟨g, 0, none⟩)) rfl (by kernel_rfl) (by kernel_rfl) (by kernel_rfl) (fun _ _ _ h => h) (Or.inl ⟨by kernel_rfl, by intro WW hSw; (try dsimp only at hSw); go_simp⟩) (by assumption) ?_
  (try simp only [Act.put, List.setIfInBounds_toArray, List.set_cons_zero, List.set_cons_succ])
  refine wpAnyH_take (i := 2) (oi := ⟨some 47, _, _, _, _, _⟩) (v := .pointer (some ⟨g, 0, none⟩)) rfl (by kernel_rfl) (by kernel_rfl) (by kernel_rfl) (fun _ _ _ h => h) (Or.inl ⟨by kernel_rfl, by intro WW hSw; (try dsimp only at hSw); go_simp⟩) (by assumption) ?_
  (try simp only [Act.put, List.setIfInBounds_toArray, List.set_cons_zero, List.set_cons_succ])
  refine wpAnyH_take (i := 3) (oi := ⟨some 48, _, _, _, _, _⟩) (v := .pointer (some ⟨g, 37, none⟩)) rfl (by kernel_rfl) (by kernel_rfl) (by kernel_rfl) (fun _ _ _ h => h) (Or.inl ⟨by kernel_rfl, by intro WW hSw; (try dsimp only at hSw); go_simp⟩) (by assumption) ?_
  (try simp only [Act.put, List.setIfInBounds_toArray, List.set_cons_zero, List.set_cons_succ])
  refine wpAnyH_take (i := 4) (oi := ⟨some 49, _, _, _, _, _⟩) (v := .int .i64 k) rfl (by kernel_rfl) (by kernel_rfl) (by kernel_rfl) (fun _ _ _ h => h) (Or.inl ⟨by kernel_rfl, by intro WW hSw; (try dsimp only at hSw); go_simp⟩) (by assumption) ?_
  (try simp only [Act.put, List.setIfInBounds_toArray, List.set_cons_zero, List.set_cons_succ])
  refine wpAnyH_one (i := 5) (oi := ⟨none, _, _, _, _, _⟩) rfl (by kernel_rfl) (fun K hK => ?_)
  refine step_storePl (by rfl) (.tmp 2) (.tmp 45) (by rfl) w.heap.size plZ _ (by rfl) (by rfl) HRW.out rfl rfl (plV_one _ _ _ _) ?_
  intro w5 hr5 hb5 hk5
  have HR5 := Lib.hid hr5
  have HB5 := Lib.hid ((low_and HB1.out (drew_below W1)).trans (hb5 _ (Nat.le_refl _) (low_and HB1.out (drew_below W1)).size))
  refine hK _ _ ((World.cell?_of_block (a := ⟨g, 37, none⟩) (hk5 g hne)).trans (HC.out _ (drew_below _))) (fun hSn => ?_)
  clear hK K hr5 hb5 hk5
  (try simp only [Act.put, List.setIfInBounds_toArray, List.set_cons_zero, List.set_cons_succ])
  refine wpAnyH_take (i := 6) (oi := ⟨some 3, _, _, _, _, _⟩) (v := .int .i64 k) rfl (by kernel_rfl) (by kernel_rfl) (by kernel_rfl) (fun _ _ _ h => h) (Or.inl ⟨by kernel_rfl, by intro WW hSw; (try dsimp only at hSw); go_simp⟩) (by assumption) ?_
  (try simp only [Act.put, List.setIfInBounds_toArray, List.set_cons_zero, List.set_cons_succ])
  refine wpAnyH_done (by kernel_rfl) ?_ _
  clear hSn hHeld
  go_wp2_with fail
  refine (‹∀ (a : Act) (w : World), Code.wp Tryz.prog _ _ a w → _›) _ _ ?_
  go_wp2_with fail
  refine bodyPost_ret (results_pl rfl _ _ w.heap.size plZ rfl rfl HR5.out) rfl ⟨rfl, HB5.out⟩
end Go.Proofs.YtfdngoificpjfaaGreatDoor
