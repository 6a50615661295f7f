/- The document's Text of a node, walked; conditions: its level is not below 0, its numbers are such as it can have. -/
import Derived.Test.YtaegaeljakdffaaDoorN8RefT
import Derived.Test.YtaegaeljakdffaaDoorN8Same
namespace Go.Proofs.YtaegaeljakdffaaDoor
open Go.RowKit
set_option linter.unusedVariables false
theorem es_wfT {n : Nd} (hw : n.Wf) (k : Nat) : (0 ≤ (n.es.getD k (0, 0)).1 ∧ (n.es.getD k (0, 0)).1 < 18446744073709551616) ∧ (0 ≤ (n.es.getD k (0, 0)).2 ∧ (n.es.getD k (0, 0)).2 < 18446744073709551616) := by
  by_cases h : k < n.es.length
  · have hk : k < n.vp.length := by unfold Nd.es at h; rwa [List.length_map] at h
    have e : n.es.getD k (0, 0) = n.ent n.vp[k] := by
      rw [List.getD_eq_getElem?_getD, List.getElem?_eq_getElem h]
      show (n.vp.map n.ent)[k]'(by rw [List.length_map]; exact hk) = _
      rw [List.getElem_map]
    have h8 : n.vp[k] < 8 := n.vp_lt8 (List.getElem_mem hk)
    rw [e]
    exact ⟨hw.ks _ h8, hw.ps _ h8⟩
  · rw [List.getD_eq_getElem?_getD, List.getElem?_eq_none (by omega)]
    exact ⟨⟨by decide, by decide⟩, ⟨by decide, by decide⟩⟩
theorem tx_len {n : Nd} (hw : n.Wf) (hl : 0 ≤ n.l) : ∀ k, (txB n n.es k).size ≤ 83 + 42 * k
  | 0 => by
    have a := numS_lenT (u := n.l.toNat) (by have := hw.l1; omega)
    have b := numS_lenT (u := n.lo.toNat) (by have := hw.lo; omega)
    have c := numS_lenT (u := n.nx.toNat) (by have := hw.nx; omega)
    have d := numS_lenT (u := n.fi.toNat) (by have := hw.fi; omega)
    have s : sp1.size = 1 := rfl
    unfold txB hdB
    simp only [ByteArray.size_append]
    omega
  | k + 1 => by
    have ih := tx_len hw hl k
    obtain ⟨h1, h2⟩ := es_wfT hw k
    have a := numS_lenT (u := (n.es.getD k (0, 0)).1.toNat) (by omega)
    have b := numS_lenT (u := (n.es.getD k (0, 0)).2.toNat) (by omega)
    have s : sp1.size = 1 := rfl
    have t : eq1.size = 1 := rfl
    unfold txB
    simp only [ByteArray.size_append]
    omega
set_option maxRecDepth 100000 in
set_option maxHeartbeats 4000000 in
theorem r8Text_any (n : Nd) (hw : n.Wf) (hl : 0 ≤ n.l) (w : World) : Calls Tryd.prog 5 #[n.V] w fun e w' => e = .returned (.string (txB n n.es n.es.length)) ∧ Below w.heap.size w w' := by
  have r0 := Row.new w 27 n.cl.toArray
  obtain ⟨Wa, hWa⟩ : ∃ Wa, Wa = w.alloc (.cells n.cl.toArray 27) := ⟨_, rfl⟩
  rw [← hWa] at r0
  have HB0 := Lib.hid (show Below w.heap.size w Wa by rw [hWa]; exact alloc_low _ _)
  have HRR := Lib.hid (fun W' (hb : Below Wa.heap.size Wa W') => (show NdAt W' w.heap.size n from r0.below hb r0.lt))
  have HWa := Lib.hid hWa
  have HSa := Lib.hid (show w.heap.size < Wa.heap.size by rw [hWa]; simp)
  obtain ⟨a, ha⟩ : ∃ a : Nat, n.l = (a : Int) := ⟨n.l.toNat, by omega⟩
  obtain ⟨b, hb⟩ : ∃ b : Nat, n.lo = (b : Int) := ⟨n.lo.toNat, by have := hw.lo; omega⟩
  obtain ⟨c, hc⟩ : ∃ c : Nat, n.nx = (c : Int) := ⟨n.nx.toNat, by have := hw.nx; omega⟩
  obtain ⟨d, hd⟩ : ∃ d : Nat, n.fi = (d : Int) := ⟨n.fi.toNat, by have := hw.fi; omega⟩
  have z0 : ∀ p : LowBy Wa, p.W.cell? ⟨w.heap.size, 0, none⟩ = some (.int .i64 (a : Int)) := fun p => by rw [← ha]; exact ndAt_at (HRR.out _ p.low) 0
  have z1 : ∀ p : LowBy Wa, p.W.cell? ⟨w.heap.size, 1, none⟩ = some (.int .u64 (b : Int)) := fun p => by rw [← hb]; exact ndAt_at (HRR.out _ p.low) 1
  have z2 : ∀ p : LowBy Wa, p.W.cell? ⟨w.heap.size, 2, none⟩ = some (.int .u64 (c : Int)) := fun p => by rw [← hc]; exact ndAt_at (HRR.out _ p.low) 2
  have z4 : ∀ p : LowBy Wa, p.W.cell? ⟨w.heap.size, 4, none⟩ = some (.int .u64 (d : Int)) := fun p => by rw [← hd]; exact ndAt_at (HRR.out _ p.low) 4
  have la : a < 18446744073709551616 := by have := hw.l1; omega
  have lb : b < 18446744073709551616 := by have := hw.lo; omega
  have lc : c < 18446744073709551616 := by have := hw.nx; omega
  have ld : d < 18446744073709551616 := by have := hw.fi; omega
  have wa : IntKind.u64.wrap (a : Int) = (a : Int) := by show (a : Int) % 18446744073709551616 = _; omega
  have wc : IntKind.u64.wrap (c : Int) = (c : Int) := by show (c : Int) % 18446744073709551616 = _; omega
  have wd : IntKind.u64.wrap (d : Int) = (d : Int) := by show (d : Int) % 18446744073709551616 = _; omega
  have hH : hdB n = numS a ++ ⟨#[32]⟩ ++ numS b ++ ⟨#[32]⟩ ++ numS c ++ ⟨#[32]⟩ ++ numS d := by
    unfold hdB
    rw [ha, hb, hc, hd]
    rfl
  have NA := Lib.hid (fun (p : LowBy Wa) => Calls.low_of (r8Num_any a la p.W))
  have NB := Lib.hid (fun (p : LowBy Wa) => Calls.low_of (r8Num_any b lb p.W))
  have NC := Lib.hid (fun (p : LowBy Wa) => Calls.low_of (r8Num_any c lc p.W))
  have ND := Lib.hid (fun (p : LowBy Wa) => Calls.low_of (r8Num_any d ld p.W))
  have sA := numS_lenT la
  have sB := numS_lenT lb
  have sC := numS_lenT lc
  have sD := numS_lenT ld
  obtain ⟨A, hA⟩ : ∃ A, A = numS a := ⟨_, rfl⟩
  obtain ⟨B, hB⟩ : ∃ B, B = numS b := ⟨_, rfl⟩
  obtain ⟨C, hC⟩ : ∃ C, C = numS c := ⟨_, rfl⟩
  obtain ⟨D, hD⟩ : ∃ D, D = numS d := ⟨_, rfl⟩
  rw [← hA, ← hB, ← hC, ← hD] at hH
  rw [← hA] at NA sA
  rw [← hB] at NB sB
  rw [← hC] at NC sC
  rw [← hD] at ND sD
  have mixed : Tryd.prog.follows .mixedOrders = true := by kernel_rfl
  have HV := Lib.hid (fun W' => r8Valid_any n W')
  clear hA hB hC hD r0 hWa
  have o1 : (⟨#[32]⟩ : ByteArray).size = 1 := rfl
  obtain ⟨S1, e1⟩ : ∃ S, A ++ (⟨#[32]⟩ : ByteArray) = S := ⟨_, rfl⟩
  obtain ⟨S2, e2⟩ : ∃ S, S1 ++ B = S := ⟨_, rfl⟩
  obtain ⟨S3, e3⟩ : ∃ S, S2 ++ (⟨#[32]⟩ : ByteArray) = S := ⟨_, rfl⟩
  obtain ⟨S4, e4⟩ : ∃ S, S3 ++ C = S := ⟨_, rfl⟩
  obtain ⟨S5, e5⟩ : ∃ S, S4 ++ (⟨#[32]⟩ : ByteArray) = S := ⟨_, rfl⟩
  obtain ⟨S6, e6⟩ : ∃ S, S5 ++ D = S := ⟨_, rfl⟩
  rw [e1, e2, e3, e4, e5, e6] at hH
  have n1 : S1.size = A.size + 1 := by rw [← e1, ByteArray.size_append, o1]
  have n2 : S2.size = S1.size + B.size := by rw [← e2, ByteArray.size_append]
  have n3 : S3.size = S2.size + 1 := by rw [← e3, ByteArray.size_append, o1]
  have n4 : S4.size = S3.size + C.size := by rw [← e4, ByteArray.size_append]
  have n5 : S5.size = S4.size + 1 := by rw [← e5, ByteArray.size_append, o1]
  have t1 : A.size + (⟨#[32]⟩ : ByteArray).size ≤ 9223372036854775807 := by omega
  have t2 : S1.size + B.size ≤ 9223372036854775807 := by omega
  have t3 : S2.size + (⟨#[32]⟩ : ByteArray).size ≤ 9223372036854775807 := by omega
  have t4 : S3.size + C.size ≤ 9223372036854775807 := by omega
  have t5 : S4.size + (⟨#[32]⟩ : ByteArray).size ≤ 9223372036854775807 := by omega
  have t6 : S5.size + D.size ≤ 9223372036854775807 := by omega
  have HLN := Lib.hid (fun k => tx_len hw hl k)
  have HEW := Lib.hid (fun k => es_wfT hw k)
  have HEL := Lib.hid n.es_len
  have H0 := Lib.hid (show txB n n.es 0 = S6 from hH)
  have HSU := Lib.hid (fun k => (show txB n n.es (k + 1) = txB n n.es k ++ (⟨#[32]⟩ : ByteArray) ++ numS (n.es.getD k (0, 0)).1.toNat ++ (⟨#[61]⟩ : ByteArray) ++ numS (n.es.getD k (0, 0)).2.toNat from rfl))
  clear hH n1 n2 n3 n4 n5 o1 sA sB sC sD la lb lc ld ha hb hc hd hw hl
  go_enter Tryd.func5, Tryd.ntmps5
  go_wp2_with fail
  rw [← HWa.out]
  refine wp_region_quiet_low (by assumption) (by kernel_rfl) ?_
  repeat (go_big_quiet_step (first | (go_at_call 12; with_reducible exact NA.out _) | (go_at_call 12; with_reducible exact NB.out _) | (go_at_call 12; with_reducible exact NC.out _) | (go_at_call 12; with_reducible exact ND.out _)))
  refine wpQuiet_nil ?_
  intro _ hw'
  obtain ⟨p, hw''⟩ := hw'
  subst hw''
  have hp := p.low
  generalize p.W = W1 at *
  clear z0 z1 z2 z4 e1 e2 e3 e4 e5 e6 t1 t2 t3 t4 t5 t6 NA NB NC ND wa wc wd
  have HB1 := Lib.hid (low_and HB0.out hp)
  go_wp2_with (first
    | (refine wpList_load_mid rfl _ _ rfl w.heap.size 0 rfl n.cl _ (ndR (HRR.out _ (by assumption))) Tryd.underlying27 rfl ndI ?_))
  refine (HV.out W1).mono ?_
  intro e w2 hee
  obtain ⟨⟨v, he, ho⟩, hb2⟩ := hee
  subst he
  obtain ⟨X, cap, hv, hX⟩ := ent_own ho
  subst hv
  have HB2 := Lib.hid (low_and HB1.out hb2)
  have HX := Lib.hid hX
  clear ho hb2 hX hp
  obtain ⟨m, hm⟩ : ∃ m, m = n.es.length := ⟨_, rfl⟩
  have HM := Lib.hid hm
  rw [← hm] at HX HEL ⊢
  clear hm
  have hm8 := HEL.out
  go_wp2_with fail
  go_loopw [3, 5] (fun s i wr => ∃ k : Nat, k ≤ m ∧ i = .int .i64 (k : Int) ∧ s = .string (txB n n.es k) ∧ Below w2.heap.size w2 wr) (fun _ i _ => m - (intOf i).toNat)
  case atStart => exact ⟨0, by omega, rfl, by rw [H0.out], Below.refl _ _⟩
  case round =>
    rename World => wr
    obtain ⟨k, hk, rfl, rfl, hb⟩ := hrel
    have HB := Lib.hid hb
    clear hb
    by_cases hlt : k < m
    · obtain ⟨g, o, rfl, hc⟩ := HX.out (by omega)
      obtain ⟨⟨u1, u2⟩, ⟨v1, v2⟩⟩ := HEW.out k
      have hS := HSU.out k
      have hz := HLN.out k
      have hcc := hc k _ (getD_ent (by have := HM.out; omega))
      obtain ⟨e, he⟩ : ∃ e, e = n.es.getD k (0, 0) := ⟨_, rfl⟩
      rw [← he] at u1 u2 v1 v2 hS hcc
      obtain ⟨x, hx⟩ : ∃ x : Nat, e.1 = (x : Int) := ⟨e.1.toNat, by omega⟩
      obtain ⟨y, hy⟩ : ∃ y : Nat, e.2 = (y : Int) := ⟨e.2.toNat, by omega⟩
      have lx : x < 18446744073709551616 := by omega
      have ly : y < 18446744073709551616 := by omega
      have c1 : ∀ p : LowBy wr, p.W.cell? ⟨g, o + k * 2, none⟩ = some (.int .u64 (x : Int)) := fun p => by rw [← hx]; exact p.cell ((HB.out.cell (w2.block_lt_of_cell? _ hcc.1)).trans hcc.1)
      have c2 : ∀ p : LowBy wr, p.W.cell? ⟨g, o + k * 2 + 1, none⟩ = some (.int .u64 (y : Int)) := fun p => by rw [← hy]; exact p.cell ((HB.out.cell (w2.block_lt_of_cell? _ hcc.2)).trans hcc.2)
      have NX := Lib.hid (fun (p : LowBy wr) => Calls.low_of (r8Num_any x lx p.W))
      have NY := Lib.hid (fun (p : LowBy wr) => Calls.low_of (r8Num_any y ly p.W))
      have sX := numS_lenT lx
      have sY := numS_lenT ly
      rw [hx, hy, Int.toNat_natCast, Int.toNat_natCast] at hS
      obtain ⟨F, hF⟩ : ∃ F, F = numS x := ⟨_, rfl⟩
      obtain ⟨G, hG⟩ : ∃ G, G = numS y := ⟨_, rfl⟩
      rw [← hF] at NX sX hS
      rw [← hG] at NY sY hS
      obtain ⟨T, hT⟩ : ∃ T, T = txB n n.es k := ⟨_, rfl⟩
      rw [← hT] at hS hz ⊢
      have o1 : (⟨#[32]⟩ : ByteArray).size = 1 := rfl
      have o2 : (⟨#[61]⟩ : ByteArray).size = 1 := rfl
      obtain ⟨T1, e1⟩ : ∃ S, T ++ (⟨#[32]⟩ : ByteArray) = S := ⟨_, rfl⟩
      obtain ⟨T2, e2⟩ : ∃ S, T1 ++ F = S := ⟨_, rfl⟩
      obtain ⟨T3, e3⟩ : ∃ S, T2 ++ (⟨#[61]⟩ : ByteArray) = S := ⟨_, rfl⟩
      obtain ⟨T4, e4⟩ : ∃ S, T3 ++ G = S := ⟨_, rfl⟩
      rw [e1, e2, e3, e4] at hS
      have n1 : T1.size = T.size + 1 := by rw [← e1, ByteArray.size_append, o1]
      have n2 : T2.size = T1.size + F.size := by rw [← e2, ByteArray.size_append]
      have n3 : T3.size = T2.size + 1 := by rw [← e3, ByteArray.size_append, o2]
      have t1 : T.size + (⟨#[32]⟩ : ByteArray).size ≤ 9223372036854775807 := by omega
      have t2 : T1.size + F.size ≤ 9223372036854775807 := by omega
      have t3 : T2.size + (⟨#[61]⟩ : ByteArray).size ≤ 9223372036854775807 := by omega
      have t4 : T3.size + G.size ≤ 9223372036854775807 := by omega
      have HS := Lib.hid hS
      clear hS n1 n2 n3 o1 o2 sX sY hF hG lx ly hx hy hcc hc u1 u2 v1 v2 he hz hT
      go_wp2_with fail
      refine wp_region_quiet_low (by assumption) (by kernel_rfl) ?_
      repeat (go_big_quiet_step (first | (go_at_call 12; with_reducible exact NX.out _) | (go_at_call 12; with_reducible exact NY.out _)))
      refine wpQuiet_nil ?_
      intro _ hw'
      obtain ⟨p, hw''⟩ := hw'
      subst hw''
      have hp := Lib.hid p.low
      generalize p.W = W1 at *
      clear c1 c2 e1 e2 e3 e4 t1 t2 t3 t4 NX NY
      go_wp2
      exact ⟨⟨k + 1, by omega, by go_num, by rw [HS.out], low_and HB.out hp.out⟩, by simp [intOf]; omega⟩
    · obtain rfl : k = m := by omega
      go_wp2
      go_ret
      exact ⟨by show Ending.returned (Value.string (txB n n.es k)) = _; rw [HM.out], low_and HB2.out HB.out⟩
end Go.Proofs.YtaegaeljakdffaaDoor
