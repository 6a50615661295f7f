/- Texts of this claim, packed: PCopy. -/
import Derived.Test.YtkeajfedlhgejaaPc35
import Derived.Deep.RegionHeld3
/- Copy of a memory that is there: a new one of the same state, in new blocks; for states that a memory can have. -/
namespace Go.Proofs.Ytkeajfedlhgejaa
open Go.RowKit Go.Shelf
set_option linter.unusedVariables false
attribute [local go_sem] Oper.semAt_some
/-- What stays while the parts are copied. -/
abbrev CpS (w W : World) (y : Lay) (s : St) (W' : World) : Prop := W'.cell? ⟨w.heap.size, 0, none⟩ = some (.pointer (some ⟨y.g, 0, none⟩)) ∧ W'.cell? ⟨w.heap.size + 1 + 1, 0, none⟩ = some (.slice (some ⟨w.heap.size + 1, 0, none⟩) s.nl s.nl) ∧ W'.cell? ⟨y.g, 0, none⟩ = some (.slice (some ⟨y.gl, 0, none⟩) (8 * s.nl) y.cl) ∧ W'.cell? ⟨y.g, 1, none⟩ = some (.slice (some ⟨y.gv, 0, none⟩) (8 * s.nl) y.cv) ∧ W'.cell? ⟨y.g, 3, none⟩ = some (.map (some y.mb)) ∧ W'.cell? ⟨y.g, 4, none⟩ = some (.int .u64 (s.ld : Int)) ∧ W'.cell? ⟨y.g, 5, none⟩ = some (.int .u64 (s.st : Int)) ∧ W'.cell? ⟨y.g, 6, none⟩ = some (.int .u64 (s.fl : Int)) ∧ W'.cell? ⟨y.g, 7, none⟩ = some (.int .u64 (s.fe : Int)) ∧ Below W.heap.size W W'
theorem CpS.low {w W : World} {y : Lay} {s : St} {W' : World} (h : CpS w W y s W') : Below W.heap.size W W' := h.2.2.2.2.2.2.2.2.2
theorem own_map_below {w w' : World} {b n : Nat} {D : DataW Unit} (h : w.ownsMap Try.prog 3 mkR b n D) (hb : Below w.heap.size w w') : w'.ownsMap Try.prog 3 mkR b n D := by
  have hl := h.lt
  obtain ⟨es, c, h1, F, hs, hD⟩ := h
  exact ⟨es, c, (hb.block b hl).trans h1, F, hs, hD⟩
set_option maxRecDepth 100000 in
set_option maxHeartbeats 3200000 in
theorem copy_yes {w : World} {y : Lay} {s : St} (h : MemAt w y s) (ok : s.Ok) :
    Calls Try.prog 20 #[.pointer (some ⟨y.g, 0, none⟩)] w fun e w' => ∃ y' : Lay, e = .returned (.pointer (some ⟨y'.g, 0, none⟩)) ∧ MemAt w' y' s ∧ (∀ k, y'.fp k → w.heap.size ≤ k) ∧ Below w.heap.size w w' := by
  refine (callsIn_wide (n := 6)).1 ?_
  refine callsIn_of_wp_marks Try.func20 rfl trivial ?_ rfl
  obtain ⟨j0, hj, hy0, hy1, hy2⟩ := info_parts info41
  have hmost := h.most
  have hm2 := fun W : World => run_make (P := Try.prog) W 67 41 j0 _ Try.underlying67 hj hy0 .i64 .i64 ((s.nl : Nat) : Int) ((s.nl : Nat) : Int) (by omega) (by omega) (by rw [hy2]; omega) (by omega)
  simp only [Int.toNat_natCast, hy1] at hm2
  simp only [Try.ntmps20, List.size_toArray, List.length_cons, List.length_nil, Nat.reduceAdd, Nat.reduceSub, Array.replicate_succ, Array.replicate_zero, List.push_toArray, List.append_toArray, List.nil_append, List.cons_append]
  have HN := Lib.hid fun W (hb : Below w.heap.size w W) => none_yes (h.below hb)
  have c2 := fun W (hb : Below w.heap.size w W) => ((h.below hb).row.cell 2)
  simp only [List.getElem?_toArray, List.getElem?_cons_succ, List.getElem?_cons_zero] at c2
  have C2 := Lib.hid c2
  have c2a := C2.out _ (alloc_below w (.cells #[.pointer (some ⟨y.g, 0, none⟩)] 29))
  have HM := Lib.hid h
  clear c2 h
  gi_wp2_with (refine ⟨trivial, ?_⟩; first | (gi_at_call 44; refine (callsIn_wide.2 (HN.out _ (alloc_below _ _))).mono ?_; rintro e w' ⟨rfl, rfl⟩) | (gi_at_call 48; refine (callsIn_wide.2 (lines_any _ _)).mono ?_; rintro e w' ⟨rfl, rfl⟩))
  obtain ⟨W0, hW0⟩ : ∃ W0, W0 = ((((w.alloc (.cells #[.pointer (some ⟨y.g, 0, none⟩)] 29)).alloc (.cells (madeCells #[.slice none 0 0] s.nl) 41)).alloc (.cells #[.slice (some ⟨w.heap.size + 1, 0, none⟩) s.nl s.nl] 67)).alloc (.cells #[.pointer (some ⟨y.g, 0, none⟩)] 29)) := ⟨_, rfl⟩
  rw [← hW0]
  have hb0 : Below w.heap.size w W0 := by
    rw [hW0]
    exact Below.and (Below.and (Below.and (alloc_below _ _) (alloc_below _ _)) (alloc_below _ _)) (alloc_below _ _)
  have hsz : W0.heap.size = w.heap.size + 4 := by rw [hW0]; simp
  have r1 : Row W0 w.heap.size 29 #[.pointer (some ⟨y.g, 0, none⟩)] := by
    rw [hW0]
    exact (((Row.new _ _ _).alloc _).alloc _).alloc _
  have r2 : Row W0 (w.heap.size + 1) 41 (madeCells #[.slice none 0 0] s.nl) := by
    rw [hW0]
    exact ((row_at (by simp)).alloc _).alloc _
  have r3 : Row W0 (w.heap.size + 2) 67 #[.slice (some ⟨w.heap.size + 1, 0, none⟩) s.nl s.nl] := by
    rw [hW0]
    exact (row_at (by simp)).alloc _
  have r4 : Row W0 (w.heap.size + 3) 29 #[.pointer (some ⟨y.g, 0, none⟩)] := by
    rw [hW0]
    exact row_at (by simp)
  rw [madeCells_one] at r2
  have hm0 := HM.out.below hb0
  have hplen := HM.out.plen
  have hstart : CpI w W0 s.nl s.pend (List.replicate s.nl (.slice none 0 0)) 0 W0 := by
    refine ⟨r2, by simp, hb0, fun _ _ _ => rfl, Nat.le_refl _, ?_, ?_, ?_, ?_⟩
    · rintro j v l _ _ ⟨i, q, hi, _⟩
      omega
    · intro j v hv _
      exact List.eq_of_mem_replicate (List.mem_of_getElem? hv)
    · intro j g v hv hg
      rw [List.eq_of_mem_replicate (List.mem_of_getElem? hv)] at hg
      cases hg
    · intro i j v u g _ hv _ hg
      rw [List.eq_of_mem_replicate (List.mem_of_getElem? hv)] at hg
      cases hg
  have HB0 := Lib.hid hb0
  have HSZ := Lib.hid hsz
  have R1 := Lib.hid r1
  have R3 := Lib.hid r3
  have HOK := Lib.hid ok
  have h4 : w.heap.size + 2 ≤ W0.heap.size := by omega
  have H4 := Lib.hid h4
  clear hW0 hm2 c2a hb0 r1 r2 r3 ok hy0 hy1 hy2 hj
  refine range_all rfl (by omega) (gf := 65) (lb := #[.pointer (some ⟨w.heap.size + 1 + 1 + 1, 0, none⟩)]) rfl trivial (enters_of Try.func65 (by kernel_rfl) rfl) (nz s.pend) (encs := encN) (fun _ => rfl) (fun k W => ∃ ps, CpI w W0 s.nl s.pend ps k W)
    (cpi_stay h4) ⟨_, hstart⟩ (iter_tells hm0 (w.heap.size + 1 + 1 + 1) _ (r4.cell 0) ?reads)
    (fun x => { tmps := #[.pointer (some ⟨y.g, 0, none⟩), .pointer (some ⟨w.heap.size, 0, none⟩), .pointer none, .pointer (some ⟨w.heap.size + 1 + 1, 0, none⟩), undef, .int .i64 (x.2 : Int), .pointer (some ⟨y.g, 0, none⟩), .bool false, .pointer (some ⟨y.g, 0, none⟩), .pointer (some ⟨y.g, 0, none⟩), .pointer (some ⟨y.g, 2, none⟩), .slice (some ⟨y.gp, 0, none⟩) s.nl y.cp, .int .i64 (s.nl : Int), .slice (some ⟨w.heap.size + 1, 0, none⟩) s.nl s.nl, .pointer (some ⟨y.g, 0, none⟩), .func (.func 65) #[] #[.pointer (some ⟨w.heap.size + 1 + 1 + 1, 0, none⟩)], .int .i64 (x.1 : Int), .int .i64 (x.2 : Int), undef, undef, undef, undef, undef, undef, undef, undef, undef, undef, undef, undef, undef, undef, undef, undef, undef, undef, undef, undef, undef, undef, undef, undef, undef, undef, undef, undef, undef, undef, undef, undef, undef], defers := [] }) ?assign ?body ?done
  case reads =>
    rintro k W ⟨ps, hI⟩ j u hj hq hv
    rw [(HM.out.below hI.low).pen.cellAt j (by omega)]
    exact hv
  case assign =>
    intro l x W K hK
    dsimp only [encN]
    gi_wp2
    exact hK
  case body =>
    rintro l k x W hx ⟨ps, hI⟩
    have hxb := nzFrom_bound _ _ _ x (List.mem_of_getElem? hx)
    obtain ⟨hx1, m, hmj, hmne⟩ := nzFrom_at _ _ _ k x hx
    rw [Nat.sub_zero] at hmj
    have hmW := HM.out.below hI.low
    obtain ⟨V, m', hV, hm', htl⟩ := ps_get hmW (j := x.2) (by omega)
    rw [hmj] at hm'
    cases hm'
    have hml := HOK.out.few m (List.mem_of_getElem? hmj)
    have HCL := Lib.hid fun W' (hb : Below W.heap.size W W') => cloneP_any (htl.same (w' := W') fun q hq => hb.block q (by obtain ⟨cur, hR⟩ := htl.row hq; exact hR.lt)) hmne hml
    obtain ⟨AV, capV, rfl, hcV⟩ := htl.len
    have rb1 : Row W w.heap.size 29 #[.pointer (some ⟨y.g, 0, none⟩)] := R1.out.same (hI.mid _ (by omega) (by omega))
    have rb3 : Row W (w.heap.size + 2) 67 #[.slice (some ⟨w.heap.size + 1, 0, none⟩) s.nl s.nl] := R3.out.same (hI.mid _ (by omega) (by omega))
    have b1 := rb1.cell 0
    have b3 := rb3.cell 0
    have b2 := hmW.row.cell 2
    simp only [List.getElem?_toArray, List.getElem?_cons_succ, List.getElem?_cons_zero] at b1 b2 b3
    have b4 : W.cell? ⟨y.gp, x.2, none⟩ = some (.slice AV m.length capV) := by rw [hmW.pen.cellAt x.2 (by omega), hV]
    have B3 := Lib.hid fun W' (hb : Below W.heap.size W W') => show W'.cell? ⟨w.heap.size + 2, 0, none⟩ = some (.slice (some ⟨w.heap.size + 1, 0, none⟩) s.nl s.nl) from by
      have := (rb3.below hb rb3.lt).cell 0
      simpa using this
    have F3 := Lib.hid fun W' (hb : Below W.heap.size W W') => (hI.row.below hb hI.row.lt).free x.2
    have i0 : (0 : Int) ≤ (x.2 : Int) := by omega
    have i1 : (x.2 : Int) < (s.nl : Int) := by omega
    have C3 := Lib.hid fun W' (hb : Below W.heap.size W W') => show ∃ u, W'.cell? ⟨w.heap.size + 1, x.2, none⟩ = some u from by
      have := (hI.row.below hb hI.row.lt).cell x.2
      rw [this]
      have hl := hI.len
      exact ⟨_, by rw [List.getElem?_toArray]; exact List.getElem?_eq_getElem (by omega)⟩
    have FIN := Lib.hid fun wy vy (ht : Tail wy vy m) (hnew : ∀ q, vy.ownBlock = some q → W.heap.size ≤ q) (hb : Below W.heap.size W wy) => show KeepsFrom W0.heap.size W (wy.setCell ⟨w.heap.size + 1, x.2, none⟩ vy) ∧ ∃ ps, CpI w W0 s.nl s.pend ps (k + 1) (wy.setCell ⟨w.heap.size + 1, x.2, none⟩ vy) from by
      refine ⟨⟨?_, ?_⟩, _, cpi_next H4.out hI hx hmj (by omega) ht hnew hb⟩
      · have := hb.size
        simp [World.setCell]
        omega
      · intro q o hq ho hc
        have hql := (Array.getElem?_eq_some_iff.1 ho).1
        rw [heap_setCell_other _ _ _ _ (by show q ≠ w.heap.size + 1; omega), hb.block q hql]
        exact ho
    obtain ⟨xi, xj⟩ := x
    dsimp only at *
    clear hx hI hmj hmne hmW hV htl rb1 rb3 hx1 hstart hm0 r4 h4 hsz
    gi_wp2_with fail
    refine wpIn_region_any (by kernel_rfl) (wpAnyIn_of ?nodef ?lets _ _ _ _ ?_)
    case nodef => exact noDefer_all (by kernel_rfl)
    case lets =>
      rintro ⟨a, w, h⟩
      simp [Exit.then, Exit.inBlock] at h
      obtain ⟨h, _⟩ := h
      cases h
    change wpAny _ _ _ _ _ _ _ (World.drew _)
    refine wpAny_take (i := 1) (oi := ⟨some 19, _, _, _, _, _⟩) (v := .int .i64 (xj : Int)) rfl (by kernel_rfl) (by kernel_rfl) (by kernel_rfl) (fun _ _ _ h => h) (Or.inl ⟨by kernel_rfl, by intro w; go_simp⟩) ?_
    simp only [Act.put, List.setIfInBounds_toArray, List.set_cons_zero, List.set_cons_succ]
    refine wpAny_take (i := 6) (oi := ⟨some 24, _, _, _, _, _⟩) (v := .int .i64 (xj : Int)) rfl (by kernel_rfl) (by kernel_rfl) (by kernel_rfl) (fun _ _ _ h => h) (Or.inl ⟨by kernel_rfl, by intro w; go_simp⟩) ?_
    simp only [Act.put, List.setIfInBounds_toArray, List.set_cons_zero, List.set_cons_succ]
    refine wpAny_ready (rs := [0, 2]) (by kernel_rfl) (by simp) ?_
    refine AllReady.cons rfl (fun K hK => ?_) (AllReady.cons rfl (fun K hK => ?_) AllReady.nil)
    · skip
      go_simp
      refine hK _ _ ?_
      clear hK K
      refine wpAny_ready (rs := [2]) (by kernel_rfl) (by simp) ?_
      refine AllReady.cons rfl (fun K hK => ?_) AllReady.nil
      go_simp
      refine hK _ _ ?_
      clear hK K
      refine wpAny_take (i := 3) (oi := ⟨some 21, _, _, _, _, _⟩) (v := .pointer (some ⟨y.g, 0, none⟩)) rfl (by kernel_rfl) (by kernel_rfl) (by kernel_rfl) (fun _ _ _ h => h) (Or.inl ⟨by kernel_rfl, by intro w; go_simp⟩) ?_
      simp only [Act.put, List.setIfInBounds_toArray, List.set_cons_zero, List.set_cons_succ]
      refine wpAny_take (i := 4) (oi := ⟨some 22, _, _, _, _, _⟩) (v := .pointer (some ⟨y.g, 2, none⟩)) rfl (by kernel_rfl) (by kernel_rfl) (by kernel_rfl) (fun _ _ _ h => h) (Or.inl ⟨by kernel_rfl, by intro w; go_simp⟩) ?_
      simp only [Act.put, List.setIfInBounds_toArray, List.set_cons_zero, List.set_cons_succ]
      refine wpAny_ready (rs := [5]) (by kernel_rfl) (by simp) ?_
      refine AllReady.cons rfl (fun K hK => ?_) AllReady.nil
      go_simp
      refine hK _ _ ?_
      clear hK K
      refine wpAny_take (i := 7) (oi := ⟨some 25, _, _, _, _, _⟩) (v := .pointer (some ⟨y.gp, xj, none⟩)) rfl (by kernel_rfl) (by kernel_rfl) (by kernel_rfl) (fun _ _ _ h => h) (Or.inl ⟨by kernel_rfl, by intro w; go_simp⟩) ?_
      simp only [Act.put, List.setIfInBounds_toArray, List.set_cons_zero, List.set_cons_succ]
      refine wpAny_ready (rs := [8]) (by kernel_rfl) (by simp) ?_
      refine AllReady.cons rfl (fun K hK => ?_) AllReady.nil
      go_simp
      refine hK _ _ ?_
      clear hK K
      refine wpAny_ready (rs := [9]) (by kernel_rfl) (by simp) ?_
      refine AllReady.cons rfl (fun K hK => ?_) AllReady.nil
      go_simp
      refine (HCL.out W.drew (drew_below W)).mono ?_
      rintro e wy ⟨⟨vy, rfl, hty, hnew⟩, hby⟩
      have hby' : Below W.heap.size W wy := Below.and (drew_below W) hby
      have b3y := B3.out wy hby'
      have fy := F3.out wy hby'
      obtain ⟨uy, cuy⟩ := C3.out wy hby'
      obtain ⟨Ay, cy, rfl, _⟩ := hty.len
      refine hK _ _ ?_
      clear hK K
      refine wpAny_take (i := 10) (oi := ⟨some 28, _, _, _, _, _⟩) (v := .pointer (some ⟨w.heap.size + 1, xj, none⟩)) rfl (by kernel_rfl) (by kernel_rfl) (by kernel_rfl) (fun _ _ _ h => h) (Or.inl ⟨by kernel_rfl, by intro w; go_simp⟩) ?_
      simp only [Act.put, List.setIfInBounds_toArray, List.set_cons_zero, List.set_cons_succ]
      refine wpAny_ready (rs := [11]) (by kernel_rfl) (by simp) ?_
      refine AllReady.cons rfl (fun K hK => ?_) AllReady.nil
      go_simp
      refine hK _ _ ?_
      clear hK K
      refine wpAny_done (by kernel_rfl) ?_ _
      simp only [Exit.inBlock, Exit.then]
      exact ⟨rfl, FIN.out wy _ hty (fun q hq => hnew q hq) hby'⟩
    · skip
      go_simp
      refine hK _ _ ?_
      clear hK K
      refine wpAny_take (i := 3) (oi := ⟨some 21, _, _, _, _, _⟩) (v := .pointer (some ⟨y.g, 0, none⟩)) rfl (by kernel_rfl) (by kernel_rfl) (by kernel_rfl) (fun _ _ _ h => h) (Or.inl ⟨by kernel_rfl, by intro w; go_simp⟩) ?_
      simp only [Act.put, List.setIfInBounds_toArray, List.set_cons_zero, List.set_cons_succ]
      refine wpAny_take (i := 4) (oi := ⟨some 22, _, _, _, _, _⟩) (v := .pointer (some ⟨y.g, 2, none⟩)) rfl (by kernel_rfl) (by kernel_rfl) (by kernel_rfl) (fun _ _ _ h => h) (Or.inl ⟨by kernel_rfl, by intro w; go_simp⟩) ?_
      simp only [Act.put, List.setIfInBounds_toArray, List.set_cons_zero, List.set_cons_succ]
      refine wpAny_ready (rs := [0, 5]) (by kernel_rfl) (by simp) ?_
      refine AllReady.cons rfl (fun K hK => ?_) (AllReady.cons rfl (fun K hK => ?_) AllReady.nil)
      · skip
        go_simp
        refine hK _ _ ?_
        clear hK K
        refine wpAny_ready (rs := [5]) (by kernel_rfl) (by simp) ?_
        refine AllReady.cons rfl (fun K hK => ?_) AllReady.nil
        go_simp
        refine hK _ _ ?_
        clear hK K
        refine wpAny_take (i := 7) (oi := ⟨some 25, _, _, _, _, _⟩) (v := .pointer (some ⟨y.gp, xj, none⟩)) rfl (by kernel_rfl) (by kernel_rfl) (by kernel_rfl) (fun _ _ _ h => h) (Or.inl ⟨by kernel_rfl, by intro w; go_simp⟩) ?_
        simp only [Act.put, List.setIfInBounds_toArray, List.set_cons_zero, List.set_cons_succ]
        refine wpAny_ready (rs := [8]) (by kernel_rfl) (by simp) ?_
        refine AllReady.cons rfl (fun K hK => ?_) AllReady.nil
        go_simp
        refine hK _ _ ?_
        clear hK K
        refine wpAny_ready (rs := [9]) (by kernel_rfl) (by simp) ?_
        refine AllReady.cons rfl (fun K hK => ?_) AllReady.nil
        go_simp
        refine (HCL.out W.drew (drew_below W)).mono ?_
        rintro e wy ⟨⟨vy, rfl, hty, hnew⟩, hby⟩
        have hby' : Below W.heap.size W wy := Below.and (drew_below W) hby
        have b3y := B3.out wy hby'
        have fy := F3.out wy hby'
        obtain ⟨uy, cuy⟩ := C3.out wy hby'
        obtain ⟨Ay, cy, rfl, _⟩ := hty.len
        refine hK _ _ ?_
        clear hK K
        refine wpAny_take (i := 10) (oi := ⟨some 28, _, _, _, _, _⟩) (v := .pointer (some ⟨w.heap.size + 1, xj, none⟩)) rfl (by kernel_rfl) (by kernel_rfl) (by kernel_rfl) (fun _ _ _ h => h) (Or.inl ⟨by kernel_rfl, by intro w; go_simp⟩) ?_
        simp only [Act.put, List.setIfInBounds_toArray, List.set_cons_zero, List.set_cons_succ]
        refine wpAny_ready (rs := [11]) (by kernel_rfl) (by simp) ?_
        refine AllReady.cons rfl (fun K hK => ?_) AllReady.nil
        go_simp
        refine hK _ _ ?_
        clear hK K
        refine wpAny_done (by kernel_rfl) ?_ _
        simp only [Exit.inBlock, Exit.then]
        exact ⟨rfl, FIN.out wy _ hty (fun q hq => hnew q hq) hby'⟩
      · skip
        go_simp
        refine hK _ _ ?_
        clear hK K
        refine wpAny_take (i := 7) (oi := ⟨some 25, _, _, _, _, _⟩) (v := .pointer (some ⟨y.gp, xj, none⟩)) rfl (by kernel_rfl) (by kernel_rfl) (by kernel_rfl) (fun _ _ _ h => h) (Or.inl ⟨by kernel_rfl, by intro w; go_simp⟩) ?_
        simp only [Act.put, List.setIfInBounds_toArray, List.set_cons_zero, List.set_cons_succ]
        refine wpAny_ready (rs := [0, 8]) (by kernel_rfl) (by simp) ?_
        refine AllReady.cons rfl (fun K hK => ?_) (AllReady.cons rfl (fun K hK => ?_) AllReady.nil)
        · skip
          go_simp
          refine hK _ _ ?_
          clear hK K
          refine wpAny_ready (rs := [8]) (by kernel_rfl) (by simp) ?_
          refine AllReady.cons rfl (fun K hK => ?_) AllReady.nil
          go_simp
          refine hK _ _ ?_
          clear hK K
          refine wpAny_ready (rs := [9]) (by kernel_rfl) (by simp) ?_
          refine AllReady.cons rfl (fun K hK => ?_) AllReady.nil
          go_simp
          refine (HCL.out W.drew (drew_below W)).mono ?_
          rintro e wy ⟨⟨vy, rfl, hty, hnew⟩, hby⟩
          have hby' : Below W.heap.size W wy := Below.and (drew_below W) hby
          have b3y := B3.out wy hby'
          have fy := F3.out wy hby'
          obtain ⟨uy, cuy⟩ := C3.out wy hby'
          obtain ⟨Ay, cy, rfl, _⟩ := hty.len
          refine hK _ _ ?_
          clear hK K
          refine wpAny_take (i := 10) (oi := ⟨some 28, _, _, _, _, _⟩) (v := .pointer (some ⟨w.heap.size + 1, xj, none⟩)) rfl (by kernel_rfl) (by kernel_rfl) (by kernel_rfl) (fun _ _ _ h => h) (Or.inl ⟨by kernel_rfl, by intro w; go_simp⟩) ?_
          simp only [Act.put, List.setIfInBounds_toArray, List.set_cons_zero, List.set_cons_succ]
          refine wpAny_ready (rs := [11]) (by kernel_rfl) (by simp) ?_
          refine AllReady.cons rfl (fun K hK => ?_) AllReady.nil
          go_simp
          refine hK _ _ ?_
          clear hK K
          refine wpAny_done (by kernel_rfl) ?_ _
          simp only [Exit.inBlock, Exit.then]
          exact ⟨rfl, FIN.out wy _ hty (fun q hq => hnew q hq) hby'⟩
        · skip
          go_simp
          refine hK _ _ ?_
          clear hK K
          refine wpAny_ready (rs := [0, 9]) (by kernel_rfl) (by simp) ?_
          refine AllReady.cons rfl (fun K hK => ?_) (AllReady.cons rfl (fun K hK => ?_) AllReady.nil)
          · skip
            go_simp
            refine hK _ _ ?_
            clear hK K
            refine wpAny_ready (rs := [9]) (by kernel_rfl) (by simp) ?_
            refine AllReady.cons rfl (fun K hK => ?_) AllReady.nil
            go_simp
            refine (HCL.out W.drew (drew_below W)).mono ?_
            rintro e wy ⟨⟨vy, rfl, hty, hnew⟩, hby⟩
            have hby' : Below W.heap.size W wy := Below.and (drew_below W) hby
            have b3y := B3.out wy hby'
            have fy := F3.out wy hby'
            obtain ⟨uy, cuy⟩ := C3.out wy hby'
            obtain ⟨Ay, cy, rfl, _⟩ := hty.len
            refine hK _ _ ?_
            clear hK K
            refine wpAny_take (i := 10) (oi := ⟨some 28, _, _, _, _, _⟩) (v := .pointer (some ⟨w.heap.size + 1, xj, none⟩)) rfl (by kernel_rfl) (by kernel_rfl) (by kernel_rfl) (fun _ _ _ h => h) (Or.inl ⟨by kernel_rfl, by intro w; go_simp⟩) ?_
            simp only [Act.put, List.setIfInBounds_toArray, List.set_cons_zero, List.set_cons_succ]
            refine wpAny_ready (rs := [11]) (by kernel_rfl) (by simp) ?_
            refine AllReady.cons rfl (fun K hK => ?_) AllReady.nil
            go_simp
            refine hK _ _ ?_
            clear hK K
            refine wpAny_done (by kernel_rfl) ?_ _
            simp only [Exit.inBlock, Exit.then]
            exact ⟨rfl, FIN.out wy _ hty (fun q hq => hnew q hq) hby'⟩
          · skip
            go_simp
            refine (HCL.out W.drew (drew_below W)).mono ?_
            rintro e wy ⟨⟨vy, rfl, hty, hnew⟩, hby⟩
            have hby' : Below W.heap.size W wy := Below.and (drew_below W) hby
            have b3y := B3.out wy hby'
            have fy := F3.out wy hby'
            obtain ⟨uy, cuy⟩ := C3.out wy hby'
            obtain ⟨Ay, cy, rfl, _⟩ := hty.len
            refine hK _ _ ?_
            clear hK K
            refine wpAny_ready (rs := [0]) (by kernel_rfl) (by simp) ?_
            refine AllReady.cons rfl (fun K hK => ?_) AllReady.nil
            go_simp
            refine hK _ _ ?_
            clear hK K
            refine wpAny_take (i := 10) (oi := ⟨some 28, _, _, _, _, _⟩) (v := .pointer (some ⟨w.heap.size + 1, xj, none⟩)) rfl (by kernel_rfl) (by kernel_rfl) (by kernel_rfl) (fun _ _ _ h => h) (Or.inl ⟨by kernel_rfl, by intro w; go_simp⟩) ?_
            simp only [Act.put, List.setIfInBounds_toArray, List.set_cons_zero, List.set_cons_succ]
            refine wpAny_ready (rs := [11]) (by kernel_rfl) (by simp) ?_
            refine AllReady.cons rfl (fun K hK => ?_) AllReady.nil
            go_simp
            refine hK _ _ ?_
            clear hK K
            refine wpAny_done (by kernel_rfl) ?_ _
            simp only [Exit.inBlock, Exit.then]
            exact ⟨rfl, FIN.out wy _ hty (fun q hq => hnew q hq) hby'⟩
  case done =>
    rintro D W hD ⟨ps, hI⟩ hK
    have hmW := HM.out.below hI.low
    have rb1 : Row W w.heap.size 29 #[.pointer (some ⟨y.g, 0, none⟩)] := R1.out.same (hI.mid _ (by omega) (by omega))
    have rb3 : Row W (w.heap.size + 2) 67 #[.slice (some ⟨w.heap.size + 1, 0, none⟩) s.nl s.nl] := R3.out.same (hI.mid _ (by omega) (by omega))
    have b1 : ∀ W', Below W.heap.size W W' → W'.cell? ⟨w.heap.size, 0, none⟩ = some (.pointer (some ⟨y.g, 0, none⟩)) := fun W' hb => by
      have := (rb1.below hb rb1.lt).cell 0
      simpa using this
    have b3 : ∀ W', Below W.heap.size W W' → W'.cell? ⟨w.heap.size + 1 + 1, 0, none⟩ = some (.slice (some ⟨w.heap.size + 1, 0, none⟩) s.nl s.nl) := fun W' hb => by
      have := (rb3.below hb rb3.lt).cell 0
      simpa using this
    have hrow : ∀ W' (i : Nat), Below W.heap.size W W' → W'.cell? ⟨y.g, i, none⟩ = (#[.slice (some ⟨y.gl, 0, none⟩) (8 * s.nl) y.cl, .slice (some ⟨y.gv, 0, none⟩) (8 * s.nl) y.cv, .slice (some ⟨y.gp, 0, none⟩) s.nl y.cp, .map (some y.mb), wv s.ld, wv s.st, wv s.fl, wv s.fe] : Array Value)[i]? := fun W' i hb => (hmW.below hb).row.cell i
    have d0 := fun W' hb => hrow W' 0 hb
    have d1 := fun W' hb => hrow W' 1 hb
    have d3 := fun W' hb => hrow W' 3 hb
    have d4 := fun W' hb => hrow W' 4 hb
    have d5 := fun W' hb => hrow W' 5 hb
    have d6 := fun W' hb => hrow W' 6 hb
    have d7 := fun W' hb => hrow W' 7 hb
    simp only [List.getElem?_toArray, List.getElem?_cons_succ, List.getElem?_cons_zero] at d0 d1 d3 d4 d5 d6 d7
    have HC1 := Lib.hid fun W' (hS : CpS w W y s W') => cloneW_any s.lasted y.gl (8 * s.nl) y.cl 0 W' (ownsRow_len hmW.las) (by omega) (hmW.below hS.low).las
    have HC2 := Lib.hid fun W' (hS : CpS w W y s W') => cloneW_any s.view y.gv (8 * s.nl) y.cv 0 W' (ownsRow_len hmW.vie) (by omega) (hmW.below hS.low).vie
    obtain ⟨Dm, hown, hk, hs, ha⟩ := hmW.marks
    have HC3 := Lib.hid fun W' (hS : CpS w W y s W') => cloneM_any (own_map_below hown hS.low)
    have HII := Lib.hid hI
    have HMW := Lib.hid hmW
    have HMK := Lib.hid fun (Wx : World) (b : Nat) (ho : Wx.ownsMap Try.prog 3 mkR b (Maps.size Dm) Dm) => show MarksAt Wx b s.nl s.mm from ⟨Dm, ho, hk, hs, ha⟩
    clear hI hmW rb1 rb3 hstart hm0 r4 hk hs ha hown hrow HN C2
    have hpos : 0 < 8 * s.nl := by have := HMW.out.pos; omega
    unfold wv at d4 d5 d6 d7
    have STAY := Lib.hid fun W' (hb : Below W.heap.size W W') => And.intro (b1 W' hb) (And.intro (b3 W' hb) (And.intro (d0 W' hb) (And.intro (d1 W' hb) (And.intro (d3 W' hb) (And.intro (d4 W' hb) (And.intro (d5 W' hb) (And.intro (d6 W' hb) (And.intro (d7 W' hb) hb))))))))
    clear b1 b3 d0 d1 d3 d4 d5 d6 d7 hsz h4
    gi_wp2_with fail
    refine wpIn_wide.2 ?_
    go_region_held3 (fun W' => W'.cell? ⟨w.heap.size, 0, none⟩ = some (.pointer (some ⟨y.g, 0, none⟩)) ∧ W'.cell? ⟨w.heap.size + 1 + 1, 0, none⟩ = some (.slice (some ⟨w.heap.size + 1, 0, none⟩) s.nl s.nl) ∧ W'.cell? ⟨y.g, 0, none⟩ = some (.slice (some ⟨y.gl, 0, none⟩) (8 * s.nl) y.cl) ∧ W'.cell? ⟨y.g, 1, none⟩ = some (.slice (some ⟨y.gv, 0, none⟩) (8 * s.nl) y.cv) ∧ W'.cell? ⟨y.g, 3, none⟩ = some (.map (some y.mb)) ∧ W'.cell? ⟨y.g, 4, none⟩ = some (.int .u64 (s.ld : Int)) ∧ W'.cell? ⟨y.g, 5, none⟩ = some (.int .u64 (s.st : Int)) ∧ W'.cell? ⟨y.g, 6, none⟩ = some (.int .u64 (s.fl : Int)) ∧ W'.cell? ⟨y.g, 7, none⟩ = some (.int .u64 (s.fe : Int)) ∧ Below W.heap.size W W')
      ((refine STAY.out _ ?_; (first | exact drew_below _ | (refine Below.and ?_ hb; exact CpS.low (w := w) (y := y) (s := s) (by assumption)) | (refine Below.and ?_ (alloc_below _ _); exact CpS.low (w := w) (y := y) (s := s) (by assumption)))))
      (first | (go_at_call 50; (first | refine (HC1.out _ (by assumption)).mono ?_ | refine (HC2.out _ (by assumption)).mono ?_); rintro e wn ⟨⟨v, rfl, ho⟩, hb⟩; obtain ⟨g1, c1, rfl, _⟩ := own_some ho hpos) | (go_at_call 51; refine (HC3.out _ (by assumption)).mono ?_; rintro e wn ⟨rfl, ho, _, hb⟩))
    rename_i w1 hb1 ga ca _ ho1 w2 hb2 _ ho2 _ hheld
    clear hheld
    obtain ⟨Wf, hWf⟩ : ∃ Wf, Wf = wn.alloc (.cells #[.slice (some ⟨ga, 0, none⟩) (8 * s.nl) ca, .slice (some ⟨g1, 0, none⟩) (8 * s.nl) c1, .slice (some ⟨w.heap.size + 1, 0, none⟩) s.nl s.nl, .map (some w2.heap.size), .int .u64 (s.ld : Int), .int .u64 (s.st : Int), .int .u64 (s.fl : Int), .int .u64 (s.fe : Int)] 70) := ⟨_, rfl⟩
    have hb1' : Below W.heap.size W w1 := Below.and (drew_below W) hb1
    have hbWf : Below W.heap.size W Wf := by
      rw [hWf]
      exact Below.and (Below.and (Below.and hb1' hb2) hb) (alloc_below _ _)
    obtain ⟨y', hyg, hmf, hfp, hbf⟩ := copy_mem (wf := Wf) HII.out HMW.out H4.out ho1 hb1' ho2 hb2 ho hb hWf HMK.out
    rw [← hWf]
    have hDl : D < W.heap.size := (Array.getElem?_eq_some_iff.1 hK).1
    have hKf : Wf.heap[D]? = some (.deferred (some [])) := (hbWf.block D hDl).trans hK
    have hg := grownBy_putObj' Wf D (.deferred none)
    have hlw := HII.out.low.size
    have hw0 := HSZ.out
    have hmF : MemAt (Wf.putObj D (.deferred none)) y' s := hmf.same fun q hq => hg.block q (hmf.lt q hq) (fun e => by
      have e' : q = D := Option.some.inj e
      subst e'
      rcases fp_obj hmf q hq with ⟨cs, t, h5⟩ | ⟨es, c, h5⟩
      · rw [h5] at hKf; cases hKf
      · rw [h5] at hKf; cases hKf)
    have hbF : Below w.heap.size w (Wf.putObj D (.deferred none)) := by
      refine hbf.trans ⟨hg.os, hg.tape, hg.output, hg.size, fun q hq => hg.block q ?_ ?_⟩
      · have := hbf.size
        omega
      · intro e
        have e' : q = D := Option.some.inj e
        omega
    clear hWf hg hmf hbf hbWf ho1 ho2 ho hb1 hb1' hb2 hb hlw hw0
    gi_wp2
    refine ⟨by simp, .inl ⟨_, _, rfl, run_takeDeferred hKf, ?_⟩⟩
    exact ⟨_, results_tmp rfl _ _ _, y', by rw [hyg]; rfl, hmF, hfp, hbF⟩
end Go.Proofs.Ytkeajfedlhgejaa
