/- Texts of this claim, packed: N8Make, N9App. -/
import Derived.Test.YtkbklooocdfcfaaGreatDoorPz24
import Derived.Test.YtkbklooocdfcfaaGreatDoorPz06
import Derived.Test.YtkbklooocdfcfaaGreatDoorPz25
import Derived.Deep.RegionHeld3
import Derived.Deep.Upon
set_option linter.unusedVariables false
set_option maxRecDepth 100000
set_option maxHeartbeats 6400000
namespace Go.Proofs.YtkbklooocdfcfaaGreatDoor
open Go.RowKit
def baseNd (base level low next first : Int) : Nd := ⟨level, low, next, 0, if level = 0 /\ first = 0 then base else first, 0, 0, 0, 0, 0, 0, 0, 0, 0, 0, 0, 0, 0, 0, 0, 0⟩
def rawNd (level low next first : Int) : Nd := ⟨level, low, next, 0, first, 0, 0, 0, 0, 0, 0, 0, 0, 0, 0, 0, 0, 0, 0, 0, 0⟩
theorem size_setCells (b : Nat) : ∀ (vs : List Value) (o : Nat) (w : World), (w.setCells b o vs).heap.size = w.heap.size
 | [], _, _ => rfl
 | v :: r, o, w => (size_setCells b r (o + 1) _).trans (by simp)
def makeN (base level low next first : Int) (l : List (Int × Int)) : Nd := mkN (baseNd base level low next first) l l.length
def makeR (base level low next first : Int) (l : List (Int × Int)) : Nd × Int :=
 bif decide (l.length <= 8) && ((makeN base level low next first l).may 0 false && decide ((makeN base level low next first l).es.length = l.length)) then (makeN base level low next first l, 0) else (zeroNd, 2)
theorem makeR_no (base level low next first : Int) (l : List (Int × Int)) (h : 8 < l.length) : makeR base level low next first l = (zeroNd, 2) := by
 unfold makeR
 rw [decide_eq_false (show ¬ l.length <= 8 by omega), Bool.false_and]
 rfl
theorem makeR_yes (base level low next first : Int) (l : List (Int × Int)) (h : l.length <= 8) : makeR base level low next first l = bif (makeN base level low next first l).may 0 false && decide ((makeN base level low next first l).es.length = l.length) then (makeN base level low next first l, 0) else (zeroNd, 2) := by
 unfold makeR
 rw [decide_eq_true h, Bool.true_and]
theorem nMake_any (base level low next first : Int) {w : World} {v : Value} {l : List (Int × Int)} (h : EntAt w v l) (hl : l.length <= 1000) :
  Calls Tryz.prog 73 #[.int .u64 base, .int .i64 level, .int .u64 low, .int .u64 next, .int .u64 first, v] w fun e w' =>
   e = .returned (.tuple #[(makeR base level low next first l).1.V, .int .i64 (makeR base level low next first l).2]) /\ Below w.heap.size w w' := by
 obtain ⟨A, cap, rfl, hA⟩ := h
 obtain ⟨m, hm⟩ : ∃ m, m = l.length := ⟨_, rfl⟩
 rw [<- hm] at hl ⊢
 have HA := Lib.hid (fun (h0 : 0 < m) => (show ∃ g o, A = some ⟨g, o, none⟩ /\ ∀ k, k < m -> w.cell? ⟨g, o + k * 2, none⟩ = some (uw (l.getD k (0, 0)).1) /\ w.cell? ⟨g, o + k * 2 + 1, none⟩ = some (uw (l.getD k (0, 0)).2) by
  obtain ⟨g, o, rfl, hc⟩ := hA (by omega)
  exact ⟨g, o, rfl, fun k hk => hc k _ (getD_ent (by omega))⟩))
 obtain ⟨R, hR⟩ : ∃ R, R = makeR base level low next first l := ⟨_, rfl⟩
 rw [<- hR]
 have hz : (w.alloc (.cells zeroNd.cl.toArray 71)).heap.size = w.heap.size + 1 := by simp
 obtain h8 | h8 : 8 < m \/ m <= 8 := by omega
 ·have HR := Lib.hid (hR.trans (makeR_no base level low next first l (by rw [<- hm]; exact h8)))
  clear hA hm hR
  have rz := Row.new w 71 zeroNd.cl.toArray
  have RZ := Lib.hid rz
  go_enter Tryz.func73, Tryz.ntmps73
  go_wp2_with (refine wpList_store_row rfl _ _ _ rfl w.heap.size zeroNd.cl rfl rfl RZ.out rfl ndI (cl_one zeroNd) ?_)
  refine bodyPost_ret (results_node_tmp rfl _ _ w.heap.size zeroNd rfl (row_setCells RZ.out rfl)) rfl ⟨?_, setCells_low _ (Nat.le_refl _) (alloc_low _ _)⟩
  rw [HR.out]
  rfl
 ·have hR := hR.trans (makeR_yes base level low next first l (by rw [<- hm]; exact h8))
  by_cases h0 : level = 0
  ·subst h0
   by_cases h1 : first = 0
   ·subst h1
    have rz := Row.new w 71 zeroNd.cl.toArray
    have rz1 := Row.new (w.alloc (.cells zeroNd.cl.toArray 71)) 71 zeroNd.cl.toArray
    rw [World.size_alloc] at rz1
    obtain ⟨W1, hW1⟩ : ∃ W1, W1 = ((w.alloc (.cells #[.int .i64 0, .int .u64 0, .int .u64 0, .int .u64 0, .int .u64 0, .int .u64 0, .int .u64 0, .int .u64 0, .int .u64 0, .int .u64 0, .int .u64 0, .int .u64 0, .int .u64 0, .int .u64 0, .int .u64 0, .int .u64 0, .int .u64 0, .int .u64 0, .int .u64 0, .int .u64 0, .int .u64 0] 71)).alloc (.cells #[.int .i64 0, .int .u64 0, .int .u64 0, .int .u64 0, .int .u64 0, .int .u64 0, .int .u64 0, .int .u64 0, .int .u64 0, .int .u64 0, .int .u64 0, .int .u64 0, .int .u64 0, .int .u64 0, .int .u64 0, .int .u64 0, .int .u64 0, .int .u64 0, .int .u64 0, .int .u64 0, .int .u64 0] 71)).setCells (w.heap.size + 1) 0 (rawNd 0 low next 0).cl := ⟨_, rfl⟩
    have hb1 : Below w.heap.size w W1 := by rw [hW1]; exact setCells_low _ (Nat.le_succ _) (low_and (alloc_low _ _) (alloc_low _ _))
    have q1 : NdAt W1 (w.heap.size + 1) (rawNd 0 low next 0) := by rw [hW1]; exact row_setCells rz1 rfl
    have q0 : NdAt W1 w.heap.size zeroNd := by
     rw [hW1]
     exact (World.heap_setCells_other _ _ _ _ (by simp; omega) (by omega)).trans (rz.alloc (.cells zeroNd.cl.toArray 71))
    have hs1 : W1.heap.size = w.heap.size + 2 := by
     have h1 := q1.lt
     rw [hW1, size_setCells]
     simp
    have c4 : W1.cell? ⟨w.heap.size + 1, 4, none⟩ = some (.int .u64 0) := ndAt_at q1 4
    have f4 := q1.free 4
    have HW1 := Lib.hid hW1
    have RZ1 := Lib.hid rz1
    have hn1 : baseNd base 0 low next 0 = rawNd 0 low next base := by unfold baseNd rawNd; rw [if_pos ⟨rfl, rfl⟩]
    have q1 : NdAt (W1.setCell ⟨w.heap.size + 1, 4, none⟩ (.int .u64 base)) (w.heap.size + 1) (rawNd 0 low next base) := q1.set 4 (.int .u64 base)
    have q0 := q0.other (p := ⟨w.heap.size + 1, 4, none⟩) (show w.heap.size ≠ w.heap.size + 1 by omega) (.int .u64 base)
    have hb1 := hb1.setCell (p := ⟨w.heap.size + 1, 4, none⟩) (Nat.le_succ _) (.int .u64 base)
    have hs1 : (W1.setCell ⟨w.heap.size + 1, 4, none⟩ (.int .u64 base)).heap.size = w.heap.size + 2 := by simpa using hs1
    have HB1 := Lib.hid hb1
    have Q0 := Lib.hid q0
    have Q1 := Lib.hid q1
    obtain ⟨n1, hn1d⟩ : ∃ n1, n1 = baseNd base 0 low next 0 := ⟨_, rfl⟩
    have HR := Lib.hid hR
    have HN0 := Lib.hid hn1d.symm
    rw [hn1] at hn1d
    rw [<- hn1d] at Q1
    have HMm := Lib.hid hm
    clear hA hm hR hW1 hb1 q0 q1 hn1 hn1d hz rz rz1
    go_enter Tryz.func73, Tryz.ntmps73
    go_wp2_with (refine wpList_store_row rfl _ _ _ rfl (w.heap.size + 1) (rawNd 0 low next 0).cl rfl rfl RZ1.out rfl ndI (cl_one _) ?_; rw [<- HW1.out])
    go_loopw [36] (fun i wr => ∃ k : Nat, k <= m /\ i = .int .i64 (k : Int) /\ NdAt wr (w.heap.size + 1) (mkN n1 l k) /\ NdAt wr w.heap.size zeroNd /\ Below w.heap.size w wr /\ w.heap.size + 2 <= wr.heap.size) (fun i _ => m - (intOf i).toNat)
    case atStart => exact ⟨0, by omega, rfl, Q1.out, Q0.out, HB1.out, by omega⟩
    case round =>
     rename World => wr
     obtain ⟨k, hk, rfl, h1, h0, hb, hsz⟩ := hrel
     have H1 := Lib.hid h1
     have H0 := Lib.hid h0
     have HB := Lib.hid hb
     by_cases hlt : k < m
     ·obtain ⟨g, o, hAe, hc⟩ := HA.out (by omega)
      obtain ⟨p1, p2⟩ := hc k hlt
      obtain ⟨e, he⟩ : ∃ e, e = l.getD k (0, 0) := ⟨_, rfl⟩
      have HST := Lib.hid (show mkN n1 l (k + 1) = (mkN n1 l k).put k (l.getD k (0, 0)) from rfl)
      rw [<- he] at p1 p2 HST
      obtain ⟨ek, ep⟩ := e
      dsimp only at p1 p2
      have d1 := (hb.cell (p := ⟨g, o + k * 2, none⟩) (w.block_lt_of_cell? _ p1)).trans p1
      have d2 := (hb.cell (p := ⟨g, o + k * 2 + 1, none⟩) (w.block_lt_of_cell? _ p2)).trans p2
      have hkb : k < 8 := by omega
      have hk8 : (k : Int) < 8 := by omega
      subst hAe
      unfold uw at d1 d2
      obtain ⟨We, hWe⟩ : ∃ We, We = wr.alloc (.cells #[.int .u64 ek, .int .u64 ep] 94) := ⟨_, rfl⟩
      obtain ⟨er, her⟩ : ∃ er, er = wr.heap.size := ⟨_, rfl⟩
      have hbe : Below wr.heap.size wr We := by rw [hWe]; exact alloc_low _ _
      have g1 := h1.below hbe h1.lt
      have g0 := h0.below hbe h0.lt
      have e0 : We.cell? ⟨er, 0, none⟩ = some (.int .u64 ek) := by rw [hWe, her]; exact (Row.new wr 94 _).cell 0
      have e1 : We.cell? ⟨er, 1, none⟩ = some (.int .u64 ep) := by rw [hWe, her]; exact (Row.new wr 94 _).cell 1
      have ck := ndAt_key g1 hkb
      have cp := ndAt_ptr g1 hkb
      have fk := g1.free (5 + k)
      have fp := g1.free (13 + k)
      have hne : er ≠ w.heap.size + 1 := by omega
      have hne2 : w.heap.size + 1 ≠ er := by omega
      have G1 := Lib.hid g1
      have G0 := Lib.hid g0
      have HWE := Lib.hid hWe
      have HER := Lib.hid her
      have HBE := Lib.hid (low_and hb hbe)
      have HSZ := Lib.hid (show w.heap.size + 2 <= We.heap.size by have := hbe.size; omega)
      have sp : ∀ u, (We.setCell ⟨w.heap.size + 1, 5 + k, none⟩ u).cell? ⟨w.heap.size + 1, 13 + k, none⟩ = some (.int .u64 ((mkN n1 l k).ptr k)) := fun u => by
       rw [World.cell?_setCell_other _ _ _ _ (by simp)]
       exact cp
      have sk : ∀ u, (We.setCell ⟨w.heap.size + 1, 13 + k, none⟩ u).cell? ⟨w.heap.size + 1, 5 + k, none⟩ = some (.int .u64 ((mkN n1 l k).key k)) := fun u => by
       rw [World.cell?_setCell_other _ _ _ _ (by simp)]
       exact ck
      have SP := Lib.hid sp
      clear hc p1 p2 he h1 h0 hb hbe g1 g0 hWe her hsz
      go_wp2_with fail
      rw [<- HWE.out, <- HER.out]
      go_region
      go_wp2
      refine ⟨⟨k + 1, by omega, by go_num, ?_, ?_, ?_, by simpa using HSZ.out⟩, by simp [intOf]; omega⟩
      ·rw [HST.out]
       have := (G1.out.set (5 + k) (uw ek)).set (13 + k) (uw ep)
       rw [put_cl _ hkb (ek, ep)] at this
       exact this
      ·exact (G0.out.other (p := ⟨w.heap.size + 1, 5 + k, none⟩) (by dsimp only; omega) _).other (p := ⟨w.heap.size + 1, 13 + k, none⟩) (by dsimp only; omega) _
      ·have := (HBE.out.setCell (p := ⟨w.heap.size + 1, 5 + k, none⟩) (by dsimp only; omega) (.int .u64 ek)).setCell (p := ⟨w.heap.size + 1, 13 + k, none⟩) (by dsimp only; omega) (.int .u64 ep)
       exact ⟨this.os, this.tape, this.output, this.size, this.block⟩
     ·obtain rfl : k = m := by omega
      obtain ⟨N, hN⟩ : ∃ N, N = mkN n1 l k := ⟨_, rfl⟩
      rw [<- hN] at H1
      have hRN : R = bif N.may 0 false && decide (N.es.length = k) then (N, 0) else (zeroNd, 2) := by
       rw [HR.out]
       unfold makeN
       rw [HN0.out, <- HMm.out, <- hN]
      have HM := Lib.hid (nMay_any N 0 false wr)
      have HV := Lib.hid (fun W' => nValid_any N W')
      have HNA := Lib.hid (fun W' (hb : Below wr.heap.size wr W') => (show NdAt W' (w.heap.size + 1) N from H1.out.below hb H1.out.lt))
      have HZA := Lib.hid (fun W' (hb : Below wr.heap.size wr W') => (show NdAt W' w.heap.size zeroNd from H0.out.below hb H0.out.lt))
      have HBA := Lib.hid (fun W' (hb : Below wr.heap.size wr W') => (show Below w.heap.size w W' from HB.out.trans (hb.mono HB.out.size)))
      have hes := N.es_len
      obtain ⟨mb, hmb⟩ : ∃ mb, mb = N.may 0 false := ⟨_, rfl⟩
      rw [<- hmb] at hRN HM
      have HRN := Lib.hid hRN
      clear hRN hmb hN h1 h0 hb
      cases mb with
      | false =>
       have HRf := Lib.hid (show R = (zeroNd, 2) from HRN.out)
       go_wp2_with (first
        | (refine wpList_load_mid rfl _ _ rfl (w.heap.size + 1) 0 rfl N.cl _ (ndR (HNA.out _ (by first | assumption | exact Below.refl _ _))) Tryz.underlying71 rfl ndI ?_)
        | (go_at_call 112; refine HM.out.mono ?_; rintro e wm ⟨rfl, hbm⟩)
        | (refine wpList_store_row rfl _ _ _ rfl w.heap.size zeroNd.cl rfl rfl (HZA.out _ (by assumption)) rfl ndI (cl_one _) ?_))
       refine bodyPost_ret (results_node_tmp rfl _ _ w.heap.size zeroNd rfl (row_setCells (HZA.out _ hbm) rfl)) rfl ⟨?_, setCells_low _ (Nat.le_refl _) (HBA.out _ hbm)⟩
       rw [HRf.out]
       rfl
      | true =>
       obtain hle | hle : N.es.length = k \/ N.es.length ≠ k := by omega
       ·have HRf := Lib.hid (show R = (N, 0) by rw [HRN.out, decide_eq_true hle]; rfl)
        have hbq : ((N.es.length : Int) != (k : Int)) = false := by simp; omega
        go_wp2_with (first
         | (refine wpList_load_mid rfl _ _ rfl (w.heap.size + 1) 0 rfl N.cl _ (ndR (HNA.out _ (by first | assumption | exact Below.refl _ _))) Tryz.underlying71 rfl ndI ?_)
         | (refine wpList_load_midg (by rfl) _ _ rfl (w.heap.size + 1) 0 rfl N.cl _ (ndR (HNA.out _ (by first | assumption | exact Below.refl _ _))) Tryz.underlying71 rfl ndI ?_)
         | (go_at_call 112; refine HM.out.mono ?_; rintro e wm ⟨rfl, hbm⟩)
         | (go_at_call 36; refine (HV.out _).mono ?_; rintro e wv ⟨⟨v, rfl, ho⟩, hbv⟩; have hbv := low_and hbm hbv; obtain ⟨A', c', rfl, _⟩ := ent_own ho)
         | (refine wpList_store_row rfl _ _ _ rfl w.heap.size N.cl rfl rfl (HZA.out _ (by assumption)) rfl ndI (cl_one _) ?_))
        refine bodyPost_ret (results_node_tmp rfl _ _ w.heap.size N rfl (row_setCells (HZA.out _ hbv) rfl)) rfl ⟨?_, setCells_low _ (Nat.le_refl _) (HBA.out _ hbv)⟩
        rw [HRf.out]
        rfl
       ·have HRf := Lib.hid (show R = (zeroNd, 2) by rw [HRN.out, decide_eq_false hle]; rfl)
        have hbq : ((N.es.length : Int) != (k : Int)) = true := by simp; omega
        go_wp2_with (first
         | (refine wpList_load_mid rfl _ _ rfl (w.heap.size + 1) 0 rfl N.cl _ (ndR (HNA.out _ (by first | assumption | exact Below.refl _ _))) Tryz.underlying71 rfl ndI ?_)
         | (refine wpList_load_midg (by rfl) _ _ rfl (w.heap.size + 1) 0 rfl N.cl _ (ndR (HNA.out _ (by first | assumption | exact Below.refl _ _))) Tryz.underlying71 rfl ndI ?_)
         | (go_at_call 112; refine HM.out.mono ?_; rintro e wm ⟨rfl, hbm⟩)
         | (go_at_call 36; refine (HV.out _).mono ?_; rintro e wv ⟨⟨v, rfl, ho⟩, hbv⟩; have hbv := low_and hbm hbv; obtain ⟨A', c', rfl, _⟩ := ent_own ho)
         | (refine wpList_store_row rfl _ _ _ rfl w.heap.size zeroNd.cl rfl rfl (HZA.out _ (by assumption)) rfl ndI (cl_one _) ?_))
        refine bodyPost_ret (results_node_tmp rfl _ _ w.heap.size zeroNd rfl (row_setCells (HZA.out _ hbv) rfl)) rfl ⟨?_, setCells_low _ (Nat.le_refl _) (HBA.out _ hbv)⟩
        rw [HRf.out]
        rfl
   ·have rz := Row.new w 71 zeroNd.cl.toArray
    have rz1 := Row.new (w.alloc (.cells zeroNd.cl.toArray 71)) 71 zeroNd.cl.toArray
    rw [World.size_alloc] at rz1
    obtain ⟨W1, hW1⟩ : ∃ W1, W1 = ((w.alloc (.cells #[.int .i64 0, .int .u64 0, .int .u64 0, .int .u64 0, .int .u64 0, .int .u64 0, .int .u64 0, .int .u64 0, .int .u64 0, .int .u64 0, .int .u64 0, .int .u64 0, .int .u64 0, .int .u64 0, .int .u64 0, .int .u64 0, .int .u64 0, .int .u64 0, .int .u64 0, .int .u64 0, .int .u64 0] 71)).alloc (.cells #[.int .i64 0, .int .u64 0, .int .u64 0, .int .u64 0, .int .u64 0, .int .u64 0, .int .u64 0, .int .u64 0, .int .u64 0, .int .u64 0, .int .u64 0, .int .u64 0, .int .u64 0, .int .u64 0, .int .u64 0, .int .u64 0, .int .u64 0, .int .u64 0, .int .u64 0, .int .u64 0, .int .u64 0] 71)).setCells (w.heap.size + 1) 0 (rawNd 0 low next first).cl := ⟨_, rfl⟩
    have hb1 : Below w.heap.size w W1 := by rw [hW1]; exact setCells_low _ (Nat.le_succ _) (low_and (alloc_low _ _) (alloc_low _ _))
    have q1 : NdAt W1 (w.heap.size + 1) (rawNd 0 low next first) := by rw [hW1]; exact row_setCells rz1 rfl
    have q0 : NdAt W1 w.heap.size zeroNd := by
     rw [hW1]
     exact (World.heap_setCells_other _ _ _ _ (by simp; omega) (by omega)).trans (rz.alloc (.cells zeroNd.cl.toArray 71))
    have hs1 : W1.heap.size = w.heap.size + 2 := by
     have h1 := q1.lt
     rw [hW1, size_setCells]
     simp
    have c4 : W1.cell? ⟨w.heap.size + 1, 4, none⟩ = some (.int .u64 first) := ndAt_at q1 4
    have f4 := q1.free 4
    have HW1 := Lib.hid hW1
    have RZ1 := Lib.hid rz1
    have hn1 : baseNd base 0 low next first = rawNd 0 low next first := by unfold baseNd rawNd; rw [if_neg (fun h => h1 h.2)]
    have HB1 := Lib.hid hb1
    have Q0 := Lib.hid q0
    have Q1 := Lib.hid q1
    obtain ⟨n1, hn1d⟩ : ∃ n1, n1 = baseNd base 0 low next first := ⟨_, rfl⟩
    have HR := Lib.hid hR
    have HN0 := Lib.hid hn1d.symm
    rw [hn1] at hn1d
    rw [<- hn1d] at Q1
    have HMm := Lib.hid hm
    clear hA hm hR hW1 hb1 q0 q1 hn1 hn1d hz rz rz1
    go_enter Tryz.func73, Tryz.ntmps73
    go_wp2_with (refine wpList_store_row rfl _ _ _ rfl (w.heap.size + 1) (rawNd 0 low next first).cl rfl rfl RZ1.out rfl ndI (cl_one _) ?_; rw [<- HW1.out])
    go_loopw [36] (fun i wr => ∃ k : Nat, k <= m /\ i = .int .i64 (k : Int) /\ NdAt wr (w.heap.size + 1) (mkN n1 l k) /\ NdAt wr w.heap.size zeroNd /\ Below w.heap.size w wr /\ w.heap.size + 2 <= wr.heap.size) (fun i _ => m - (intOf i).toNat)
    case atStart => exact ⟨0, by omega, rfl, Q1.out, Q0.out, HB1.out, by omega⟩
    case round =>
     rename World => wr
     obtain ⟨k, hk, rfl, h1, h0, hb, hsz⟩ := hrel
     have H1 := Lib.hid h1
     have H0 := Lib.hid h0
     have HB := Lib.hid hb
     by_cases hlt : k < m
     ·obtain ⟨g, o, hAe, hc⟩ := HA.out (by omega)
      obtain ⟨p1, p2⟩ := hc k hlt
      obtain ⟨e, he⟩ : ∃ e, e = l.getD k (0, 0) := ⟨_, rfl⟩
      have HST := Lib.hid (show mkN n1 l (k + 1) = (mkN n1 l k).put k (l.getD k (0, 0)) from rfl)
      rw [<- he] at p1 p2 HST
      obtain ⟨ek, ep⟩ := e
      dsimp only at p1 p2
      have d1 := (hb.cell (p := ⟨g, o + k * 2, none⟩) (w.block_lt_of_cell? _ p1)).trans p1
      have d2 := (hb.cell (p := ⟨g, o + k * 2 + 1, none⟩) (w.block_lt_of_cell? _ p2)).trans p2
      have hkb : k < 8 := by omega
      have hk8 : (k : Int) < 8 := by omega
      subst hAe
      unfold uw at d1 d2
      obtain ⟨We, hWe⟩ : ∃ We, We = wr.alloc (.cells #[.int .u64 ek, .int .u64 ep] 94) := ⟨_, rfl⟩
      obtain ⟨er, her⟩ : ∃ er, er = wr.heap.size := ⟨_, rfl⟩
      have hbe : Below wr.heap.size wr We := by rw [hWe]; exact alloc_low _ _
      have g1 := h1.below hbe h1.lt
      have g0 := h0.below hbe h0.lt
      have e0 : We.cell? ⟨er, 0, none⟩ = some (.int .u64 ek) := by rw [hWe, her]; exact (Row.new wr 94 _).cell 0
      have e1 : We.cell? ⟨er, 1, none⟩ = some (.int .u64 ep) := by rw [hWe, her]; exact (Row.new wr 94 _).cell 1
      have ck := ndAt_key g1 hkb
      have cp := ndAt_ptr g1 hkb
      have fk := g1.free (5 + k)
      have fp := g1.free (13 + k)
      have hne : er ≠ w.heap.size + 1 := by omega
      have hne2 : w.heap.size + 1 ≠ er := by omega
      have G1 := Lib.hid g1
      have G0 := Lib.hid g0
      have HWE := Lib.hid hWe
      have HER := Lib.hid her
      have HBE := Lib.hid (low_and hb hbe)
      have HSZ := Lib.hid (show w.heap.size + 2 <= We.heap.size by have := hbe.size; omega)
      have sp : ∀ u, (We.setCell ⟨w.heap.size + 1, 5 + k, none⟩ u).cell? ⟨w.heap.size + 1, 13 + k, none⟩ = some (.int .u64 ((mkN n1 l k).ptr k)) := fun u => by
       rw [World.cell?_setCell_other _ _ _ _ (by simp)]
       exact cp
      have sk : ∀ u, (We.setCell ⟨w.heap.size + 1, 13 + k, none⟩ u).cell? ⟨w.heap.size + 1, 5 + k, none⟩ = some (.int .u64 ((mkN n1 l k).key k)) := fun u => by
       rw [World.cell?_setCell_other _ _ _ _ (by simp)]
       exact ck
      have SP := Lib.hid sp
      clear hc p1 p2 he h1 h0 hb hbe g1 g0 hWe her hsz
      go_wp2_with fail
      rw [<- HWE.out, <- HER.out]
      go_region
      go_wp2
      refine ⟨⟨k + 1, by omega, by go_num, ?_, ?_, ?_, by simpa using HSZ.out⟩, by simp [intOf]; omega⟩
      ·rw [HST.out]
       have := (G1.out.set (5 + k) (uw ek)).set (13 + k) (uw ep)
       rw [put_cl _ hkb (ek, ep)] at this
       exact this
      ·exact (G0.out.other (p := ⟨w.heap.size + 1, 5 + k, none⟩) (by dsimp only; omega) _).other (p := ⟨w.heap.size + 1, 13 + k, none⟩) (by dsimp only; omega) _
      ·have := (HBE.out.setCell (p := ⟨w.heap.size + 1, 5 + k, none⟩) (by dsimp only; omega) (.int .u64 ek)).setCell (p := ⟨w.heap.size + 1, 13 + k, none⟩) (by dsimp only; omega) (.int .u64 ep)
       exact ⟨this.os, this.tape, this.output, this.size, this.block⟩
     ·obtain rfl : k = m := by omega
      obtain ⟨N, hN⟩ : ∃ N, N = mkN n1 l k := ⟨_, rfl⟩
      rw [<- hN] at H1
      have hRN : R = bif N.may 0 false && decide (N.es.length = k) then (N, 0) else (zeroNd, 2) := by
       rw [HR.out]
       unfold makeN
       rw [HN0.out, <- HMm.out, <- hN]
      have HM := Lib.hid (nMay_any N 0 false wr)
      have HV := Lib.hid (fun W' => nValid_any N W')
      have HNA := Lib.hid (fun W' (hb : Below wr.heap.size wr W') => (show NdAt W' (w.heap.size + 1) N from H1.out.below hb H1.out.lt))
      have HZA := Lib.hid (fun W' (hb : Below wr.heap.size wr W') => (show NdAt W' w.heap.size zeroNd from H0.out.below hb H0.out.lt))
      have HBA := Lib.hid (fun W' (hb : Below wr.heap.size wr W') => (show Below w.heap.size w W' from HB.out.trans (hb.mono HB.out.size)))
      have hes := N.es_len
      obtain ⟨mb, hmb⟩ : ∃ mb, mb = N.may 0 false := ⟨_, rfl⟩
      rw [<- hmb] at hRN HM
      have HRN := Lib.hid hRN
      clear hRN hmb hN h1 h0 hb
      cases mb with
      | false =>
       have HRf := Lib.hid (show R = (zeroNd, 2) from HRN.out)
       go_wp2_with (first
        | (refine wpList_load_mid rfl _ _ rfl (w.heap.size + 1) 0 rfl N.cl _ (ndR (HNA.out _ (by first | assumption | exact Below.refl _ _))) Tryz.underlying71 rfl ndI ?_)
        | (go_at_call 112; refine HM.out.mono ?_; rintro e wm ⟨rfl, hbm⟩)
        | (refine wpList_store_row rfl _ _ _ rfl w.heap.size zeroNd.cl rfl rfl (HZA.out _ (by assumption)) rfl ndI (cl_one _) ?_))
       refine bodyPost_ret (results_node_tmp rfl _ _ w.heap.size zeroNd rfl (row_setCells (HZA.out _ hbm) rfl)) rfl ⟨?_, setCells_low _ (Nat.le_refl _) (HBA.out _ hbm)⟩
       rw [HRf.out]
       rfl
      | true =>
       obtain hle | hle : N.es.length = k \/ N.es.length ≠ k := by omega
       ·have HRf := Lib.hid (show R = (N, 0) by rw [HRN.out, decide_eq_true hle]; rfl)
        have hbq : ((N.es.length : Int) != (k : Int)) = false := by simp; omega
        go_wp2_with (first
         | (refine wpList_load_mid rfl _ _ rfl (w.heap.size + 1) 0 rfl N.cl _ (ndR (HNA.out _ (by first | assumption | exact Below.refl _ _))) Tryz.underlying71 rfl ndI ?_)
         | (refine wpList_load_midg (by rfl) _ _ rfl (w.heap.size + 1) 0 rfl N.cl _ (ndR (HNA.out _ (by first | assumption | exact Below.refl _ _))) Tryz.underlying71 rfl ndI ?_)
         | (go_at_call 112; refine HM.out.mono ?_; rintro e wm ⟨rfl, hbm⟩)
         | (go_at_call 36; refine (HV.out _).mono ?_; rintro e wv ⟨⟨v, rfl, ho⟩, hbv⟩; have hbv := low_and hbm hbv; obtain ⟨A', c', rfl, _⟩ := ent_own ho)
         | (refine wpList_store_row rfl _ _ _ rfl w.heap.size N.cl rfl rfl (HZA.out _ (by assumption)) rfl ndI (cl_one _) ?_))
        refine bodyPost_ret (results_node_tmp rfl _ _ w.heap.size N rfl (row_setCells (HZA.out _ hbv) rfl)) rfl ⟨?_, setCells_low _ (Nat.le_refl _) (HBA.out _ hbv)⟩
        rw [HRf.out]
        rfl
       ·have HRf := Lib.hid (show R = (zeroNd, 2) by rw [HRN.out, decide_eq_false hle]; rfl)
        have hbq : ((N.es.length : Int) != (k : Int)) = true := by simp; omega
        go_wp2_with (first
         | (refine wpList_load_mid rfl _ _ rfl (w.heap.size + 1) 0 rfl N.cl _ (ndR (HNA.out _ (by first | assumption | exact Below.refl _ _))) Tryz.underlying71 rfl ndI ?_)
         | (refine wpList_load_midg (by rfl) _ _ rfl (w.heap.size + 1) 0 rfl N.cl _ (ndR (HNA.out _ (by first | assumption | exact Below.refl _ _))) Tryz.underlying71 rfl ndI ?_)
         | (go_at_call 112; refine HM.out.mono ?_; rintro e wm ⟨rfl, hbm⟩)
         | (go_at_call 36; refine (HV.out _).mono ?_; rintro e wv ⟨⟨v, rfl, ho⟩, hbv⟩; have hbv := low_and hbm hbv; obtain ⟨A', c', rfl, _⟩ := ent_own ho)
         | (refine wpList_store_row rfl _ _ _ rfl w.heap.size zeroNd.cl rfl rfl (HZA.out _ (by assumption)) rfl ndI (cl_one _) ?_))
        refine bodyPost_ret (results_node_tmp rfl _ _ w.heap.size zeroNd rfl (row_setCells (HZA.out _ hbv) rfl)) rfl ⟨?_, setCells_low _ (Nat.le_refl _) (HBA.out _ hbv)⟩
        rw [HRf.out]
        rfl
  ·have rz := Row.new w 71 zeroNd.cl.toArray
   have rz1 := Row.new (w.alloc (.cells zeroNd.cl.toArray 71)) 71 zeroNd.cl.toArray
   rw [World.size_alloc] at rz1
   obtain ⟨W1, hW1⟩ : ∃ W1, W1 = ((w.alloc (.cells #[.int .i64 0, .int .u64 0, .int .u64 0, .int .u64 0, .int .u64 0, .int .u64 0, .int .u64 0, .int .u64 0, .int .u64 0, .int .u64 0, .int .u64 0, .int .u64 0, .int .u64 0, .int .u64 0, .int .u64 0, .int .u64 0, .int .u64 0, .int .u64 0, .int .u64 0, .int .u64 0, .int .u64 0] 71)).alloc (.cells #[.int .i64 0, .int .u64 0, .int .u64 0, .int .u64 0, .int .u64 0, .int .u64 0, .int .u64 0, .int .u64 0, .int .u64 0, .int .u64 0, .int .u64 0, .int .u64 0, .int .u64 0, .int .u64 0, .int .u64 0, .int .u64 0, .int .u64 0, .int .u64 0, .int .u64 0, .int .u64 0, .int .u64 0] 71)).setCells (w.heap.size + 1) 0 (rawNd level low next first).cl := ⟨_, rfl⟩
   have hb1 : Below w.heap.size w W1 := by rw [hW1]; exact setCells_low _ (Nat.le_succ _) (low_and (alloc_low _ _) (alloc_low _ _))
   have q1 : NdAt W1 (w.heap.size + 1) (rawNd level low next first) := by rw [hW1]; exact row_setCells rz1 rfl
   have q0 : NdAt W1 w.heap.size zeroNd := by
    rw [hW1]
    exact (World.heap_setCells_other _ _ _ _ (by simp; omega) (by omega)).trans (rz.alloc (.cells zeroNd.cl.toArray 71))
   have hs1 : W1.heap.size = w.heap.size + 2 := by
    have h1 := q1.lt
    rw [hW1, size_setCells]
    simp
   have c4 : W1.cell? ⟨w.heap.size + 1, 4, none⟩ = some (.int .u64 first) := ndAt_at q1 4
   have f4 := q1.free 4
   have HW1 := Lib.hid hW1
   have RZ1 := Lib.hid rz1
   have hn1 : baseNd base level low next first = rawNd level low next first := by unfold baseNd rawNd; rw [if_neg (fun h => h0 h.1)]
   have HB1 := Lib.hid hb1
   have Q0 := Lib.hid q0
   have Q1 := Lib.hid q1
   obtain ⟨n1, hn1d⟩ : ∃ n1, n1 = baseNd base level low next first := ⟨_, rfl⟩
   have HR := Lib.hid hR
   have HN0 := Lib.hid hn1d.symm
   rw [hn1] at hn1d
   rw [<- hn1d] at Q1
   have HMm := Lib.hid hm
   clear hA hm hR hW1 hb1 q0 q1 hn1 hn1d hz rz rz1
   go_enter Tryz.func73, Tryz.ntmps73
   go_wp2_with (refine wpList_store_row rfl _ _ _ rfl (w.heap.size + 1) (rawNd level low next first).cl rfl rfl RZ1.out rfl ndI (cl_one _) ?_; rw [<- HW1.out])
   go_loopw [36] (fun i wr => ∃ k : Nat, k <= m /\ i = .int .i64 (k : Int) /\ NdAt wr (w.heap.size + 1) (mkN n1 l k) /\ NdAt wr w.heap.size zeroNd /\ Below w.heap.size w wr /\ w.heap.size + 2 <= wr.heap.size) (fun i _ => m - (intOf i).toNat)
   case atStart => exact ⟨0, by omega, rfl, Q1.out, Q0.out, HB1.out, by omega⟩
   case round =>
    rename World => wr
    obtain ⟨k, hk, rfl, h1, h0, hb, hsz⟩ := hrel
    have H1 := Lib.hid h1
    have H0 := Lib.hid h0
    have HB := Lib.hid hb
    by_cases hlt : k < m
    ·obtain ⟨g, o, hAe, hc⟩ := HA.out (by omega)
     obtain ⟨p1, p2⟩ := hc k hlt
     obtain ⟨e, he⟩ : ∃ e, e = l.getD k (0, 0) := ⟨_, rfl⟩
     have HST := Lib.hid (show mkN n1 l (k + 1) = (mkN n1 l k).put k (l.getD k (0, 0)) from rfl)
     rw [<- he] at p1 p2 HST
     obtain ⟨ek, ep⟩ := e
     dsimp only at p1 p2
     have d1 := (hb.cell (p := ⟨g, o + k * 2, none⟩) (w.block_lt_of_cell? _ p1)).trans p1
     have d2 := (hb.cell (p := ⟨g, o + k * 2 + 1, none⟩) (w.block_lt_of_cell? _ p2)).trans p2
     have hkb : k < 8 := by omega
     have hk8 : (k : Int) < 8 := by omega
     subst hAe
     unfold uw at d1 d2
     obtain ⟨We, hWe⟩ : ∃ We, We = wr.alloc (.cells #[.int .u64 ek, .int .u64 ep] 94) := ⟨_, rfl⟩
     obtain ⟨er, her⟩ : ∃ er, er = wr.heap.size := ⟨_, rfl⟩
     have hbe : Below wr.heap.size wr We := by rw [hWe]; exact alloc_low _ _
     have g1 := h1.below hbe h1.lt
     have g0 := h0.below hbe h0.lt
     have e0 : We.cell? ⟨er, 0, none⟩ = some (.int .u64 ek) := by rw [hWe, her]; exact (Row.new wr 94 _).cell 0
     have e1 : We.cell? ⟨er, 1, none⟩ = some (.int .u64 ep) := by rw [hWe, her]; exact (Row.new wr 94 _).cell 1
     have ck := ndAt_key g1 hkb
     have cp := ndAt_ptr g1 hkb
     have fk := g1.free (5 + k)
     have fp := g1.free (13 + k)
     have hne : er ≠ w.heap.size + 1 := by omega
     have hne2 : w.heap.size + 1 ≠ er := by omega
     have G1 := Lib.hid g1
     have G0 := Lib.hid g0
     have HWE := Lib.hid hWe
     have HER := Lib.hid her
     have HBE := Lib.hid (low_and hb hbe)
     have HSZ := Lib.hid (show w.heap.size + 2 <= We.heap.size by have := hbe.size; omega)
     have sp : ∀ u, (We.setCell ⟨w.heap.size + 1, 5 + k, none⟩ u).cell? ⟨w.heap.size + 1, 13 + k, none⟩ = some (.int .u64 ((mkN n1 l k).ptr k)) := fun u => by
      rw [World.cell?_setCell_other _ _ _ _ (by simp)]
      exact cp
     have sk : ∀ u, (We.setCell ⟨w.heap.size + 1, 13 + k, none⟩ u).cell? ⟨w.heap.size + 1, 5 + k, none⟩ = some (.int .u64 ((mkN n1 l k).key k)) := fun u => by
      rw [World.cell?_setCell_other _ _ _ _ (by simp)]
      exact ck
     have SP := Lib.hid sp
     clear hc p1 p2 he h1 h0 hb hbe g1 g0 hWe her hsz
     go_wp2_with fail
     rw [<- HWE.out, <- HER.out]
     go_region
     go_wp2
     refine ⟨⟨k + 1, by omega, by go_num, ?_, ?_, ?_, by simpa using HSZ.out⟩, by simp [intOf]; omega⟩
     ·rw [HST.out]
      have := (G1.out.set (5 + k) (uw ek)).set (13 + k) (uw ep)
      rw [put_cl _ hkb (ek, ep)] at this
      exact this
     ·exact (G0.out.other (p := ⟨w.heap.size + 1, 5 + k, none⟩) (by dsimp only; omega) _).other (p := ⟨w.heap.size + 1, 13 + k, none⟩) (by dsimp only; omega) _
     ·have := (HBE.out.setCell (p := ⟨w.heap.size + 1, 5 + k, none⟩) (by dsimp only; omega) (.int .u64 ek)).setCell (p := ⟨w.heap.size + 1, 13 + k, none⟩) (by dsimp only; omega) (.int .u64 ep)
      exact ⟨this.os, this.tape, this.output, this.size, this.block⟩
    ·obtain rfl : k = m := by omega
     obtain ⟨N, hN⟩ : ∃ N, N = mkN n1 l k := ⟨_, rfl⟩
     rw [<- hN] at H1
     have hRN : R = bif N.may 0 false && decide (N.es.length = k) then (N, 0) else (zeroNd, 2) := by
      rw [HR.out]
      unfold makeN
      rw [HN0.out, <- HMm.out, <- hN]
     have HM := Lib.hid (nMay_any N 0 false wr)
     have HV := Lib.hid (fun W' => nValid_any N W')
     have HNA := Lib.hid (fun W' (hb : Below wr.heap.size wr W') => (show NdAt W' (w.heap.size + 1) N from H1.out.below hb H1.out.lt))
     have HZA := Lib.hid (fun W' (hb : Below wr.heap.size wr W') => (show NdAt W' w.heap.size zeroNd from H0.out.below hb H0.out.lt))
     have HBA := Lib.hid (fun W' (hb : Below wr.heap.size wr W') => (show Below w.heap.size w W' from HB.out.trans (hb.mono HB.out.size)))
     have hes := N.es_len
     obtain ⟨mb, hmb⟩ : ∃ mb, mb = N.may 0 false := ⟨_, rfl⟩
     rw [<- hmb] at hRN HM
     have HRN := Lib.hid hRN
     clear hRN hmb hN h1 h0 hb
     cases mb with
     | false =>
      have HRf := Lib.hid (show R = (zeroNd, 2) from HRN.out)
      go_wp2_with (first
       | (refine wpList_load_mid rfl _ _ rfl (w.heap.size + 1) 0 rfl N.cl _ (ndR (HNA.out _ (by first | assumption | exact Below.refl _ _))) Tryz.underlying71 rfl ndI ?_)
       | (go_at_call 112; refine HM.out.mono ?_; rintro e wm ⟨rfl, hbm⟩)
       | (refine wpList_store_row rfl _ _ _ rfl w.heap.size zeroNd.cl rfl rfl (HZA.out _ (by assumption)) rfl ndI (cl_one _) ?_))
      refine bodyPost_ret (results_node_tmp rfl _ _ w.heap.size zeroNd rfl (row_setCells (HZA.out _ hbm) rfl)) rfl ⟨?_, setCells_low _ (Nat.le_refl _) (HBA.out _ hbm)⟩
      rw [HRf.out]
      rfl
     | true =>
      obtain hle | hle : N.es.length = k \/ N.es.length ≠ k := by omega
      ·have HRf := Lib.hid (show R = (N, 0) by rw [HRN.out, decide_eq_true hle]; rfl)
       have hbq : ((N.es.length : Int) != (k : Int)) = false := by simp; omega
       go_wp2_with (first
        | (refine wpList_load_mid rfl _ _ rfl (w.heap.size + 1) 0 rfl N.cl _ (ndR (HNA.out _ (by first | assumption | exact Below.refl _ _))) Tryz.underlying71 rfl ndI ?_)
        | (refine wpList_load_midg (by rfl) _ _ rfl (w.heap.size + 1) 0 rfl N.cl _ (ndR (HNA.out _ (by first | assumption | exact Below.refl _ _))) Tryz.underlying71 rfl ndI ?_)
        | (go_at_call 112; refine HM.out.mono ?_; rintro e wm ⟨rfl, hbm⟩)
        | (go_at_call 36; refine (HV.out _).mono ?_; rintro e wv ⟨⟨v, rfl, ho⟩, hbv⟩; have hbv := low_and hbm hbv; obtain ⟨A', c', rfl, _⟩ := ent_own ho)
        | (refine wpList_store_row rfl _ _ _ rfl w.heap.size N.cl rfl rfl (HZA.out _ (by assumption)) rfl ndI (cl_one _) ?_))
       refine bodyPost_ret (results_node_tmp rfl _ _ w.heap.size N rfl (row_setCells (HZA.out _ hbv) rfl)) rfl ⟨?_, setCells_low _ (Nat.le_refl _) (HBA.out _ hbv)⟩
       rw [HRf.out]
       rfl
      ·have HRf := Lib.hid (show R = (zeroNd, 2) by rw [HRN.out, decide_eq_false hle]; rfl)
       have hbq : ((N.es.length : Int) != (k : Int)) = true := by simp; omega
       go_wp2_with (first
        | (refine wpList_load_mid rfl _ _ rfl (w.heap.size + 1) 0 rfl N.cl _ (ndR (HNA.out _ (by first | assumption | exact Below.refl _ _))) Tryz.underlying71 rfl ndI ?_)
        | (refine wpList_load_midg (by rfl) _ _ rfl (w.heap.size + 1) 0 rfl N.cl _ (ndR (HNA.out _ (by first | assumption | exact Below.refl _ _))) Tryz.underlying71 rfl ndI ?_)
        | (go_at_call 112; refine HM.out.mono ?_; rintro e wm ⟨rfl, hbm⟩)
        | (go_at_call 36; refine (HV.out _).mono ?_; rintro e wv ⟨⟨v, rfl, ho⟩, hbv⟩; have hbv := low_and hbm hbv; obtain ⟨A', c', rfl, _⟩ := ent_own ho)
        | (refine wpList_store_row rfl _ _ _ rfl w.heap.size zeroNd.cl rfl rfl (HZA.out _ (by assumption)) rfl ndI (cl_one _) ?_))
       refine bodyPost_ret (results_node_tmp rfl _ _ w.heap.size zeroNd rfl (row_setCells (HZA.out _ hbv) rfl)) rfl ⟨?_, setCells_low _ (Nat.le_refl _) (HBA.out _ hbv)⟩
       rw [HRf.out]
       rfl
def apL (base : Int) : Nd -> List (Int × Int) -> Option Nd
 | n, [] => some n
 | n, s :: l => match ap base n s with | some m => apL base m l | none => none
def aftR : Option Nd -> Nd × Int
 | some m => (m, 0)
 | none => (zeroNd, 2)
def applyR (base : Int) (n : Nd) (l : List (Int × Int)) : Nd × Int :=
 if bOk base = true then aftR (apL base n l) else (zeroNd, 2)
theorem ap_shift {base A : Int} (hb : 0 < base /\ base <= 1099511627776) (hA : 0 <= A /\ A < 18446744073709551616) (n : Nd) (x : Int) : ap 0 n (IntKind.u64.wrap (A - base), x) = ap base n (A, x) := by
 have hw : IntKind.u64.wrap (A - base) = (A - base) % 18446744073709551616 := by rw [IntKind.wrap_u64]
 by_cases h : base <= A
 ·have hw2 : IntKind.u64.wrap (A - base) = A - base := by rw [hw]; omega
  rw [hw2]
  unfold ap
  dsimp only
  simp only [Int.zero_add, Int.sub_zero, show (A - base = 8) = (A = base + 8) from propext (by omega), show (A - base = 16) = (A = base + 16) from propext (by omega), show (A - base = 24) = (A = base + 24) from propext (by omega), show (A - base = 32) = (A = base + 32) from propext (by omega)]
 ·have hw2 : IntKind.u64.wrap (A - base) = A - base + 18446744073709551616 := by rw [hw]; omega
  rw [hw2]
  unfold ap
  dsimp only
  rw [if_neg (by omega), if_neg (by omega), if_neg (by omega), if_neg (by omega), if_neg (by omega), if_neg (by omega), if_neg (by omega), if_neg (by omega), if_neg (by omega), if_neg (by omega)]
theorem apL_drop {base : Int} {n : Nd} {l : List (Int × Int)} {k : Nat} (hk : k < l.length) : apL base n (l.drop k) = match ap base n (l.getD k (0, 0)) with | some m => apL base m (l.drop (k + 1)) | none => none := by
 rw [List.drop_eq_getElem_cons hk, List.getD_eq_getElem?_getD, List.getElem?_eq_getElem hk]
 rfl
theorem apply_any {base : Int} (hb : 0 <= base) (n : Nd) {w : World} {v : Value} {l : List (Int × Int)} (h : EntAt w v l) (hl : l.length <= 1000) (hwf : ∀ e ∈ l, 0 <= e.1 /\ e.1 < 18446744073709551616) :
  Calls Tryz.prog 65 #[.int .u64 base, n.V, v] w fun e w' => e = .returned (.tuple #[(applyR base n l).1.V, .int .i64 (applyR base n l).2]) /\ Below w.heap.size w w' := by
 obtain ⟨A, cap, rfl, hA⟩ := h
 have rx := Row.new w 71 n.cl.toArray
 have rz := Row.new (w.alloc (.cells n.cl.toArray 71)) 71 zeroNd.cl.toArray
 rw [World.size_alloc] at rz
 obtain ⟨W1, hW1⟩ : ∃ W1, W1 = (w.alloc (.cells n.cl.toArray 71)).alloc (.cells #[.int .i64 0, .int .u64 0, .int .u64 0, .int .u64 0, .int .u64 0, .int .u64 0, .int .u64 0, .int .u64 0, .int .u64 0, .int .u64 0, .int .u64 0, .int .u64 0, .int .u64 0, .int .u64 0, .int .u64 0, .int .u64 0, .int .u64 0, .int .u64 0, .int .u64 0, .int .u64 0, .int .u64 0] 71) := ⟨_, rfl⟩
 have hb1 : Below w.heap.size w W1 := by rw [hW1]; exact low_and (alloc_low _ _) (alloc_low _ _)
 have r0 : NdAt W1 w.heap.size n := by rw [hW1]; exact rx.alloc _
 have r1 : NdAt W1 (w.heap.size + 1) zeroNd := by rw [hW1]; exact rz
 have hs1 : W1.heap.size = w.heap.size + 2 := by rw [hW1]; simp
 have HW1 := Lib.hid hW1
 have HB1 := Lib.hid hb1
 have R0 := Lib.hid r0
 have R1 := Lib.hid r1
 have HS1 := Lib.hid hs1
 have HBk := Lib.hid (fun W' => isBase_any hb W')
 obtain ⟨m, hm⟩ : ∃ m, m = l.length := ⟨_, rfl⟩
 rw [<- hm] at hl ⊢
 have HC := Lib.hid (show ∀ k, k < m -> ∃ g o, A = some ⟨g, o, none⟩ /\ ∀ W', Below w.heap.size w W' -> W'.cell? ⟨g, o + k * 2, none⟩ = some (.int .u64 (l.getD k (0, 0)).1) /\ W'.cell? ⟨g, o + k * 2 + 1, none⟩ = some (.int .u64 (l.getD k (0, 0)).2) from fun k hk => by
  obtain ⟨g, o, rfl, hc⟩ := hA (by omega)
  refine ⟨g, o, rfl, fun W' hb => ?_⟩
  obtain ⟨c1, c2⟩ := hc k _ (getD_ent (by omega))
  exact ⟨(hb.cell (p := ⟨g, o + k * 2, none⟩) (w.block_lt_of_cell? _ c1)).trans c1, (hb.cell (p := ⟨g, o + k * 2 + 1, none⟩) (w.block_lt_of_cell? _ c2)).trans c2⟩)
 have HD := Lib.hid (fun k n (hk : k < m) => apL_drop (base := base) (n := n) (l := l) (k := k) (by omega))
 have HF := Lib.hid (show l.drop m = [] by rw [hm]; exact List.drop_length)
 have HWf := Lib.hid (show ∀ k, k < m -> 0 <= (l.getD k (0, 0)).1 /\ (l.getD k (0, 0)).1 < 18446744073709551616 from fun k hk => hwf _ (by rw [List.getD_eq_getElem?_getD, List.getElem?_eq_getElem (by omega)]; exact List.getElem_mem _))
 have hP : applyR base n l = if bOk base = true then aftR (apL base n (l.drop 0)) else (zeroNd, 2) := rfl
 have hbo := bOk_iff base
 generalize applyR base n l = R at hP ⊢
 obtain ⟨c, hc⟩ : ∃ c, c = bOk base := ⟨_, rfl⟩
 rw [<- hc] at HBk hP hbo
 clear hW1 hb1 r0 r1 rx rz hs1 hA hm hc hwf
 cases c with
 | false =>
  have HR := Lib.hid (show R = (zeroNd, 2) by rw [hP]; rfl)
  clear hP hbo
  go_enter Tryz.func65, Tryz.ntmps65
  go_wp2_with (first
   | (rw [<- HW1.out])
   | (go_at_call 103; refine (HBk.out _).mono ?_; rintro e w' ⟨rfl, rfl⟩)
   | (refine wpList_store_row rfl _ _ _ rfl (w.heap.size + 1) zeroNd.cl rfl rfl R1.out rfl ndI (cl_one zeroNd) ?_))
  refine bodyPost_ret (results_node_tmp rfl _ _ (w.heap.size + 1) zeroNd rfl (row_setCells R1.out rfl)) rfl ⟨?_, setCells_low _ (Nat.le_succ _) HB1.out⟩
  rw [HR.out]
  rfl
 | true =>
  have hbse := hbo.1 rfl
  have hb2 : 0 < base /\ base <= 1099511627776 := ⟨hbse.2.1, hbse.2.2⟩
  rw [if_pos rfl] at hP
  have HPl := Lib.hid hP
  clear hP hbo hbse
  go_enter Tryz.func65, Tryz.ntmps65
  go_wp2_with (first
   | (rw [<- HW1.out])
   | (go_at_call 103; refine (HBk.out _).mono ?_; rintro e w' ⟨rfl, rfl⟩))
  go_loopw [16] (fun i wr => ∃ k : Nat, k <= m /\ i = .int .i64 (k : Int) /\ ∃ n' : Nd, apL base n (l.drop 0) = apL base n' (l.drop k) /\ NdAt wr w.heap.size n' /\ NdAt wr (w.heap.size + 1) zeroNd /\ Below w.heap.size w wr /\ w.heap.size + 2 <= wr.heap.size) (fun i _ => m - (intOf i).toNat)
  case atStart => exact ⟨0, by omega, rfl, n, rfl, R0.out, R1.out, HB1.out, Nat.le_of_eq HS1.out.symm⟩
  case round =>
   rename World => wr
   obtain ⟨k, hk, rfl, n', hap, h0, h1, hbl, hws⟩ := hrel
   have HAp := Lib.hid hap
   have H0 := Lib.hid h0
   have H1 := Lib.hid h1
   have HBl := Lib.hid hbl
   have HWS := Lib.hid hws
   clear hap h0 h1 hbl
   by_cases hlt : k < m
   ·obtain ⟨g, o, rfl, hcc⟩ := HC.out k hlt
    obtain ⟨c1, c2⟩ := hcc wr HBl.out
    have hki : (k : Int) < (m : Int) := by omega
    have hkb : k < 1000 := by omega
    have HDk := Lib.hid (HD.out k n' hlt)
    have hwk := HWf.out k hlt
    obtain ⟨⟨x, y⟩, hxy⟩ : ∃ e, e = l.getD k (0, 0) := ⟨_, rfl⟩
    rw [<- hxy] at c1 c2 HDk hwk
    dsimp only at c1 c2 HDk hwk
    have hsz0 : w.heap.size ≠ wr.heap.size := by omega
    have hsz1 : w.heap.size + 1 ≠ wr.heap.size := by omega
    have r0' : NdAt (wr.alloc (.cells #[.int .u64 x, .int .u64 y] 165)) w.heap.size n' := H0.out.alloc _
    have HR1' := Lib.hid (show NdAt (wr.alloc (.cells #[.int .u64 x, .int .u64 y] 165)) (w.heap.size + 1) zeroNd from H1.out.alloc _)
    have hwu : 0 <= IntKind.u64.wrap (x - base) /\ IntKind.u64.wrap (x - base) < 18446744073709551616 := by rw [IntKind.wrap_u64]; omega
    have HSet := Lib.hid (set_any r0' hwu y)
    rw [ap_shift hb2 hwk] at HSet
    have HBa := Lib.hid (low_and HBl.out (alloc_low wr (.cells #[.int .u64 x, .int .u64 y] 165)))
    obtain ⟨r, hr⟩ : ∃ r, r = ap base n' (x, y) := ⟨_, rfl⟩
    rw [<- hr] at HSet HDk
    clear hxy hcc r0' hr hwu hwk hsz0 hsz1
    cases r with
    | none =>
     have HRz := Lib.hid (show R = (zeroNd, 2) by rw [HPl.out, HAp.out, HDk.out]; rfl)
     go_wp2_with (first
      | (go_at_call 104; refine HSet.out.mono ?_; rintro e w3 ⟨rfl, rfl⟩)
      | (refine wpList_store_row rfl _ _ _ rfl (w.heap.size + 1) zeroNd.cl rfl rfl HR1'.out rfl ndI (cl_one zeroNd) ?_))
     refine bodyPost_ret (results_node_tmp rfl _ _ (w.heap.size + 1) zeroNd rfl (row_setCells HR1'.out rfl)) rfl ⟨?_, setCells_low _ (Nat.le_succ _) HBa.out⟩
     rw [HRz.out]
     rfl
    | some n2 =>
     go_wp2_with (first
      | (go_at_call 104; refine HSet.out.mono ?_; rintro e w3 ⟨rfl, i3, u3, rfl, hn3⟩; have HN3 := Lib.hid hn3; clear hn3))
     refine ⟨⟨k + 1, by omega, by go_num, n2, by rw [HAp.out, HDk.out], HN3.out, ?_, ?_, ?_⟩, by simp [intOf]; omega⟩
     ·exact Row.other HR1'.out (p := ⟨w.heap.size, i3, none⟩) (by simp) u3
     ·exact HBa.out.setCell (p := ⟨w.heap.size, i3, none⟩) (Nat.le_refl _) u3
     ·have := HWS.out; simp; omega
   ·obtain rfl : k = m := by omega
    have HRz := Lib.hid (show R = (n', 0) by rw [HPl.out, HAp.out, HF.out]; rfl)
    go_wp2_with (first
     | (refine wpList_load_mid rfl _ _ rfl w.heap.size 0 rfl n'.cl _ (ndR H0.out) Tryz.underlying71 rfl ndI ?_)
     | (refine wpList_store_row rfl _ _ _ rfl (w.heap.size + 1) n'.cl rfl rfl H1.out rfl ndI (cl_one n') ?_))
    refine bodyPost_ret (results_node_tmp rfl _ _ (w.heap.size + 1) n' rfl (row_setCells H1.out rfl)) rfl ⟨?_, setCells_low _ (Nat.le_succ _) HBl.out⟩
    rw [HRz.out]
    rfl
end Go.Proofs.YtkbklooocdfcfaaGreatDoor
