/- Texts of this claim, packed: N8It, N8Find, N8At, N8Get. -/
import Derived.Test.YtkbklooocdfcfaaGreatDoorPz20
import Derived.Test.YtkbklooocdfcfaaGreatDoorPz13
import Derived.RangeFuncFrom
import Derived.RangeFuncNested
import Derived.RangeFuncBound
import Derived.RangeFuncCalls
import Derived.RangeFuncLeaves
import Derived.RangeFuncBox
import Derived.Shelf.Abstract
import Derived.Shelf.RegionOpen
import Derived.WalkKit
import Derived.OwnWalkIn
import Derived.TacticsInMore
import Derived.LoopNIn
import Derived.LoopIn
import Derived.Maps.AppendAt
import Derived.Deep.RegionHeld3
set_option linter.unusedVariables false
set_option maxRecDepth 100000
set_option maxHeartbeats 6400000
namespace Go.Proofs.YtkbklooocdfcfaaGreatDoor
open Go.RowKit Go.Shelf
attribute [local go_sem] Oper.semAt_some
theorem wpListIn_load_mid {F : Fence} {n : Nat} {P : Program} {ops : Array Oper} {rest : List Oper} {op : Oper} {a : Act} {w : World} {Q : Exit -> Act -> World -> Prop} (hF : ∀ f, F.fn f) (hgd : op.guard = none) (ty : TypeId) (x : Operand) (ho : op.op = .load ty x)
  (b o : Nat) (hx : a.eval x = .pointer (some ⟨b, o, none⟩)) (cs : List Value) (d : TypeDesc) (hc : w.rangeAt b o cs)
  (hu : P.underlying ty = some d) (hd : d.isRow = true) (hi : (P.info? ty).map (·.size) = some cs.length)
  (h : wpListIn F n P ops Q rest (a.put op.dst (.agg cs.toArray)) w) : wpListIn F n P ops Q (op :: rest) a w :=
 wpListIn_plain hgd fun K hK => ⟨fun f _ => hF f, by
  rw [Oper.semAt_eq _ _ _ (fun c => by rw [ho]; exact fun e => by cases e)]
  unfold execOp
  simp only [ho, hx, Instr.loadAt, Instr.sureAddr, Sem.run_bind, Sem.run_pure, Result.andThen_ok, run_loadVar_mid w b o ty cs d hc hu hd hi]
  exact hK _ _ h⟩
def Kbn (bx : Nat) (A B : World) : Prop := B.heap[bx]? = A.heap[bx]?
def enc8N (n : Nd) (p : Nat) : Array Value := #[.int .i64 (p : Int), .agg #[.int .u64 (n.key p), .int .u64 (n.ptr p)]]
theorem drew_low (w : World) : Below w.heap.size w w.drew := ⟨rfl, rfl, rfl, Nat.le_refl _, fun _ _ => rfl⟩
theorem alloc_low (w : World) (o : Obj) : Below w.heap.size w (w.alloc o) := (Below.refl _ w).alloc (Nat.le_refl _) o
theorem low_and {w a b : World} (h : Below w.heap.size w a) (k : Below a.heap.size a b) : Below w.heap.size w b := h.trans (k.mono h.size)
abbrev EnS (wr : World) (bx i : Nat) (k x : Int) (W' : World) : Prop := W'.cell? ⟨bx, 5 + i, none⟩ = some (.int .u64 k) /\ W'.cell? ⟨bx, 13 + i, none⟩ = some (.int .u64 x) /\ Below wr.heap.size wr W'
theorem valid1_in (l bx : Nat) (n : Nd) (J : Nat -> List Nat -> World -> Prop) (Jx : List Nat -> World -> Prop) (hJa : ∀ q s A B, J q s A -> Below A.heap.size A B -> J q s B)
  (hY : ∀ q r pre x W, x < 8 -> J q pre W -> q <= r -> r < W.heap.size -> pre.length < 8 -> YieldAt Fence.wide 4 Tryz.prog l (enc8N n x) W fun e W' =>
   (e = .returned (.bool true) /\ (∃ q', q' <= W'.heap.size /\ J q' (pre ++ [x]) W') /\ W'.heap[bx]? = W.heap[bx]? /\ ∀ o : Obj, o.isCells = true -> W.heap[r]? = some o -> W'.heap[r]? = some o) \/ (e = .returned (.bool false) /\ Jx (pre ++ [x]) W'))
  (W : World) (hbx : NdAt W bx n) (h0 : ∃ q, q <= W.heap.size /\ J q [] W) :
  CallsIn Fence.wide 5 Tryz.prog 137 #[.func (.yield l) #[] #[], .pointer (some ⟨bx, 0, none⟩)] W fun e W' => (∃ v, e = .returned v) /\
   ((∃ ys, ys = n.vp /\ ∃ q, J q ys W') \/ (∃ pre, pre <+: n.vp /\ Jx pre W')) := by
 have HY := Lib.hid hY
 have H0 := Lib.hid h0
 have HJ := Lib.hid hJa
 have HR := Lib.hid hbx
 have HLn := Lib.hid (nlen_any n W)
 have c4 : W.cell? ⟨bx, 4, none⟩ = some (.int .u64 n.fi) := ndAt_at hbx 4
 clear hY h0 hbx hJa
 refine callsIn_of_wp Tryz.func137 rfl trivial ?_ rfl
 simp only [Tryz.ntmps137, List.size_toArray, List.length_cons, List.length_nil, Nat.reduceAdd, Nat.reduceSub, Array.replicate_succ, Array.replicate_zero, List.push_toArray, List.append_toArray, List.nil_append, List.cons_append]
 gi_wp2_with (first | (refine wpListIn_load_mid (fun _ => trivial) rfl _ _ rfl bx 0 rfl n.cl _ (ndR HR.out) Tryz.underlying71 rfl ndI ?_) | (refine ⟨trivial, ?_⟩; gi_at_call 83; refine (callsIn_wide.2 HLn.out).mono ?_; rintro e w' ⟨rfl, hb⟩))
 have HJ0 := Lib.hid (show ∃ q, q <= w'.heap.size /\ J q [] w' by obtain ⟨q, hq, h⟩ := H0.out; exact ⟨q, Nat.le_trans hq hb.size, HJ.out _ _ _ _ h hb⟩)
 have HR0 := Lib.hid (HR.out.below hb HR.out.lt)
 have h8 := n.len_le
 clear hb HR H0 HLn c4
 gi_loopw [3, 10] (fun u a wr => ∃ i : Nat, a = .int .i64 (i : Int) /\ u = .int .u64 (n.ahd i) /\ i <= n.len /\ (∃ q, q <= wr.heap.size /\ J q (n.vpTo i) wr) /\ NdAt wr bx n) (fun _ a _ => n.len - (intOf a).toNat)
 case atStart => exact ⟨0, rfl, rfl, by omega, HJ0.out, HR0.out⟩
 case round =>
  rename World => wr
  obtain ⟨i, rfl, rfl, hi, hJi, hbi⟩ := hrel
  have HJi := Lib.hid hJi
  have HRi := Lib.hid hbi
  clear hJi hbi HJ0 HR0
  by_cases hlt : i < n.len
  ·have hi8 : i < 8 := by omega
   have ck := ndAt_key HRi.out hi8
   have cp := ndAt_ptr HRi.out hi8
   have hid := Lib.hid (show n.ok i = (n.ptr i != n.ahd i) from rfl)
   have hsu := Lib.hid (n.ahd_succ i)
   obtain ⟨k, hk⟩ : ∃ k, k = n.key i := ⟨_, rfl⟩
   obtain ⟨x, hx⟩ : ∃ x, x = n.ptr i := ⟨_, rfl⟩
   obtain ⟨y, hy⟩ : ∃ y, y = n.ahd i := ⟨_, rfl⟩
   rw [<- hk] at ck
   rw [<- hx] at cp
   rw [<- hx, <- hy] at hid
   rw [<- hx] at hsu
   rw [<- hy]
   have HK := Lib.hid hk
   have HX := Lib.hid hx
   clear hk hx hy
   have hi8i : (i : Int) < 8 := by omega
   have STAY := Lib.hid fun W' (hb : Below wr.heap.size wr W') => And.intro ((hb.cell (p := ⟨bx, 5 + i, none⟩) (wr.block_lt_of_cell? _ ck)).trans ck) (And.intro ((hb.cell (p := ⟨bx, 13 + i, none⟩) (wr.block_lt_of_cell? _ cp)).trans cp) hb)
   clear ck cp
   gi_wp2
   refine wpIn_wide.2 ?_
   go_region_held3 (fun W' => W'.cell? ⟨bx, 5 + i, none⟩ = some (.int .u64 k) /\ W'.cell? ⟨bx, 13 + i, none⟩ = some (.int .u64 x) /\ Below wr.heap.size wr W')
    ((refine STAY.out _ ?_; repeat (first | exact Below.refl _ _ | exact EnS.low (bx := bx) (i := i) (k := k) (x := x) (by assumption) | refine low_and ?_ (drew_low _) | refine low_and ?_ (alloc_low _ _))))
    (fail)
   obtain ⟨WE, hWE⟩ : ∃ WE, WE = (wr.alloc (.cells #[.int .u64 k, .int .u64 x] 94)).drew := ⟨_, rfl⟩
   obtain ⟨r, hr⟩ : ∃ r, r = wr.heap.size := ⟨_, rfl⟩
   have hbE : Below wr.heap.size wr WE := by rw [hWE]; exact low_and (alloc_low _ _) (drew_low _)
   have hE : Row WE r 94 #[.int .u64 k, .int .u64 x] := by
    rw [hWE, hr]
    exact Row.new wr 94 #[.int .u64 k, .int .u64 x]
   have HJE := Lib.hid (show ∃ q, q <= r /\ J q (n.vpTo i) WE by obtain ⟨q, hq, h⟩ := HJi.out; exact ⟨q, by rw [hr]; exact hq, HJ.out _ _ _ _ h hbE⟩)
   have HRE := Lib.hid (HRi.out.below hbE HRi.out.lt)
   have e0 := hE.cell 0
   have e1 := hE.cell 1
   have hEl := hE.lt
   rw [<- hWE, <- hr]
   clear hWE hr hbE STAY HRi HJi
   simp only [List.getElem?_toArray, List.getElem?_cons_succ, List.getElem?_cons_zero] at e0 e1
   obtain hxy | hxy : x = y \/ x ≠ y := by omega
   ·subst hxy
    have hf : n.ok i = false := by rw [hid.out]; simp
    have HV := Lib.hid (n.vpTo_no hf)
    clear hf hid
    gi_wp2
    refine ⟨(fun f hf => by cases hf), ?_⟩
    gi_wp2
    exact ⟨⟨i + 1, by go_num, by rw [hsu.out], by omega, by obtain ⟨q, hq, h⟩ := HJE.out; rw [HV.out]; exact ⟨q, Nat.le_trans hq (Nat.le_of_lt hEl), h⟩, HRE.out⟩, by simp [intOf]; omega⟩
   ·have ht : n.ok i = true := by rw [hid.out]; simpa using hxy
    have HV := Lib.hid (n.vpTo_yes ht)
    have HE := Lib.hid hE
    have hsh : (Value.agg #[Value.int .u64 k, .int .u64 x]) = .agg #[.int .u64 (n.key i), .int .u64 (n.ptr i)] := by rw [HK.out, HX.out]
    have hYY := Lib.hid (show YieldAt Fence.wide 4 Tryz.prog l #[.int .i64 (i : Int), .agg #[.int .u64 k, .int .u64 x]] WE fun e W' =>
      (e = .returned (.bool true) /\ (∃ q', q' <= W'.heap.size /\ J q' (n.vpTo (i + 1)) W') /\ W'.heap[bx]? = WE.heap[bx]? /\ ∀ o : Obj, o.isCells = true -> WE.heap[r]? = some o -> W'.heap[r]? = some o) \/ (e = .returned (.bool false) /\ Jx (n.vpTo (i + 1)) W') by
     obtain ⟨q, hq, h⟩ := HJE.out
     rw [hsh, HV.out]
     exact HY.out q r _ i WE hi8 h hq hE.lt (Nat.lt_of_le_of_lt (n.vpTo_len i) (by omega)))
    clear ht hid hsh hE
    obtain ⟨fn, tmps, assign, body, hy, hR⟩ := hYY.out
    clear hYY
    have hne : (x != y) = true := by simpa using hxy
    gi_wp2
    refine hR.mono ?_
    rintro e W3 (⟨rfl, hJ3, hb3, hr3⟩ | ⟨rfl, hJx⟩)
    ·have hE3 : Row W3 r 94 #[.int .u64 k, .int .u64 x] := hr3 _ rfl HE.out
     have HR3 := Lib.hid (show NdAt W3 bx n from hb3.trans HRE.out)
     have HJ3 := Lib.hid hJ3
     have e0 := hE3.cell 0
     have e1 := hE3.cell 1
     simp only [List.getElem?_toArray, List.getElem?_cons_succ, List.getElem?_cons_zero] at e0 e1
     clear hJ3 hb3 hr3 hR hy hE3 HRE HE HJE
     gi_wp2
     exact ⟨⟨i + 1, by go_num, by rw [hsu.out], by omega, HJ3.out, HR3.out⟩, by simp [intOf]; omega⟩
    ·have HJx := Lib.hid hJx
     clear hJx hR hy HRE HE HJE
     gi_wp2
     refine bodyPost_ret (results_none rfl _ _ _) rfl ?_
     exact ⟨⟨_, rfl⟩, .inr ⟨_, n.vpTo_pre (by omega), HJx.out⟩⟩
  ·obtain rfl : i = n.len := by omega
   gi_wp2
   go_end0
   obtain ⟨q, _, hJ⟩ := HJi.out
   exact ⟨⟨_, rfl⟩, .inl ⟨_, rfl, q, hJ⟩⟩
theorem valid1_seq {bx : Nat} {n : Nd} {w : World} (h : NdAt w bx n) :
  SeqQ Fence.wide 5 Tryz.prog 137 #[.pointer (some ⟨bx, 0, none⟩)] (enc8N n) (fun x => x < 8) bx (fun ys => ys = n.vp) (fun pre => pre <+: n.vp) 8 w :=
 fun l J Jx W hW hJa hY h0 => valid1_in l bx n J Jx hJa hY W (h.below hW h.lt) h0
theorem valid_any (n : Nd) (w : World) : Calls Tryz.prog 108 #[n.V] w fun e w' => e = .returned (.func (.func 137) #[] #[.pointer (some ⟨w.heap.size, 0, none⟩)]) /\ w' = w.alloc (.cells n.cl.toArray 71) := by
 go_enter Tryz.func108, Tryz.ntmps108
 go_wp2
 go_ret
 exact ⟨rfl, rfl⟩
def Nd.find (n : Nd) (key : Int) : Option Nat := n.vp.find? (fun p => n.key p == key)
def atL (n : Nd) (key : Int) (l : List Nat) : Nat := l.foldl (fun a p => if n.key p <= key then p + 1 else a) 0
def Nd.at (n : Nd) (key : Int) : Nat := atL n key n.vp
end Go.Proofs.YtkbklooocdfcfaaGreatDoor
namespace Go.Proofs.YtkbklooocdfcfaaGreatDoor
open Go.RowKit Go.Shelf
end Go.Proofs.YtkbklooocdfcfaaGreatDoor
