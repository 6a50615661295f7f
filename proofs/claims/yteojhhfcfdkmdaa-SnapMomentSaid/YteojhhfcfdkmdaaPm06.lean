/- Texts of this claim, packed: N8It, N8Find, N8At, N8Get. -/
import Derived.Test.YteojhhfcfdkmdaaPm03
import Derived.Test.YteojhhfcfdkmdaaPm04
import Derived.RangeFuncFrom
import Derived.RangeFuncNested
import Derived.RangeFuncBound
import Derived.RangeFuncCalls
import Derived.RangeFuncLeaves
import Derived.RangeFuncBox
import Derived.Shelf.Abstract
import Derived.Shelf.RegionOpen
import Derived.WalkKit
import Derived.OwnWalkIn
import Derived.TacticsInMore
import Derived.LoopNIn
import Derived.LoopIn
import Derived.Maps.AppendAt
import Derived.Deep.RegionHeld3
set_option linter.unusedSimpArgs false
set_option linter.unusedVariables false
/- The iterator over a node's valid entries: it tells each with its place, in order, till it is told to stop; of any node; without conditions. -/
namespace Go.Proofs.Yteojhhfcfdkmdaa
open Go.RowKit Go.Shelf
set_option linter.unusedVariables false
attribute [local go_sem] Oper.semAt_some

/-- A whole variable is read, inside an iterator or a round. -/
theorem wpListIn_load_mid {F : Fence} {n : Nat} {P : Program} {ops : Array Oper} {rest : List Oper} {op : Oper} {a : Act} {w : World} {Q : Exit → Act → World → Prop} (hF : ∀ f, F.fn f) (hgd : op.guard = none) (ty : TypeId) (x : Operand) (ho : op.op = .load ty x)
    (b o : Nat) (hx : a.eval x = .pointer (some ⟨b, o, none⟩)) (cs : List Value) (d : TypeDesc) (hc : w.rangeAt b o cs)
    (hu : P.underlying ty = some d) (hd : d.isRow = true) (hi : (P.info? ty).map (·.size) = some cs.length)
    (h : wpListIn F n P ops Q rest (a.put op.dst (.agg cs.toArray)) w) : wpListIn F n P ops Q (op :: rest) a w :=
  wpListIn_plain hgd fun K hK => ⟨fun f _ => hF f, by
    rw [Oper.semAt_eq _ _ _ (fun c => by rw [ho]; exact fun e => by cases e)]
    unfold execOp
    simp only [ho, hx, Instr.loadAt, Instr.sureAddr, Sem.run_bind, Sem.run_pure, Result.andThen_ok, run_loadVar_mid w b o ty cs d hc hu hd hi]
    exact hK _ _ h⟩
/-- The block bx stays as it is. -/
def Kbn (bx : Nat) (A B : World) : Prop := B.heap[bx]? = A.heap[bx]?
theorem Kbn.t {bx : Nat} {A B C : World} (h : Kbn bx A B) (k : Kbn bx B C) : Kbn bx A C := k.trans h
theorem Kbn.refl (bx : Nat) (A : World) : Kbn bx A A := rfl
theorem Kbn.b {bx : Nat} {w : World} (hb : bx < w.heap.size) (W : World) (l : Nat) (o o' : Obj) (hl : w.heap.size ≤ l) (h : W.heap[l]? = some o) (_ : o.isCells = false) (_ : o.isWalk = false) : Kbn bx W (W.putObj l o') :=
  (belowK_b (n₀ := w.heap.size) (Nat.le_refl _) W l o o' hl h ‹_› ‹_›).block bx hb
theorem Kbn.set {bx : Nat} {W : World} {p : Addr} (hp : bx ≠ p.block) (u : Value) : Kbn bx W (W.setCell p u) := heap_setCell_other _ _ _ _ hp
theorem Kbn.low {bx B : Nat} {A W : World} (h : Below B A W) (hb : bx < B) : Kbn bx A W := h.block bx hb
theorem Kbn.row {bx : Nat} {A B : World} (h : Kbn bx A B) {t : TypeId} {cs : Array Value} (hr : Row A bx t cs) : Row B bx t cs := Eq.trans h hr
/-- A valid entry, as the iterator tells it. -/
def enc8N (n : Nd) (p : Nat) : Array Value := #[.int .i64 (p : Int), .agg #[.int .u64 (n.key p), .int .u64 (n.ptr p)]]
theorem drew_low (w : World) : Below w.heap.size w w.drew := ⟨rfl, rfl, rfl, Nat.le_refl _, fun _ _ => rfl⟩
theorem alloc_low (w : World) (o : Obj) : Below w.heap.size w (w.alloc o) := (Below.refl _ w).alloc (Nat.le_refl _) o
theorem low_and {w a b : World} (h : Below w.heap.size w a) (k : Below a.heap.size a b) : Below w.heap.size w b := h.trans (k.mono h.size)
abbrev EnS (wr : World) (bx i : Nat) (k x : Int) (W' : World) : Prop := W'.cell? ⟨bx, 5 + i, none⟩ = some (.int .u64 k) ∧ W'.cell? ⟨bx, 13 + i, none⟩ = some (.int .u64 x) ∧ Below wr.heap.size wr W'
theorem EnS.low {wr : World} {bx i : Nat} {k x : Int} {W' : World} (h : EnS wr bx i k x W') : Below wr.heap.size wr W' := h.2.2
set_option maxRecDepth 100000 in
set_option maxHeartbeats 1600000 in
theorem valid1_in (l bx : Nat) (n : Nd) (J : Nat → List Nat → World → Prop) (Jx : List Nat → World → Prop) (hJa : ∀ q s A B, J q s A → Below A.heap.size A B → J q s B)
    (hY : ∀ q r pre x W, x < 8 → J q pre W → q ≤ r → r < W.heap.size → pre.length < 8 → YieldAt Fence.wide 4 Try.prog l (enc8N n x) W fun e W' =>
      (e = .returned (.bool true) ∧ (∃ q', q' ≤ W'.heap.size ∧ J q' (pre ++ [x]) W') ∧ W'.heap[bx]? = W.heap[bx]? ∧ ∀ o : Obj, o.isCells = true → W.heap[r]? = some o → W'.heap[r]? = some o) ∨ (e = .returned (.bool false) ∧ Jx (pre ++ [x]) W'))
    (W : World) (hbx : NdAt W bx n) (h0 : ∃ q, q ≤ W.heap.size ∧ J q [] W) :
    CallsIn Fence.wide 5 Try.prog 87 #[.func (.yield l) #[] #[], .pointer (some ⟨bx, 0, none⟩)] W fun e W' => (∃ v, e = .returned v) ∧
      ((∃ ys, ys = n.vp ∧ ∃ q, J q ys W') ∨ (∃ pre, pre <+: n.vp ∧ Jx pre W')) := by
  have HY := Lib.hid hY
  have H0 := Lib.hid h0
  have HJ := Lib.hid hJa
  have HR := Lib.hid hbx
  have HLn := Lib.hid (nlen_any n W)
  have c4 : W.cell? ⟨bx, 4, none⟩ = some (.int .u64 n.fi) := ndAt_at hbx 4
  clear hY h0 hbx hJa
  refine callsIn_of_wp Try.func87 rfl trivial ?_ rfl
  simp only [Try.ntmps87, List.size_toArray, List.length_cons, List.length_nil, Nat.reduceAdd, Nat.reduceSub, Array.replicate_succ, Array.replicate_zero, List.push_toArray, List.append_toArray, List.nil_append, List.cons_append]
  gi_wp2_with (first | (refine wpListIn_load_mid (fun _ => trivial) rfl _ _ rfl bx 0 rfl n.cl _ (ndR HR.out) Try.underlying27 rfl ndI ?_) | (refine ⟨trivial, ?_⟩; gi_at_call 60; refine (callsIn_wide.2 HLn.out).mono ?_; rintro e w' ⟨rfl, hb⟩))
  have HJ0 := Lib.hid (show ∃ q, q ≤ w'.heap.size ∧ J q [] w' by obtain ⟨q, hq, h⟩ := H0.out; exact ⟨q, Nat.le_trans hq hb.size, HJ.out _ _ _ _ h hb⟩)
  have HR0 := Lib.hid (HR.out.below hb HR.out.lt)
  have h8 := n.len_le
  clear hb HR H0 HLn c4
  gi_loopw [3, 10] (fun u a wr => ∃ i : Nat, a = .int .i64 (i : Int) ∧ u = .int .u64 (n.ahd i) ∧ i ≤ n.len ∧ (∃ q, q ≤ wr.heap.size ∧ J q (n.vpTo i) wr) ∧ NdAt wr bx n) (fun _ a _ => n.len - (intOf a).toNat)
  case atStart => exact ⟨0, rfl, rfl, by omega, HJ0.out, HR0.out⟩
  case round =>
    rename World => wr
    obtain ⟨i, rfl, rfl, hi, hJi, hbi⟩ := hrel
    have HJi := Lib.hid hJi
    have HRi := Lib.hid hbi
    clear hJi hbi HJ0 HR0
    by_cases hlt : i < n.len
    · have hi8 : i < 8 := by omega
      have ck := ndAt_key HRi.out hi8
      have cp := ndAt_ptr HRi.out hi8
      have hid := Lib.hid (show n.ok i = (n.ptr i != n.ahd i) from rfl)
      have hsu := Lib.hid (n.ahd_succ i)
      obtain ⟨k, hk⟩ : ∃ k, k = n.key i := ⟨_, rfl⟩
      obtain ⟨x, hx⟩ : ∃ x, x = n.ptr i := ⟨_, rfl⟩
      obtain ⟨y, hy⟩ : ∃ y, y = n.ahd i := ⟨_, rfl⟩
      rw [← hk] at ck
      rw [← hx] at cp
      rw [← hx, ← hy] at hid
      rw [← hx] at hsu
      rw [← hy]
      have HK := Lib.hid hk
      have HX := Lib.hid hx
      clear hk hx hy
      have hi8i : (i : Int) < 8 := by omega
      have STAY := Lib.hid fun W' (hb : Below wr.heap.size wr W') => And.intro ((hb.cell (p := ⟨bx, 5 + i, none⟩) (wr.block_lt_of_cell? _ ck)).trans ck) (And.intro ((hb.cell (p := ⟨bx, 13 + i, none⟩) (wr.block_lt_of_cell? _ cp)).trans cp) hb)
      clear ck cp
      gi_wp2
      refine wpIn_wide.2 ?_
      go_region_held3 (fun W' => W'.cell? ⟨bx, 5 + i, none⟩ = some (.int .u64 k) ∧ W'.cell? ⟨bx, 13 + i, none⟩ = some (.int .u64 x) ∧ Below wr.heap.size wr W')
        ((refine STAY.out _ ?_; repeat (first | exact Below.refl _ _ | exact EnS.low (bx := bx) (i := i) (k := k) (x := x) (by assumption) | refine low_and ?_ (drew_low _) | refine low_and ?_ (alloc_low _ _))))
        (fail)
      obtain ⟨WE, hWE⟩ : ∃ WE, WE = (wr.alloc (.cells #[.int .u64 k, .int .u64 x] 89)).drew := ⟨_, rfl⟩
      obtain ⟨r, hr⟩ : ∃ r, r = wr.heap.size := ⟨_, rfl⟩
      have hbE : Below wr.heap.size wr WE := by rw [hWE]; exact low_and (alloc_low _ _) (drew_low _)
      have hE : Row WE r 89 #[.int .u64 k, .int .u64 x] := by
        rw [hWE, hr]
        exact Row.new wr 89 #[.int .u64 k, .int .u64 x]
      have HJE := Lib.hid (show ∃ q, q ≤ r ∧ J q (n.vpTo i) WE by obtain ⟨q, hq, h⟩ := HJi.out; exact ⟨q, by rw [hr]; exact hq, HJ.out _ _ _ _ h hbE⟩)
      have HRE := Lib.hid (HRi.out.below hbE HRi.out.lt)
      have e0 := hE.cell 0
      have e1 := hE.cell 1
      have hEl := hE.lt
      rw [← hWE, ← hr]
      clear hWE hr hbE STAY HRi HJi
      simp only [List.getElem?_toArray, List.getElem?_cons_succ, List.getElem?_cons_zero] at e0 e1
      obtain hxy | hxy : x = y ∨ x ≠ y := by omega
      · subst hxy
        have hf : n.ok i = false := by rw [hid.out]; simp
        have HV := Lib.hid (n.vpTo_no hf)
        clear hf hid
        gi_wp2
        refine ⟨(fun f hf => by cases hf), ?_⟩
        gi_wp2
        exact ⟨⟨i + 1, by go_num, by rw [hsu.out], by omega, by obtain ⟨q, hq, h⟩ := HJE.out; rw [HV.out]; exact ⟨q, Nat.le_trans hq (Nat.le_of_lt hEl), h⟩, HRE.out⟩, by simp [intOf]; omega⟩
      · have ht : n.ok i = true := by rw [hid.out]; simpa using hxy
        have HV := Lib.hid (n.vpTo_yes ht)
        have HE := Lib.hid hE
        have hsh : (Value.agg #[Value.int .u64 k, .int .u64 x]) = .agg #[.int .u64 (n.key i), .int .u64 (n.ptr i)] := by rw [HK.out, HX.out]
        have hYY := Lib.hid (show YieldAt Fence.wide 4 Try.prog l #[.int .i64 (i : Int), .agg #[.int .u64 k, .int .u64 x]] WE fun e W' =>
            (e = .returned (.bool true) ∧ (∃ q', q' ≤ W'.heap.size ∧ J q' (n.vpTo (i + 1)) W') ∧ W'.heap[bx]? = WE.heap[bx]? ∧ ∀ o : Obj, o.isCells = true → WE.heap[r]? = some o → W'.heap[r]? = some o) ∨ (e = .returned (.bool false) ∧ Jx (n.vpTo (i + 1)) W') by
          obtain ⟨q, hq, h⟩ := HJE.out
          rw [hsh, HV.out]
          exact HY.out q r _ i WE hi8 h hq hE.lt (Nat.lt_of_le_of_lt (n.vpTo_len i) (by omega)))
        clear ht hid hsh hE
        obtain ⟨fn, tmps, assign, body, hy, hR⟩ := hYY.out
        clear hYY
        have hne : (x != y) = true := by simpa using hxy
        gi_wp2
        refine hR.mono ?_
        rintro e W3 (⟨rfl, hJ3, hb3, hr3⟩ | ⟨rfl, hJx⟩)
        · have hE3 : Row W3 r 89 #[.int .u64 k, .int .u64 x] := hr3 _ rfl HE.out
          have HR3 := Lib.hid (show NdAt W3 bx n from hb3.trans HRE.out)
          have HJ3 := Lib.hid hJ3
          have e0 := hE3.cell 0
          have e1 := hE3.cell 1
          simp only [List.getElem?_toArray, List.getElem?_cons_succ, List.getElem?_cons_zero] at e0 e1
          clear hJ3 hb3 hr3 hR hy hE3 HRE HE HJE
          gi_wp2
          exact ⟨⟨i + 1, by go_num, by rw [hsu.out], by omega, HJ3.out, HR3.out⟩, by simp [intOf]; omega⟩
        · have HJx := Lib.hid hJx
          clear hJx hR hy HRE HE HJE
          gi_wp2
          refine bodyPost_ret (results_none rfl _ _ _) rfl ?_
          exact ⟨⟨_, rfl⟩, .inr ⟨_, n.vpTo_pre (by omega), HJx.out⟩⟩
    · obtain rfl : i = n.len := by omega
      gi_wp2
      go_end0
      obtain ⟨q, _, hJ⟩ := HJi.out
      exact ⟨⟨_, rfl⟩, .inl ⟨_, rfl, q, hJ⟩⟩
/-- The iterator, as its callers take it. -/
theorem valid1_seq {bx : Nat} {n : Nd} {w : World} (h : NdAt w bx n) :
    SeqQ Fence.wide 5 Try.prog 87 #[.pointer (some ⟨bx, 0, none⟩)] (enc8N n) (fun x => x < 8) bx (fun ys => ys = n.vp) (fun pre => pre <+: n.vp) 8 w :=
  fun l J Jx W hW hJa hY h0 => valid1_in l bx n J Jx hJa hY W (h.below hW h.lt) h0
theorem valid_any (n : Nd) (w : World) : Calls Try.prog 83 #[n.V] w fun e w' => e = .returned (.func (.func 87) #[] #[.pointer (some ⟨w.heap.size, 0, none⟩)]) ∧ w' = w.alloc (.cells n.cl.toArray 27) := by
  go_enter Try.func83, Try.ntmps83
  go_wp2
  go_ret
  exact ⟨rfl, rfl⟩
end Go.Proofs.Yteojhhfcfdkmdaa
/- Find and At: where a key is, and where it goes; of any node, any key; without conditions. -/
namespace Go.Proofs.Yteojhhfcfdkmdaa
open Go.RowKit Go.Shelf
set_option linter.unusedVariables false
attribute [local go_sem] Oper.semAt_some

theorem find1_any (k p key : Int) (bk : Nat) (w : World) (hk : w.cell? ⟨bk, 0, none⟩ = some (.int .u64 key)) :
    Calls Try.prog 80 #[.agg #[.int .u64 k, .int .u64 p], .pointer (some ⟨bk, 0, none⟩)] w fun e w' => e = .returned (.bool (k == key)) ∧ Below w.heap.size w w' := by
  have hk2 : ∀ o, (w.alloc o).cell? ⟨bk, 0, none⟩ = some (.int .u64 key) := fun o => ((alloc_low w o).cell (p := ⟨bk, 0, none⟩) (w.block_lt_of_cell? _ hk)).trans hk
  go_enter Try.func80, Try.ntmps80
  go_wp2
  go_ret
  exact ⟨rfl, alloc_low _ _⟩
theorem at1_any (k p key : Int) (bk : Nat) (w : World) (hk : w.cell? ⟨bk, 0, none⟩ = some (.int .u64 key)) :
    Calls Try.prog 82 #[.agg #[.int .u64 k, .int .u64 p], .pointer (some ⟨bk, 0, none⟩)] w fun e w' => e = .returned (.bool (decide (k ≤ key))) ∧ Below w.heap.size w w' := by
  have hk2 : ∀ o, (w.alloc o).cell? ⟨bk, 0, none⟩ = some (.int .u64 key) := fun o => ((alloc_low w o).cell (p := ⟨bk, 0, none⟩) (w.block_lt_of_cell? _ hk)).trans hk
  go_enter Try.func82, Try.ntmps82
  go_wp2
  go_ret
  exact ⟨rfl, alloc_low _ _⟩
/-- The first valid place with a key. -/
def Nd.find (n : Nd) (key : Int) : Option Nat := n.vp.find? (fun p => n.key p == key)
def optI (r : Option Nat) : Int := match r with | some x => (x : Int) | none => 0
theorem find_some {n : Nd} {key : Int} {q : List Nat} {x : Nat} (hp : q ++ [x] <+: n.vp) (hx : n.key x = key) (hq : ∀ y ∈ q, n.key y ≠ key) : n.find key = some x := by
  obtain ⟨r, hr⟩ := hp
  unfold Nd.find
  rw [← hr, List.find?_append, List.find?_append, List.find?_eq_none.2 (fun y hy => by simpa using hq y hy)]
  simp [hx]
theorem nfind_none {n : Nd} {key : Int} (hq : ∀ y ∈ n.vp, n.key y ≠ key) : n.find key = none :=
  List.find?_eq_none.2 (fun y hy => by simpa using hq y hy)
set_option maxRecDepth 100000 in
set_option maxHeartbeats 4000000 in
theorem findF_any (n : Nd) (key : Int) (bk : Nat) (w : World) (hk : w.cell? ⟨bk, 0, none⟩ = some (.int .u64 key)) :
    Calls Try.prog 79 #[n.V, .func (.func 80) #[] #[.pointer (some ⟨bk, 0, none⟩)]] w fun e W' => e = .returned (.tuple #[.int .i64 (optI (n.find key)), .bool (n.find key).isSome]) ∧ Below w.heap.size w W' := by
  obtain ⟨Wx, hWx⟩ : ∃ Wx, Wx = (((w.alloc (.cells n.cl.toArray 27)).alloc (.cells #[.func (.func 80) #[] #[.pointer (some ⟨bk, 0, none⟩)]] 137)).alloc (.cells #[.int .i64 0] 3)).alloc (.cells #[.bool false] 4) := ⟨_, rfl⟩
  have hsx : Wx.heap.size = w.heap.size + 4 := by rw [hWx]; simp
  have hbx : Below w.heap.size w Wx := by rw [hWx]; exact low_and (low_and (low_and (alloc_low _ _) (alloc_low _ _)) (alloc_low _ _)) (alloc_low _ _)
  have r0 : NdAt Wx w.heap.size n := by rw [hWx]; exact (((Row.new _ _ _).alloc _).alloc _).alloc _
  have r1 : Row Wx (w.heap.size + 1) 137 #[.func (.func 80) #[] #[.pointer (some ⟨bk, 0, none⟩)]] := by
    rw [hWx]
    have := Row.new (w.alloc (.cells n.cl.toArray 27)) 137 #[.func (.func 80) #[] #[.pointer (some ⟨bk, 0, none⟩)]]
    simp only [World.size_alloc] at this
    exact (this.alloc _).alloc _
  have r2 : Row Wx (w.heap.size + 1 + 1) 3 #[.int .i64 0] := by
    rw [hWx]
    have := Row.new ((w.alloc (.cells n.cl.toArray 27)).alloc (.cells #[.func (.func 80) #[] #[.pointer (some ⟨bk, 0, none⟩)]] 137)) 3 #[.int .i64 0]
    simp only [World.size_alloc] at this
    exact this.alloc _
  have r3 : Row Wx (w.heap.size + 1 + 1 + 1) 4 #[.bool false] := by
    rw [hWx]
    have := Row.new (((w.alloc (.cells n.cl.toArray 27)).alloc (.cells #[.func (.func 80) #[] #[.pointer (some ⟨bk, 0, none⟩)]] 137)).alloc (.cells #[.int .i64 0] 3)) 4 #[.bool false]
    simpa only [World.size_alloc] using this
  have kx : Wx.cell? ⟨bk, 0, none⟩ = some (.int .u64 key) := (hbx.cell (p := ⟨bk, 0, none⟩) (w.block_lt_of_cell? _ hk)).trans hk
  have HWx := Lib.hid hWx
  have HR0 := Lib.hid r0
  clear hWx r0
  refine (callsIn_wide (n := 6)).1 ?_
  refine callsIn_of_wp_marks Try.func79 rfl trivial ?_ rfl
  simp only [Try.ntmps79, List.size_toArray, List.length_cons, List.length_nil, Nat.reduceAdd, Nat.reduceSub, Array.replicate_succ, Array.replicate_zero, List.push_toArray, List.append_toArray, List.nil_append, List.cons_append]
  gi_wp2_with (first | (rw [← HWx.out]; refine wpListIn_load_mid (fun _ => trivial) rfl _ _ rfl w.heap.size 0 rfl n.cl _ (ndR HR0.out) Try.underlying27 rfl ndI ?_) | (refine ⟨trivial, ?_⟩; gi_at_call 83; refine (callsIn_wide.2 (valid_any n _)).mono ?_; rintro e w' ⟨rfl, rfl⟩))
  obtain ⟨W0, hW0⟩ : ∃ W0, W0 = Wx.alloc (.cells n.cl.toArray 27) := ⟨_, rfl⟩
  have h4 : NdAt W0 (w.heap.size + 4) n := by
    rw [hW0]
    have := Row.new Wx 27 n.cl.toArray
    rwa [hsx] at this
  have hb0 : Below Wx.heap.size Wx W0 := by rw [hW0]; exact alloc_low _ _
  have hs0 : W0.heap.size = w.heap.size + 5 := by rw [hW0]; simp [hsx]
  have f1 := Row.below r1 hb0 r1.lt
  have f2 := Row.below r2 hb0 r2.lt
  have f3 := Row.below r3 hb0 r3.lt
  have fk : W0.cell? ⟨bk, 0, none⟩ = some (.int .u64 key) := (hb0.cell (p := ⟨bk, 0, none⟩) (Wx.block_lt_of_cell? _ kx)).trans kx
  have hbW : Below w.heap.size w W0 := low_and hbx hb0
  rw [← hW0]
  have F1 := Lib.hid f1
  have F2 := Lib.hid f2
  have F3 := Lib.hid f3
  have FK := Lib.hid fk
  have FB := Lib.hid hbW
  clear hW0 r1 r2 r3 kx hb0 hbx HWx HR0 f1 f2 f3 fk hbW hsx hk
  refine range_Q rfl (by omega) (gf := 87) (lb := #[.pointer (some ⟨w.heap.size + 4, 0, none⟩)]) rfl trivial (enters_of Try.func87 (by kernel_rfl) rfl) (bx := w.heap.size + 4) (by omega) (valid1_seq h4) (fun _ => rfl)
    (fun q pre W => (∀ y ∈ pre, n.key y ≠ key) ∧ Below W0.heap.size W0 W)
    (fun pre W => ∃ (q : List Nat) (x : Nat), pre = q ++ [x] ∧ n.key x = key ∧ (∀ y ∈ q, n.key y ≠ key) ∧ W.cell? ⟨w.heap.size + 1 + 1, 0, none⟩ = some (.int .i64 (x : Int)) ∧ W.cell? ⟨w.heap.size + 1 + 1 + 1, 0, none⟩ = some (.bool true) ∧ Below w.heap.size w W)
    (fun q s A B row hs hg hr => ⟨hs.1, hs.2.grown hg hs.2.size (fun k e => (hr k e).1)⟩)
    (fun s A B row hs hg hr => by
      obtain ⟨q, x, a1, a2, a3, a4, a5, a6⟩ := hs
      exact ⟨q, x, a1, a2, a3, cell_kept a4 hg (fun r e => (hr r e).2), cell_kept a5 hg (fun r e => (hr r e).2), a6.grown hg a6.size (fun k e => by have := (hr k e).1; omega)⟩)
    ⟨by simp, Below.refl _ _⟩
    (fun x V => { tmps := #[n.V, .func (.func 80) #[] #[.pointer (some ⟨bk, 0, none⟩)], .pointer (some ⟨w.heap.size, 0, none⟩), .pointer (some ⟨w.heap.size + 1, 0, none⟩), .pointer (some ⟨w.heap.size + 1 + 1, 0, none⟩), .pointer (some ⟨w.heap.size + 1 + 1 + 1, 0, none⟩), .int .i64 (x : Int), .pointer (some ⟨V.heap.size, 0, none⟩), .agg n.cl.toArray, .func (.func 87) #[] #[.pointer (some ⟨w.heap.size + 4, 0, none⟩)], .int .i64 (x : Int), .agg #[.int .u64 (n.key x), .int .u64 (n.ptr x)], undef, undef, undef, undef], defers := [] })
    (fun x V => V.alloc (.cells #[.int .u64 (n.key x), .int .u64 (n.ptr x)] 89)) (fun x V => alloc_low _ _) ?assign ?body ?done ?stop
  case assign =>
    intro l x W K hK
    dsimp only [enc8N]
    gi_wp2
    exact hK
  case body =>
    rintro l q r pre x V W hx8 ⟨hp, hB⟩ hqr hrV hsz hcells hlen
    have hE : Row W V.heap.size 89 #[.int .u64 (n.key x), .int .u64 (n.ptr x)] := hcells _ _ rfl (Row.new V 89 _)
    obtain ⟨vs, hvs⟩ : ∃ vs, vs = V.heap.size := ⟨_, rfl⟩
    rw [← hvs] at hE hrV
    simp only [World.size_alloc] at hsz
    rw [← hvs] at hsz
    rw [← hvs]
    have e0 := hE.cell 0
    have e1 := hE.cell 1
    simp only [List.getElem?_toArray, List.getElem?_cons_succ, List.getElem?_cons_zero] at e0 e1
    have g1 := (Row.below F1.out hB F1.out.lt).cell 0
    simp only [List.getElem?_toArray, List.getElem?_cons_zero] at g1
    have g2 := Row.below F2.out hB F2.out.lt
    have g3 := Row.below F3.out hB F3.out.lt
    have gk : W.cell? ⟨bk, 0, none⟩ = some (.int .u64 key) := (hB.cell (p := ⟨bk, 0, none⟩) (W0.block_lt_of_cell? _ FK.out)).trans FK.out
    obtain ⟨k, hk⟩ : ∃ k, k = n.key x := ⟨_, rfl⟩
    obtain ⟨y, hy⟩ : ∃ y, y = n.ptr x := ⟨_, rfl⟩
    rw [← hk, ← hy] at hE
    rw [← hk] at e0
    rw [← hy] at e1
    rw [← hk, ← hy]
    have HF := find1_any k y key bk W gk
    have HE := Lib.hid hE
    have HK := Lib.hid hk
    have HB := Lib.hid hB
    have HP := Lib.hid hp
    have G2 := Lib.hid g2
    have G3 := Lib.hid g3
    have hWs : w.heap.size + 5 ≤ W.heap.size := by have := hB.size; omega
    clear hvs hcells hE hk hy hB g2 g3 gk h4 hp
    have post : ∀ w' : World, Below W.heap.size W w' → Row w' (w.heap.size + 1 + 1) 3 #[.int .i64 0] ∧ Row w' (w.heap.size + 1 + 1 + 1) 4 #[.bool false] ∧ Below w.heap.size w w' := fun w' hb =>
      ⟨Row.below G2.out hb G2.out.lt, Row.below G3.out hb G3.out.lt, low_and (FB.out.trans (HB.out.mono (show w.heap.size ≤ W0.heap.size by omega))) (hb.mono (Nat.le_refl _))⟩
    have POST := Lib.hid post
    clear post
    obtain rfl | hne : k = key ∨ k ≠ key := by omega
    · rw [show (k == k) = true by simp] at HF
      have HF := Lib.hid HF
      gi_wp2_with (refine ⟨trivial, ?_⟩; gi_at_call 80; refine (callsIn_wide.2 HF.out).mono ?_; rintro e w' ⟨rfl, hb⟩; obtain ⟨g2, g3, hBw⟩ := POST.out w' hb; have c2 := g2.cell 0; have c3 := (g3.other (p := ⟨w.heap.size + 1 + 1, 0, none⟩) (by simp) (.int .i64 (x : Int))).cell 0; have z2 := g2.free 0; have z3 := (g3.other (p := ⟨w.heap.size + 1 + 1, 0, none⟩) (by simp) (.int .i64 (x : Int))).free 0; have HBw := Lib.hid hBw; have GG2 := Lib.hid g2; have GG3 := Lib.hid g3; simp only [List.getElem?_toArray, List.getElem?_cons_zero] at c2 c3)
      refine ⟨(low_others hb).trans ((KeepsOthers.setCell _ _ _).trans (KeepsOthers.setCell _ _ _)), pre, x, rfl, HK.out.symm, HP.out, ?_, ?_, ?_⟩
      · exact (((GG2.out.set 0 (.int .i64 (x : Int))).other (p := ⟨w.heap.size + 1 + 1 + 1, 0, none⟩) (by simp) (.bool true)).cell 0)
      · exact (((GG3.out.other (p := ⟨w.heap.size + 1 + 1, 0, none⟩) (by simp) (.int .i64 (x : Int))).set 0 (.bool true)).cell 0)
      · exact (HBw.out.setCell (p := ⟨w.heap.size + 1 + 1, 0, none⟩) (by simp; omega) _).setCell (p := ⟨w.heap.size + 1 + 1 + 1, 0, none⟩) (by simp; omega) _
    · rw [show (k == key) = false by simpa using hne] at HF
      have HF := Lib.hid HF
      gi_wp2_with (refine ⟨trivial, ?_⟩; gi_at_call 80; refine (callsIn_wide.2 HF.out).mono ?_; rintro e w' ⟨rfl, hb⟩)
      refine ⟨low_others hb, hb.block _ (by omega), fun o _ ho => (hb.block _ (Array.getElem?_eq_some_iff.1 ho).1).trans ho, w'.heap.size, Nat.le_refl _, fun y hy => ?_, low_and HB.out hb⟩
      rcases List.mem_append.1 hy with h | h
      · exact HP.out y h
      · simp only [List.mem_singleton] at h
        subst h
        rw [← HK.out]
        exact hne
  case done =>
    rintro D q xs W hD rfl ⟨hp, hB⟩ hK
    have HE := Lib.hid (nfind_none hp)
    have g2 := Row.below F2.out hB F2.out.lt
    have g3 := Row.below F3.out hB F3.out.lt
    have HB := Lib.hid (FB.out.trans (hB.mono (show w.heap.size ≤ W0.heap.size by omega)))
    have c2 := g2.cell 0
    have c3 := g3.cell 0
    have z2 := g2.free 0
    have z3 := g3.free 0
    simp only [List.getElem?_toArray, List.getElem?_cons_zero] at c2 c3
    have s3 : ∀ v, (W.setCell ⟨w.heap.size + 1 + 1, 0, none⟩ v).cell? ⟨w.heap.size + 1 + 1 + 1, 0, none⟩ = some (.bool false) := fun v => ((g3.other (p := ⟨w.heap.size + 1 + 1, 0, none⟩) (by simp) v).cell 0)
    have t3 : ∀ v, (W.setCell ⟨w.heap.size + 1 + 1, 0, none⟩ v).frozen? ⟨w.heap.size + 1 + 1 + 1, 0, none⟩ = false := fun v => ((g3.other (p := ⟨w.heap.size + 1 + 1, 0, none⟩) (by simp) v).free 0)
    have k2 := (((g2.set 0 (.int .i64 0)).other (p := ⟨w.heap.size + 1 + 1 + 1, 0, none⟩) (by simp) (.bool false)).cell 0)
    have k3 := (((g3.other (p := ⟨w.heap.size + 1 + 1, 0, none⟩) (by simp) (.int .i64 0)).set 0 (.bool false)).cell 0)
    have K2 := Lib.hid k2
    have K3 := Lib.hid k3
    clear hp hB k2 k3 g2 g3 h4
    gi_wp2
    have hK' := ((KeepsOthers.setCell W ⟨w.heap.size + 1 + 1, 0, none⟩ (.int .i64 0)).trans (KeepsOthers.setCell _ ⟨w.heap.size + 1 + 1 + 1, 0, none⟩ (.bool false))).same D _ hK rfl
    refine ⟨by simp, .inl ⟨_, _, rfl, run_takeDeferred hK', ?_⟩⟩
    have h0 := cell_kept K2.out (grownBy_putObj' _ D (.deferred none)) (fun r e => by cases e; exact ⟨_, hK', rfl⟩)
    have h1 := cell_kept K3.out (grownBy_putObj' _ D (.deferred none)) (fun r e => by cases e; exact ⟨_, hK', rfl⟩)
    refine ⟨.tuple #[.int .i64 0, .bool false], ?_, by rw [HE.out]; rfl, ((HB.out.setCell (p := ⟨w.heap.size + 1 + 1, 0, none⟩) (by simp; omega) _).setCell (p := ⟨w.heap.size + 1 + 1 + 1, 0, none⟩) (by simp; omega) _).trans (belowK_b (w := w) (Nat.le_refl _) _ D _ _ (by omega) hK' rfl rfl)⟩
    simp [results, Try.f79, go_sem, h0, h1]
  case stop =>
    rintro D pre W hD hpre ⟨q, x, hq, hx, hl, hc0, hc1, hB⟩ hK
    have HE := Lib.hid (find_some (hq ▸ hpre) hx hl)
    clear hl h4
    gi_wp2
    refine ⟨by simp, .inl ⟨_, _, rfl, run_takeDeferred hK, ?_⟩⟩
    have hk0 := cell_kept hc0 (grownBy_putObj' _ D (.deferred none)) (fun r e => by cases e; exact ⟨_, hK, rfl⟩)
    have hk1 := cell_kept hc1 (grownBy_putObj' _ D (.deferred none)) (fun r e => by cases e; exact ⟨_, hK, rfl⟩)
    refine ⟨.tuple #[.int .i64 (x : Int), .bool true], ?_, by rw [HE.out]; rfl, hB.trans (belowK_b (w := w) (Nat.le_refl _) W D _ _ (by omega) hK rfl rfl)⟩
    simp [results, Try.f79, go_sem, hk0, hk1]
end Go.Proofs.Yteojhhfcfdkmdaa
/- behind, and At: the place behind the last valid entry whose key is not above one; of any node, any key; without conditions. -/
namespace Go.Proofs.Yteojhhfcfdkmdaa
open Go.RowKit Go.Shelf
set_option linter.unusedVariables false
attribute [local go_sem] Oper.semAt_some

/-- Behind the last of these places whose key is not above one. -/
def atL (n : Nd) (key : Int) (l : List Nat) : Nat := l.foldl (fun a p => if n.key p ≤ key then p + 1 else a) 0
theorem atL_snoc (n : Nd) (key : Int) (l : List Nat) (x : Nat) : atL n key (l ++ [x]) = if n.key x ≤ key then x + 1 else atL n key l := by simp [atL]
def Nd.at (n : Nd) (key : Int) : Nat := atL n key n.vp
set_option maxRecDepth 100000 in
set_option maxHeartbeats 4000000 in
theorem behind_any (n : Nd) (key : Int) (bk : Nat) (w : World) (hk : w.cell? ⟨bk, 0, none⟩ = some (.int .u64 key)) :
    Calls Try.prog 81 #[n.V, .func (.func 82) #[] #[.pointer (some ⟨bk, 0, none⟩)]] w fun e W' => e = .returned (.int .i64 (n.at key : Int)) ∧ Below w.heap.size w W' := by
  obtain ⟨Wx, hWx⟩ : ∃ Wx, Wx = ((w.alloc (.cells n.cl.toArray 27)).alloc (.cells #[.func (.func 82) #[] #[.pointer (some ⟨bk, 0, none⟩)]] 137)).alloc (.cells #[.int .i64 0] 3) := ⟨_, rfl⟩
  have hsx : Wx.heap.size = w.heap.size + 3 := by rw [hWx]; simp
  have hbx : Below w.heap.size w Wx := by rw [hWx]; exact low_and (low_and (alloc_low _ _) (alloc_low _ _)) (alloc_low _ _)
  have r0 : NdAt Wx w.heap.size n := by rw [hWx]; exact ((Row.new _ _ _).alloc _).alloc _
  have r1 : Row Wx (w.heap.size + 1) 137 #[.func (.func 82) #[] #[.pointer (some ⟨bk, 0, none⟩)]] := by
    rw [hWx]
    have := Row.new (w.alloc (.cells n.cl.toArray 27)) 137 #[.func (.func 82) #[] #[.pointer (some ⟨bk, 0, none⟩)]]
    simp only [World.size_alloc] at this
    exact this.alloc _
  have r2 : Row Wx (w.heap.size + 1 + 1) 3 #[.int .i64 0] := by
    rw [hWx]
    have := Row.new ((w.alloc (.cells n.cl.toArray 27)).alloc (.cells #[.func (.func 82) #[] #[.pointer (some ⟨bk, 0, none⟩)]] 137)) 3 #[.int .i64 0]
    simpa only [World.size_alloc] using this
  have kx : Wx.cell? ⟨bk, 0, none⟩ = some (.int .u64 key) := (hbx.cell (p := ⟨bk, 0, none⟩) (w.block_lt_of_cell? _ hk)).trans hk
  have hbk := w.block_lt_of_cell? _ hk
  have HWx := Lib.hid hWx
  have HR0 := Lib.hid r0
  clear hWx r0
  refine (callsIn_wide (n := 6)).1 ?_
  refine callsIn_of_wp_marks Try.func81 rfl trivial ?_ rfl
  simp only [Try.ntmps81, List.size_toArray, List.length_cons, List.length_nil, Nat.reduceAdd, Nat.reduceSub, Array.replicate_succ, Array.replicate_zero, List.push_toArray, List.append_toArray, List.nil_append, List.cons_append]
  gi_wp2_with (first | (rw [← HWx.out]; refine wpListIn_load_mid (fun _ => trivial) rfl _ _ rfl w.heap.size 0 rfl n.cl _ (ndR HR0.out) Try.underlying27 rfl ndI ?_) | (refine ⟨trivial, ?_⟩; gi_at_call 83; refine (callsIn_wide.2 (valid_any n _)).mono ?_; rintro e w' ⟨rfl, rfl⟩))
  obtain ⟨W0, hW0⟩ : ∃ W0, W0 = Wx.alloc (.cells n.cl.toArray 27) := ⟨_, rfl⟩
  have h4 : NdAt W0 (w.heap.size + 3) n := by
    rw [hW0]
    have := Row.new Wx 27 n.cl.toArray
    rwa [hsx] at this
  have hb0 : Below Wx.heap.size Wx W0 := by rw [hW0]; exact alloc_low _ _
  have hs0 : W0.heap.size = w.heap.size + 4 := by rw [hW0]; simp [hsx]
  have f1 := Row.below r1 hb0 r1.lt
  have f2 := Row.below r2 hb0 r2.lt
  have fk : W0.cell? ⟨bk, 0, none⟩ = some (.int .u64 key) := (hb0.cell (p := ⟨bk, 0, none⟩) (Wx.block_lt_of_cell? _ kx)).trans kx
  have hbW : Below w.heap.size w W0 := low_and hbx hb0
  rw [← hW0]
  have FB := Lib.hid hbW
  clear hW0 r1 r2 kx hb0 hbx HWx HR0 hbW hsx hk
  refine range_Q rfl (by omega) (gf := 87) (lb := #[.pointer (some ⟨w.heap.size + 3, 0, none⟩)]) rfl trivial (enters_of Try.func87 (by kernel_rfl) rfl) (bx := w.heap.size + 3) (by omega) (valid1_seq h4) (fun _ => rfl)
    (fun q pre W => w.heap.size + 4 ≤ q ∧ w.heap.size + 4 ≤ W.heap.size ∧ Row W (w.heap.size + 1) 137 #[.func (.func 82) #[] #[.pointer (some ⟨bk, 0, none⟩)]] ∧ Row W (w.heap.size + 1 + 1) 3 #[.int .i64 (atL n key pre : Int)] ∧ W.cell? ⟨bk, 0, none⟩ = some (.int .u64 key) ∧ Below w.heap.size w W)
    (fun pre W => False)
    (fun q s A B row hs hg hr => ⟨hs.1, Nat.le_trans hs.2.1 hg.size, hs.2.2.1.grown hg (fun e => by have := (hr _ e.symm).1; omega), hs.2.2.2.1.grown hg (fun e => by have := (hr _ e.symm).1; omega), cell_kept hs.2.2.2.2.1 hg (fun r e => (hr r e).2), hs.2.2.2.2.2.grown hg hs.2.2.2.2.2.size (fun k e => by have := (hr k e).1; omega)⟩)
    (fun s A B row hs hg hr => hs)
    ⟨by omega, by omega, f1, f2, fk, FB.out⟩
    (fun x V => { tmps := #[n.V, .func (.func 82) #[] #[.pointer (some ⟨bk, 0, none⟩)], .pointer (some ⟨w.heap.size, 0, none⟩), .pointer (some ⟨w.heap.size + 1, 0, none⟩), .int .i64 0, .pointer (some ⟨w.heap.size + 1 + 1, 0, none⟩), .int .i64 (x : Int), .pointer (some ⟨V.heap.size, 0, none⟩), .agg n.cl.toArray, .func (.func 87) #[] #[.pointer (some ⟨w.heap.size + 3, 0, none⟩)], .int .i64 (x : Int), .agg #[.int .u64 (n.key x), .int .u64 (n.ptr x)], undef, undef, undef, undef, undef, undef], defers := [] })
    (fun x V => V.alloc (.cells #[.int .u64 (n.key x), .int .u64 (n.ptr x)] 89)) (fun x V => alloc_low _ _) ?assign ?body ?done ?stop
  case assign =>
    intro l x W K hK
    dsimp only [enc8N]
    gi_wp2
    exact hK
  case body =>
    rintro l q r pre x V W hx8 ⟨hq4, hWs, g1, g2, gk, hB⟩ hqr hrV hsz hcells hlen
    have hE : Row W V.heap.size 89 #[.int .u64 (n.key x), .int .u64 (n.ptr x)] := hcells _ _ rfl (Row.new V 89 _)
    obtain ⟨vs, hvs⟩ : ∃ vs, vs = V.heap.size := ⟨_, rfl⟩
    rw [← hvs] at hE hrV
    simp only [World.size_alloc] at hsz
    rw [← hvs] at hsz
    rw [← hvs]
    have e0 := hE.cell 0
    have e1 := hE.cell 1
    simp only [List.getElem?_toArray, List.getElem?_cons_succ, List.getElem?_cons_zero] at e0 e1
    have c1 := g1.cell 0
    simp only [List.getElem?_toArray, List.getElem?_cons_zero] at c1
    obtain ⟨k, hk⟩ : ∃ k, k = n.key x := ⟨_, rfl⟩
    obtain ⟨y, hy⟩ : ∃ y, y = n.ptr x := ⟨_, rfl⟩
    rw [← hk, ← hy] at hE
    rw [← hk] at e0
    rw [← hy] at e1
    rw [← hk, ← hy]
    have HF := at1_any k y key bk W gk
    have HK := Lib.hid hk
    have G1 := Lib.hid g1
    have G2 := Lib.hid g2
    have GK := Lib.hid gk
    have HB := Lib.hid hB
    have HSn := Lib.hid (atL_snoc n key pre x)
    have hle : (n.key x ≤ key) ↔ (k ≤ key) := by rw [hk]
    have HLe := Lib.hid hle
    have post : ∀ w' : World, Below W.heap.size W w' → w.heap.size + 4 ≤ w'.heap.size ∧ Row w' (w.heap.size + 1) 137 #[.func (.func 82) #[] #[.pointer (some ⟨bk, 0, none⟩)]] ∧ Row w' (w.heap.size + 1 + 1) 3 #[.int .i64 (atL n key pre : Int)] ∧ w'.cell? ⟨bk, 0, none⟩ = some (.int .u64 key) ∧ Below w.heap.size w w' := fun w' hb =>
      ⟨Nat.le_trans hWs hb.size, Row.below g1 hb g1.lt, Row.below g2 hb g2.lt, (hb.cell (p := ⟨bk, 0, none⟩) (W.block_lt_of_cell? _ gk)).trans gk, hB.trans (hb.mono (by omega))⟩
    have POST := Lib.hid post
    obtain ⟨T, hT⟩ : ∃ T, T = atL n key pre := ⟨_, rfl⟩
    have HT := Lib.hid hT
    clear hvs hcells hE hk hy hB g1 g2 gk h4 f1 f2 fk post hle hT
    obtain hle | hle : k ≤ key ∨ ¬ k ≤ key := by omega
    · rw [decide_eq_true hle] at HF
      have HF := Lib.hid HF
      have hx1 : -9223372036854775808 ≤ (x : Int) + 1 ∧ (x : Int) + 1 ≤ 9223372036854775807 := by omega
      gi_wp2_with (refine ⟨trivial, ?_⟩; gi_at_call 82; refine (callsIn_wide.2 HF.out).mono ?_; rintro e w' ⟨rfl, hb⟩; obtain ⟨q1, q2, q3, q4, q5⟩ := POST.out w' hb; have c2 := q3.cell 0; have z2 := q3.free 0; have Q2 := Lib.hid q2; have Q3 := Lib.hid q3; have Q4 := Lib.hid q4; have Q5 := Lib.hid q5; simp only [List.getElem?_toArray, List.getElem?_cons_zero] at c2; clear q2 q3 q4 q5)
      have hb1 : bk ≠ w.heap.size + 1 + 1 := by omega
      refine ⟨(low_others hb).trans (KeepsOthers.setCell _ _ _), ?_, fun o _ ho => ?_, w'.heap.size, by simp, by omega, by simpa using q1, Q2.out.other (by simp) _, ?_, ?_, Q5.out.setCell (p := ⟨w.heap.size + 1 + 1, 0, none⟩) (by simp; omega) _⟩
      · rw [heap_setCell_other _ _ _ _ (by simp)]
        exact hb.block _ (by omega)
      · rw [heap_setCell_other _ _ _ _ (by simp; omega)]
        exact (hb.block _ (Array.getElem?_eq_some_iff.1 ho).1).trans ho
      · have := Q3.out.set 0 (.int .i64 ((x : Int) + 1))
        rw [HSn.out, if_pos (HLe.out.2 hle)]
        simpa using this
      · exact (World.cell?_of_block (a := ⟨bk, 0, none⟩) (heap_setCell_other _ _ _ _ (by simpa using hb1))).trans Q4.out
    · rw [decide_eq_false hle] at HF
      have HF := Lib.hid HF
      gi_wp2_with (refine ⟨trivial, ?_⟩; gi_at_call 82; refine (callsIn_wide.2 HF.out).mono ?_; rintro e w' ⟨rfl, hb⟩)
      obtain ⟨q1, q2, q3, q4, q5⟩ := POST.out w' hb
      refine ⟨low_others hb, hb.block _ (by omega), fun o _ ho => (hb.block _ (Array.getElem?_eq_some_iff.1 ho).1).trans ho, w'.heap.size, Nat.le_refl _, q1, q1, q2, ?_, q4, q5⟩
      rw [HSn.out, if_neg (fun h => by have := HLe.out.1 h; omega)]
      exact q3
  case done =>
    rintro D q xs W hD rfl ⟨_, hWs, g1, g2, gk, hB⟩ hK
    have c2 := g2.cell 0
    simp only [List.getElem?_toArray, List.getElem?_cons_zero] at c2
    obtain ⟨T, hT⟩ : ∃ T, T = atL n key n.vp := ⟨_, rfl⟩
    have HT := Lib.hid (show n.at key = T from hT.symm)
    rw [← hT] at c2
    clear g1 g2 gk hT h4 f1 f2 fk
    gi_wp2
    refine ⟨by simp, .inl ⟨_, _, rfl, run_takeDeferred hK, ?_⟩⟩
    exact ⟨_, results_tmp rfl _ _ _, by rw [HT.out]; rfl, hB.trans (belowK_b (w := w) (Nat.le_refl _) W D _ _ (by omega) hK rfl rfl)⟩
  case stop => exact fun _ _ _ _ _ h => h.elim
end Go.Proofs.Yteojhhfcfdkmdaa
/- Find, At, Child: of any node, any key; without conditions. -/
namespace Go.Proofs.Yteojhhfcfdkmdaa
open Go.RowKit Go.Shelf
set_option linter.unusedVariables false

theorem foldl_le (n : Nd) (key : Int) : ∀ (l : List Nat) (a : Nat), a ≤ 8 → (∀ x ∈ l, x < 8) → l.foldl (fun a p => if n.key p ≤ key then p + 1 else a) a ≤ 8
  | [], a, ha, _ => ha
  | x :: l, a, ha, h => by
    rw [List.foldl_cons]
    refine foldl_le n key l _ ?_ fun y hy => h y (List.mem_cons_of_mem _ hy)
    have := h x (by simp)
    split <;> omega
theorem atL_le (n : Nd) (key : Int) (l : List Nat) (h : ∀ x ∈ l, x < 8) : atL n key l ≤ 8 := foldl_le n key l 0 (by omega) h
theorem at_le (n : Nd) (key : Int) : n.at key ≤ 8 := atL_le n key _ fun x hx => n.vp_lt8 hx
set_option maxRecDepth 100000 in
set_option maxHeartbeats 1600000 in
theorem nFind_any (n : Nd) (key : Int) (w : World) : Calls Try.prog 58 #[n.V, .int .u64 key] w fun e w' => e = .returned (.tuple #[.int .i64 (optI (n.find key)), .bool (n.find key).isSome]) ∧ Below w.heap.size w w' := by
  obtain ⟨W0, hW0⟩ : ∃ W0, W0 = (w.alloc (.cells n.cl.toArray 27)).alloc (.cells #[.int .u64 key] 22) := ⟨_, rfl⟩
  have hb : Below w.heap.size w W0 := by rw [hW0]; exact low_and (alloc_low _ _) (alloc_low _ _)
  have r0 : NdAt W0 w.heap.size n := by rw [hW0]; exact (Row.new _ _ _).alloc _
  have c1 : W0.cell? ⟨w.heap.size + 1, 0, none⟩ = some (.int .u64 key) := by
    have := (Row.new (w.alloc (.cells n.cl.toArray 27)) 22 #[.int .u64 key]).cell 0
    simp only [World.size_alloc] at this
    rw [hW0, this]
    rfl
  have HW := Lib.hid hW0
  have R0 := Lib.hid r0
  have HF := Lib.hid (findF_any n key (w.heap.size + 1) W0 c1)
  have HB := Lib.hid hb
  clear hW0 r0 c1 hb
  go_enter Try.func58, Try.ntmps58
  go_wp2_with (first | (rw [← HW.out]; refine wpList_load_mid rfl _ _ rfl w.heap.size 0 rfl n.cl _ (ndR R0.out) Try.underlying27 rfl ndI ?_) | (go_at_call 79; refine HF.out.mono ?_; rintro e w' ⟨rfl, hb⟩))
  go_ret2
  exact ⟨rfl, low_and HB.out hb⟩
set_option maxRecDepth 100000 in
set_option maxHeartbeats 1600000 in
theorem nAt_any (n : Nd) (key : Int) (w : World) : Calls Try.prog 62 #[n.V, .int .u64 key] w fun e w' => e = .returned (.int .i64 (n.at key : Int)) ∧ Below w.heap.size w w' := by
  obtain ⟨W0, hW0⟩ : ∃ W0, W0 = (w.alloc (.cells n.cl.toArray 27)).alloc (.cells #[.int .u64 key] 22) := ⟨_, rfl⟩
  have hb : Below w.heap.size w W0 := by rw [hW0]; exact low_and (alloc_low _ _) (alloc_low _ _)
  have r0 : NdAt W0 w.heap.size n := by rw [hW0]; exact (Row.new _ _ _).alloc _
  have c1 : W0.cell? ⟨w.heap.size + 1, 0, none⟩ = some (.int .u64 key) := by
    have := (Row.new (w.alloc (.cells n.cl.toArray 27)) 22 #[.int .u64 key]).cell 0
    simp only [World.size_alloc] at this
    rw [hW0, this]
    rfl
  have HW := Lib.hid hW0
  have R0 := Lib.hid r0
  have HF := Lib.hid (behind_any n key (w.heap.size + 1) W0 c1)
  have HB := Lib.hid hb
  clear hW0 r0 c1 hb
  go_enter Try.func62, Try.ntmps62
  go_wp2_with (first | (rw [← HW.out]; refine wpList_load_mid rfl _ _ rfl w.heap.size 0 rfl n.cl _ (ndR R0.out) Try.underlying27 rfl ndI ?_) | (go_at_call 81; refine HF.out.mono ?_; rintro e w' ⟨rfl, hb⟩))
  go_ret
  exact ⟨rfl, low_and HB.out hb⟩
/-- By which pointer a key is looked for. -/
def Nd.child (n : Nd) (key : Int) : Int := if n.at key = 0 then n.fi else n.ptr (n.at key - 1)
end Go.Proofs.Yteojhhfcfdkmdaa
