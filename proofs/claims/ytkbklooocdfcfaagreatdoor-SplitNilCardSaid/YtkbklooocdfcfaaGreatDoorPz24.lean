/- Texts of this claim, packed: N8Act, N8Same, N8Eq, SnTr, N8RefF, N8May, N8Rise, N8Unl, N8MayN, N8Inv, N9P, N8RefI. -/
import Derived.Test.YtkbklooocdfcfaaGreatDoorPz23
import Derived.Test.YtkbklooocdfcfaaGreatDoorPz22
import Derived.Test.YtkbklooocdfcfaaGreatDoorPz21
import Derived.Test.YtkbklooocdfcfaaGreatDoorPz06
import Derived.Test.YtkbklooocdfcfaaGreatDoorPz20
import Derived.Laws.StructEq
import Derived.Laws.Rows
set_option linter.unusedVariables false
set_option maxRecDepth 100000
set_option maxHeartbeats 6400000
namespace Go.Proofs.YtkbklooocdfcfaaGreatDoor
open Go.RowKit Go.Shelf
attribute [local go_sem] Oper.semAt_some
theorem ownS_cells {w : World} {B s n g : Nat} {e : TypeId} {v : Value} {xs : List Value} (h : w.ownsRow B e s v n xs) (hg : v.ownBlock = some g) : ∃ cs t, w.heap[g]? = some (.cells cs t (0, 0)) := by
 rcases h.2 with ⟨rfl, _⟩ | ⟨g', cap, cur, rfl, _, hh, _⟩
 ·cases hg
 ·have : g' = g := by injection hg
  subst this
  exact ⟨_, _, hh⟩
theorem ownS_grown {w w' : World} {B s n : Nat} {e : TypeId} {v : Value} {xs : List Value} {row : Option Nat} (h : w.ownsRow B e s v n xs) (hg : w.grownBy w' row) (hr : ∀ q, row = some q -> ∃ o : Obj, w.heap[q]? = some o /\ o.isCells = false) : w'.ownsRow B e s v n xs := by
 refine ⟨h.1, ?_⟩
 rcases h.2 with h0 | ⟨g, cap, cur, rfl, hb, hh, hrest⟩
 ·exact .inl h0
 ·refine .inr ⟨g, cap, cur, rfl, hb, (hg.block g (Array.getElem?_eq_some_iff.1 hh).1 ?_).trans hh, hrest⟩
  intro e
  obtain ⟨o, ho, hc⟩ := hr g e.symm
  rw [hh] at ho
  cases ho
  cases hc
theorem ownS_from {w : World} {B s n : Nat} {e : TypeId} {v : Value} {xs : List Value} (h : w.ownsRow B e s v n xs) : ∀ k, v.ownBlock = some k -> B <= k /\ k < w.heap.size := by
 intro k hk
 rcases h.2 with ⟨rfl, _⟩ | ⟨g', cap, cur, rfl, hb, hh, _⟩
 ·cases hk
 ·have : g' = k := by injection hk
  subst this
  exact ⟨hb, (Array.getElem?_eq_some_iff.1 hh).1⟩
theorem ownS_set {w : World} {B s n : Nat} {e : TypeId} {v : Value} {xs : List Value} (h : w.ownsRow B e s v n xs) {p : Addr} (hne : ∀ g, v.ownBlock = some g -> g ≠ p.block) (u : Value) : (w.setCell p u).ownsRow B e s v n xs := by
 refine ⟨h.1, ?_⟩
 rcases h.2 with h0 | ⟨g, cap, cur, rfl, hg, hh, hr⟩
 ·exact .inl h0
 ·exact .inr ⟨g, cap, cur, rfl, hg, (heap_setCell_other w p g u (hne g rfl)).trans hh, hr⟩
theorem ownS_mono {w : World} {B B' s n : Nat} {e : TypeId} {v : Value} {xs : List Value} (h : w.ownsRow B e s v n xs) (hb : B' <= B) : w.ownsRow B' e s v n xs := by
 refine ⟨h.1, ?_⟩
 rcases h.2 with h0 | ⟨g, cap, cur, rfl, hg, hr⟩
 ·exact .inl h0
 ·exact .inr ⟨g, cap, cur, rfl, Nat.le_trans hb hg, hr⟩
theorem ownS_low {w w' : World} {B s n : Nat} {e : TypeId} {v : Value} {xs : List Value} (h : w.ownsRow B e s v n xs) (hb : Below w.heap.size w w') : w'.ownsRow B e s v n xs := ownS_grown h (low_grown hb) (fun q e => by cases e)
def flatE (l : List (Int × Int)) : List Value := l.flatMap fun e => [uw e.1, uw e.2]
theorem flatE_snoc (l : List (Int × Int)) (e : Int × Int) : flatE (l ++ [e]) = flatE l ++ [uw e.1, uw e.2] := by simp [flatE]
theorem flatE_at : ∀ (l : List (Int × Int)) (i : Nat) (e : Int × Int), l[i]? = some e -> (flatE l)[i * 2]? = some (uw e.1) /\ (flatE l)[i * 2 + 1]? = some (uw e.2)
 | [], i, e, h => by simp at h
 | a :: t, 0, e, h => by
  simp only [List.getElem?_cons_zero, Option.some.injEq] at h
  subst h
  exact ⟨rfl, rfl⟩
 | a :: t, i + 1, e, h => by
  simp only [List.getElem?_cons_succ] at h
  have := flatE_at t i e h
  rw [show (i + 1) * 2 = i * 2 + 2 by omega]
  exact this
def Nd.ent (n : Nd) (p : Nat) : Int × Int := (n.key p, n.ptr p)
def Nd.inB (n : Nd) (high : Int) (has : Bool) (p : Nat) : Bool := !has || decide (n.key p < high)
def actL (n : Nd) (high : Int) (has : Bool) (l : List Nat) : List (Int × Int) := (l.filter (n.inB high has)).map n.ent
theorem actL_yes {n : Nd} {high : Int} {has : Bool} {l : List Nat} {x : Nat} (h : n.inB high has x = true) : actL n high has (l ++ [x]) = actL n high has l ++ [n.ent x] := by simp [actL, h]
theorem actL_no {n : Nd} {high : Int} {has : Bool} {l : List Nat} {x : Nat} (h : n.inB high has x = false) : actL n high has (l ++ [x]) = actL n high has l := by simp [actL, h]
theorem actL_len (n : Nd) (high : Int) (has : Bool) (l : List Nat) : (actL n high has l).length <= l.length := by
 unfold actL
 rw [List.length_map]
 exact List.length_filter_le _ _
def Nd.act (n : Nd) (high : Int) (has : Bool) : List (Int × Int) := actL n high has n.vp
def Nd.es (n : Nd) : List (Int × Int) := n.vp.map n.ent
theorem act_all (n : Nd) (high : Int) : n.act high false = n.es := by
 unfold Nd.act actL Nd.es
 congr 1
 exact List.filter_eq_self.2 fun p _ => rfl
theorem Nd.es_len (n : Nd) : n.es.length <= 8 := by unfold Nd.es; rw [List.length_map]; exact n.vp_length
theorem Nd.act_len (n : Nd) (high : Int) (has : Bool) : (n.act high has).length <= 8 := Nat.le_trans (actL_len _ _ _ _) n.vp_length
def ActI (w : World) (n : Nd) (high : Int) (has : Bool) (q : Nat) (pre : List Nat) (W : World) : Prop :=
 w.heap.size + 5 <= q /\ w.heap.size + 5 <= W.heap.size /\ Row W (w.heap.size + 1) 29 #[.int .u64 high] /\ Row W (w.heap.size + 1 + 1) 4 #[.bool has] /\ Below w.heap.size w W /\
 ∃ v, Row W (w.heap.size + 1 + 1 + 1) 89 #[v] /\ W.ownsRow (w.heap.size + 5) 94 2 v (actL n high has pre).length (flatE (actL n high has pre)) /\ ∀ g, v.ownBlock = some g -> g < q
theorem infoEntry : (Tryz.prog.info? 94).map (fun i => (i.zero, i.size, i.bytes)) = some (some (.agg #[.int .u64 0, .int .u64 0]), 2, 16) := by kernel_rfl
theorem nActive_any (n : Nd) (high : Int) (has : Bool) (w : World) : Calls Tryz.prog 68 #[n.V, .int .u64 high, .bool has] w fun e W' =>
  (∃ v, e = .returned v /\ W'.ownsRow w.heap.size 94 2 v (n.act high has).length (flatE (n.act high has))) /\ Below w.heap.size w W' := by
 obtain ⟨i0, hi, hz0, hz1, hz2⟩ := info_parts infoEntry
 obtain ⟨Wx, hWx⟩ : ∃ Wx, Wx = (((w.alloc (.cells n.cl.toArray 71)).alloc (.cells #[.int .u64 high] 29)).alloc (.cells #[.bool has] 4)).alloc (.cells #[.slice none 0 0] 89) := ⟨_, rfl⟩
 have hsx : Wx.heap.size = w.heap.size + 4 := by rw [hWx]; simp
 have hbx : Below w.heap.size w Wx := by rw [hWx]; exact low_and (low_and (low_and (alloc_low _ _) (alloc_low _ _)) (alloc_low _ _)) (alloc_low _ _)
 have r0 : NdAt Wx w.heap.size n := by rw [hWx]; exact (((Row.new _ _ _).alloc _).alloc _).alloc _
 have r1 : Row Wx (w.heap.size + 1) 29 #[.int .u64 high] := by
  rw [hWx]
  have := Row.new (w.alloc (.cells n.cl.toArray 71)) 29 #[.int .u64 high]
  simp only [World.size_alloc] at this
  exact (this.alloc _).alloc _
 have r2 : Row Wx (w.heap.size + 1 + 1) 4 #[.bool has] := by
  rw [hWx]
  have := Row.new ((w.alloc (.cells n.cl.toArray 71)).alloc (.cells #[.int .u64 high] 29)) 4 #[.bool has]
  simp only [World.size_alloc] at this
  exact this.alloc _
 have r3 : Row Wx (w.heap.size + 1 + 1 + 1) 89 #[.slice none 0 0] := by
  rw [hWx]
  have := Row.new (((w.alloc (.cells n.cl.toArray 71)).alloc (.cells #[.int .u64 high] 29)).alloc (.cells #[.bool has] 4)) 89 #[.slice none 0 0]
  simpa only [World.size_alloc] using this
 have HWx := Lib.hid hWx
 have HR0 := Lib.hid r0
 clear hWx r0
 refine (callsIn_wide (n := 6)).1 ?_
 refine callsIn_of_wp_marks Tryz.func68 rfl trivial ?_ rfl
 simp only [Tryz.ntmps68, List.size_toArray, List.length_cons, List.length_nil, Nat.reduceAdd, Nat.reduceSub, Array.replicate_succ, Array.replicate_zero, List.push_toArray, List.append_toArray, List.nil_append, List.cons_append]
 gi_wp2_with (first | (rw [<- HWx.out]; refine wpListIn_load_mid (fun _ => trivial) rfl _ _ rfl w.heap.size 0 rfl n.cl _ (ndR HR0.out) Tryz.underlying71 rfl ndI ?_) | (refine ⟨trivial, ?_⟩; gi_at_call 108; refine (callsIn_wide.2 (valid_any n _)).mono ?_; rintro e w' ⟨rfl, rfl⟩))
 obtain ⟨W0, hW0⟩ : ∃ W0, W0 = Wx.alloc (.cells n.cl.toArray 71) := ⟨_, rfl⟩
 have h4 : NdAt W0 (w.heap.size + 4) n := by
  rw [hW0]
  have := Row.new Wx 71 n.cl.toArray
  rwa [hsx] at this
 have hb0 : Below Wx.heap.size Wx W0 := by rw [hW0]; exact alloc_low _ _
 have hs0 : W0.heap.size = w.heap.size + 5 := by rw [hW0]; simp [hsx]
 have f1 := Row.below r1 hb0 r1.lt
 have f2 := Row.below r2 hb0 r2.lt
 have f3 := Row.below r3 hb0 r3.lt
 have hbW : Below w.heap.size w W0 := low_and hbx hb0
 rw [<- hW0]
 have hI0 : ActI w n high has W0.heap.size [] W0 := ⟨by omega, by omega, f1, f2, hbW, _, f3, World.ownsRow_nil _ _ _ _, fun g hg => by cases hg⟩
 clear hW0 r1 r2 r3 hb0 hbx HWx HR0 hbW hsx f1 f2 f3
 refine range_Q rfl (by omega) (gf := 137) (lb := #[.pointer (some ⟨w.heap.size + 4, 0, none⟩)]) rfl trivial (enters_of Tryz.func137 (by kernel_rfl) rfl) (bx := w.heap.size + 4) (by omega) (valid1_seq h4) (fun _ => rfl)
  (ActI w n high has) (fun pre W => False)
  (fun q s A B row hs hg hr => by
   obtain ⟨h1, h2, h3, h4, h5, v, h6, h7, h8⟩ := hs
   exact ⟨h1, Nat.le_trans h2 hg.size, h3.grown hg (fun e => by have := (hr _ e.symm).1; omega), h4.grown hg (fun e => by have := (hr _ e.symm).1; omega), h5.grown hg h5.size (fun k e => by have := (hr k e).1; omega), v, h6.grown hg (fun e => by have := (hr _ e.symm).1; omega), ownS_grown h7 hg (fun k e => (hr k e).2), h8⟩)
  (fun s A B row hs hg hr => hs)
  hI0
  (fun x V => { tmps := #[n.V, .int .u64 high, .bool has, .pointer (some ⟨w.heap.size, 0, none⟩), .pointer (some ⟨w.heap.size + 1, 0, none⟩), .pointer (some ⟨w.heap.size + 1 + 1, 0, none⟩), .slice none 0 0, .pointer (some ⟨w.heap.size + 1 + 1 + 1, 0, none⟩), undef, .pointer (some ⟨V.heap.size, 0, none⟩), .agg n.cl.toArray, .func (.func 137) #[] #[.pointer (some ⟨w.heap.size + 4, 0, none⟩)], .int .i64 (x : Int), .agg #[.int .u64 (n.key x), .int .u64 (n.ptr x)], undef, undef, undef, undef, undef, undef, undef, undef, undef, undef, undef, undef, undef], defers := [] })
  (fun x V => V.alloc (.cells #[.int .u64 (n.key x), .int .u64 (n.ptr x)] 94)) (fun x V => alloc_low _ _) ?assign ?body ?done ?stop
 case assign =>
  intro l x W K hK
  dsimp only [enc8N]
  gi_wp2
  exact hK
 case body =>
  rintro l q r pre x V W hx8 ⟨hq4, hWs, g1, g2, hB, v, g3, hown, hob⟩ hqr hrV hsz hcells hlen
  have hE : Row W V.heap.size 94 #[.int .u64 (n.key x), .int .u64 (n.ptr x)] := hcells _ _ rfl (Row.new V 94 _)
  obtain ⟨vs, hvs⟩ : ∃ vs, vs = V.heap.size := ⟨_, rfl⟩
  rw [<- hvs] at hE hrV
  simp only [World.size_alloc] at hsz
  rw [<- hvs] at hsz
  rw [<- hvs]
  have e0 := hE.cell 0
  have e1 := hE.cell 1
  simp only [List.getElem?_toArray, List.getElem?_cons_succ, List.getElem?_cons_zero] at e0 e1
  have c1 := g1.cell 0
  have c2 := g2.cell 0
  have c3 := g3.cell 0
  simp only [List.getElem?_toArray, List.getElem?_cons_zero] at c1 c2 c3
  have hyes := actL_yes (n := n) (high := high) (has := has) (l := pre) (x := x)
  have hno := actL_no (n := n) (high := high) (has := has) (l := pre) (x := x)
  have hin : n.inB high has x = (!has || decide (n.key x < high)) := rfl
  have hent : n.ent x = (n.key x, n.ptr x) := rfl
  obtain ⟨k, hk⟩ : ∃ k, k = n.key x := ⟨_, rfl⟩
  obtain ⟨y, hy⟩ : ∃ y, y = n.ptr x := ⟨_, rfl⟩
  rw [<- hk, <- hy] at hE hent
  rw [<- hk] at e0 hin
  rw [<- hy] at e1
  rw [<- hk, <- hy]
  obtain ⟨L, hL⟩ : ∃ L, L = actL n high has pre := ⟨_, rfl⟩
  rw [<- hL] at hyes hno hown
  have hLl : L.length < 8 := by rw [hL]; exact Nat.lt_of_le_of_lt (actL_len _ _ _ _) hlen
  obtain ⟨m, hm⟩ : ∃ m, m = L.length := ⟨_, rfl⟩
  rw [<- hm] at hown hLl
  have HY := Lib.hid hyes
  have HNo := Lib.hid hno
  have HIn := Lib.hid hin
  have HEnt := Lib.hid hent
  have HLd := Lib.hid hL
  have HMd := Lib.hid hm
  have G1 := Lib.hid g1
  have G2 := Lib.hid g2
  have G3 := Lib.hid g3
  have HB := Lib.hid hB
  have HOWN := Lib.hid hown
  have HOB := Lib.hid hob
  have a1 : m + 1 <= maxLen := by unfold maxLen; omega
  have a2 : (m + 1) * 16 <= 140737488355328 := by omega
  have hobn : ∀ g, v.ownBlock = some g -> w.heap.size + 5 <= g := fun g hg => (ownS_from hown g hg).1
  have HOBN := Lib.hid hobn
  have HQW := Lib.hid (show q <= W.heap.size by omega)
  clear hvs hcells hE hk hy hB h4 hI0 hyes hno hent hL hm g1 g2 g3 hown hob hobn hsz hrV
  cases has with
  | false =>
   have HIN := Lib.hid (show n.inB high false x = true from rfl)
   gi_wp2_with (gi_at_builtin; refine wpListIn_append_own _ rfl _ _ 89 rfl (w.heap.size + 5) 94 i0 (.agg #[.int .u64 0, .int .u64 0]) 2 16 Tryz.underlying89 hi hz0 hz1 hz2 rfl (by decide) _ m _ rfl (HOWN.out.alloc _) ⟨W.heap.size, 0, none⟩ 1 1 [.int .u64 k, .int .u64 y] rfl rfl ?q1 ?q2 ?q3 ?q4 ?q5 ?_)
   case q1 =>
    have hr := Row.new W 94 #[.int .u64 k, .int .u64 y]
    intro j u hj
    rw [Addr.add_lit, hr.cell, Nat.zero_add]
    simpa using hj
   case q2 => simp [Value.oneCell']
   case q3 => exact a1
   case q4 => exact a2
   case q5 => simp; omega
   intro v' w1 hown' hgrow _
   obtain ⟨g', cap', rfl⟩ := ownsRow_succ hown'
   have r3 := (G3.out.alloc (.cells #[.int .u64 k, .int .u64 y] 94)).grown hgrow (fun e => by have := HOBN.out _ e.symm; omega)
   have cc := r3.cell 0
   have zz := r3.free 0
   have R3 := Lib.hid r3
   simp only [List.getElem?_toArray, List.getElem?_cons_zero] at cc
   clear r3
   gi_wp2
   have hsz1 := hgrow.size
   have hg' := ownS_from hown' g' rfl
   have hne : ∀ b, b < w.heap.size + 5 -> some b ≠ v.ownBlock := fun b hb e => by have := HOBN.out _ e.symm; omega
   have hkeep : ∀ b, b < W.heap.size -> some b ≠ v.ownBlock -> b ≠ w.heap.size + 1 + 1 + 1 -> (w1.setCell ⟨w.heap.size + 1 + 1 + 1, 0, none⟩ (.slice (some ⟨g', 0, none⟩) (m + 1) cap')).heap[b]? = W.heap[b]? := fun b hb hn hn' => by
    rw [heap_setCell_other _ _ _ _ hn', hgrow.block b (by simp; omega) hn]
    exact Below.heap_alloc W _ b hb
   simp only [World.size_alloc] at hsz1
   refine ⟨⟨by simp; omega, fun b o hb ho => ?_⟩, hkeep _ (by omega) (hne _ (by omega)) (by omega), fun o _ ho => ?_, w1.heap.size, by simp, by omega, by simp; omega, ?_, ?_, ?_, _, R3.out.set 0 _, ?_, fun g hg => ?_⟩
   ·have hbl := (Array.getElem?_eq_some_iff.1 hb).1
    refine (hkeep b hbl (fun e => ?_) (fun e => ?_)).trans hb
    ·obtain ⟨cs, t, h5⟩ := ownS_cells HOWN.out e.symm
     rw [h5] at hb
     cases hb
     cases ho
    ·subst e
     rw [show W.heap[w.heap.size + 1 + 1 + 1]? = _ from G3.out] at hb
     cases hb
     cases ho
   ·have hrl := (Array.getElem?_eq_some_iff.1 ho).1
    exact (hkeep r hrl (fun e => by have := HOB.out r e.symm; omega) (by omega)).trans ho
   ·exact (hkeep _ G1.out.lt (hne _ (by omega)) (by omega)).trans G1.out
   ·exact (hkeep _ G2.out.lt (hne _ (by omega)) (by omega)).trans G2.out
   ·exact ((HB.out.alloc (by omega) _).grown hgrow (by simp; omega) (fun b hb => by have := HOBN.out b hb; omega)).setCell (p := ⟨w.heap.size + 1 + 1 + 1, 0, none⟩) (by dsimp only; omega) _
   ·rw [HY.out HIN.out, HEnt.out, flatE_snoc, List.length_append, <- HMd.out]
    exact ownS_set hown' (p := ⟨w.heap.size + 1 + 1 + 1, 0, none⟩) (fun g hg => by cases hg; dsimp only; omega) _
   ·cases hg
    exact hg'.2
  | true =>
   obtain hkh | hkh : k < high \/ ¬ k < high := by omega
   ·have HIN := Lib.hid (show n.inB high true x = true by rw [HIn.out]; simp [hkh])
    gi_wp2_with (gi_at_builtin; refine wpListIn_append_own _ rfl _ _ 89 rfl (w.heap.size + 5) 94 i0 (.agg #[.int .u64 0, .int .u64 0]) 2 16 Tryz.underlying89 hi hz0 hz1 hz2 rfl (by decide) _ m _ rfl (HOWN.out.alloc _) ⟨W.heap.size, 0, none⟩ 1 1 [.int .u64 k, .int .u64 y] rfl rfl ?q1 ?q2 ?q3 ?q4 ?q5 ?_)
    case q1 =>
     have hr := Row.new W 94 #[.int .u64 k, .int .u64 y]
     intro j u hj
     rw [Addr.add_lit, hr.cell, Nat.zero_add]
     simpa using hj
    case q2 => simp [Value.oneCell']
    case q3 => exact a1
    case q4 => exact a2
    case q5 => simp; omega
    intro v' w1 hown' hgrow _
    obtain ⟨g', cap', rfl⟩ := ownsRow_succ hown'
    have r3 := (G3.out.alloc (.cells #[.int .u64 k, .int .u64 y] 94)).grown hgrow (fun e => by have := HOBN.out _ e.symm; omega)
    have cc := r3.cell 0
    have zz := r3.free 0
    have R3 := Lib.hid r3
    simp only [List.getElem?_toArray, List.getElem?_cons_zero] at cc
    clear r3
    gi_wp2
    have hsz1 := hgrow.size
    have hg' := ownS_from hown' g' rfl
    have hne : ∀ b, b < w.heap.size + 5 -> some b ≠ v.ownBlock := fun b hb e => by have := HOBN.out _ e.symm; omega
    have hkeep : ∀ b, b < W.heap.size -> some b ≠ v.ownBlock -> b ≠ w.heap.size + 1 + 1 + 1 -> (w1.setCell ⟨w.heap.size + 1 + 1 + 1, 0, none⟩ (.slice (some ⟨g', 0, none⟩) (m + 1) cap')).heap[b]? = W.heap[b]? := fun b hb hn hn' => by
     rw [heap_setCell_other _ _ _ _ hn', hgrow.block b (by simp; omega) hn]
     exact Below.heap_alloc W _ b hb
    simp only [World.size_alloc] at hsz1
    refine ⟨⟨by simp; omega, fun b o hb ho => ?_⟩, hkeep _ (by omega) (hne _ (by omega)) (by omega), fun o _ ho => ?_, w1.heap.size, by simp, by omega, by simp; omega, ?_, ?_, ?_, _, R3.out.set 0 _, ?_, fun g hg => ?_⟩
    ·have hbl := (Array.getElem?_eq_some_iff.1 hb).1
     refine (hkeep b hbl (fun e => ?_) (fun e => ?_)).trans hb
     ·obtain ⟨cs, t, h5⟩ := ownS_cells HOWN.out e.symm
      rw [h5] at hb
      cases hb
      cases ho
     ·subst e
      rw [show W.heap[w.heap.size + 1 + 1 + 1]? = _ from G3.out] at hb
      cases hb
      cases ho
    ·have hrl := (Array.getElem?_eq_some_iff.1 ho).1
     exact (hkeep r hrl (fun e => by have := HOB.out r e.symm; omega) (by omega)).trans ho
    ·exact (hkeep _ G1.out.lt (hne _ (by omega)) (by omega)).trans G1.out
    ·exact (hkeep _ G2.out.lt (hne _ (by omega)) (by omega)).trans G2.out
    ·exact ((HB.out.alloc (by omega) _).grown hgrow (by simp; omega) (fun b hb => by have := HOBN.out b hb; omega)).setCell (p := ⟨w.heap.size + 1 + 1 + 1, 0, none⟩) (by dsimp only; omega) _
    ·rw [HY.out HIN.out, HEnt.out, flatE_snoc, List.length_append, <- HMd.out]
     exact ownS_set hown' (p := ⟨w.heap.size + 1 + 1 + 1, 0, none⟩) (fun g hg => by cases hg; dsimp only; omega) _
    ·cases hg
     exact hg'.2
   ·have HIN := Lib.hid (show n.inB high true x = false by rw [HIn.out]; simp; omega)
    gi_wp2
    refine ⟨KeepsOthers.refl _, rfl, fun o _ ho => ho, q, HQW.out, hq4, hWs, G1.out, G2.out, HB.out, v, G3.out, ?_, HOB.out⟩
    rw [HNo.out HIN.out, <- HMd.out]
    exact HOWN.out
 case done =>
  rintro D q xs W hD rfl ⟨hq4, hWs, g1, g2, hB, v, g3, hown, hob⟩ hK
  have c3 := g3.cell 0
  simp only [List.getElem?_toArray, List.getElem?_cons_zero] at c3
  have HOWN := Lib.hid (show W.ownsRow (w.heap.size + 5) 94 2 v (n.act high has).length (flatE (n.act high has)) from hown)
  have HB := Lib.hid hB
  clear hown g1 g2 g3 hob h4 hI0 hB
  gi_wp2
  refine ⟨by simp, .inl ⟨_, _, rfl, run_takeDeferred hK, ?_⟩⟩
  exact ⟨_, results_tmp rfl _ _ _, ⟨v, rfl, ownS_mono (ownS_grown HOWN.out (grownBy_putObj' W D (.deferred none)) (fun q e => by cases e; exact ⟨_, hK, rfl⟩)) (by omega)⟩, HB.out.trans (belowK_b (w := w) (Nat.le_refl _) W D _ _ (by omega) hK rfl rfl)⟩
 case stop => exact fun _ _ _ _ _ h => h.elim
theorem nValid_any (n : Nd) (w : World) : Calls Tryz.prog 36 #[n.V] w fun e W' => (∃ v, e = .returned v /\ W'.ownsRow w.heap.size 94 2 v n.es.length (flatE n.es)) /\ Below w.heap.size w W' := by
 have R0 := Lib.hid (Row.new w 71 n.cl.toArray)
 have HA := nActive_any n 0 false (w.alloc (.cells n.cl.toArray 71))
 rw [act_all] at HA
 have HA := Lib.hid HA
 go_enter Tryz.func36, Tryz.ntmps36
 go_wp2_with (first | (refine wpList_load_mid rfl _ _ rfl w.heap.size 0 rfl n.cl _ (ndR R0.out) Tryz.underlying71 rfl ndI ?_) | (go_at_call 68; refine HA.out.mono ?_; rintro e w' ⟨⟨v, rfl, ho⟩, hb⟩))
 go_ret
 exact ⟨⟨v, rfl, ownS_mono ho (by simp)⟩, low_and (alloc_low _ _) hb⟩
end Go.Proofs.YtkbklooocdfcfaaGreatDoor
namespace Go.Proofs.YtkbklooocdfcfaaGreatDoor
open Go.RowKit
def EntAt (w : World) (v : Value) (l : List (Int × Int)) : Prop :=
 ∃ A cap, v = .slice A l.length cap /\ (0 < l.length -> ∃ g o, A = some ⟨g, o, none⟩ /\ ∀ i e, l[i]? = some e -> w.cell? ⟨g, o + i * 2, none⟩ = some (uw e.1) /\ w.cell? ⟨g, o + i * 2 + 1, none⟩ = some (uw e.2))
theorem EntAt.low {w w' : World} {v : Value} {l : List (Int × Int)} (h : EntAt w v l) (hb : Below w.heap.size w w') : EntAt w' v l := by
 obtain ⟨A, cap, rfl, h⟩ := h
 refine ⟨A, cap, rfl, fun h0 => ?_⟩
 obtain ⟨g, o, rfl, hc⟩ := h h0
 refine ⟨g, o, rfl, fun i e he => ?_⟩
 obtain ⟨c1, c2⟩ := hc i e he
 exact ⟨(hb.cell (p := ⟨g, o + i * 2, none⟩) (w.block_lt_of_cell? _ c1)).trans c1, (hb.cell (p := ⟨g, o + i * 2 + 1, none⟩) (w.block_lt_of_cell? _ c2)).trans c2⟩
theorem ent_own {w : World} {B : Nat} {v : Value} {l : List (Int × Int)} (h : w.ownsRow B 94 2 v l.length (flatE l)) : EntAt w v l := by
 rcases h.2 with ⟨rfl, h0⟩ | ⟨g, cap, cur, rfl, _, _, _⟩
 ·exact ⟨none, 0, by rw [h0], fun h1 => by omega⟩
 ·refine ⟨_, cap, rfl, fun h0 => ⟨g, 0, rfl, fun i e he => ?_⟩⟩
  obtain ⟨f1, f2⟩ := flatE_at l i e he
  have c1 := h.cells (g := g) rfl _ _ f1
  have c2 := h.cells (g := g) rfl _ _ f2
  rw [Addr.add_mid] at c1 c2
  exact ⟨c1, by rw [Nat.add_assoc]; exact c2⟩
theorem getD_ent {l : List (Int × Int)} {k : Nat} (h : k < l.length) : l[k]? = some (l.getD k (0, 0)) := by
 rw [List.getD_eq_getElem?_getD, List.getElem?_eq_getElem h]
 rfl
def wi (n : Nd) : List Int := if isLv n = true then [5495893775785918464 + n.l, n.lo, n.nx, n.ct, n.fi, 0, 0, 0, n.k0, n.p0, n.k1, n.p1, n.k2, n.p2, n.k3, n.p3, n.k4, n.p4, n.k5, n.p5, n.k6, n.p6, n.k7, n.p7]
 else [0, 0, 0, 0, 0, 0, 0, 0, 0, 0, 0, 0, 0, 0, 0, 0, 0, 0, 0, 0, 0, 0, 0, 0]
theorem wi_len (n : Nd) : (wi n).length = 24 := by unfold wi; split <;> rfl
theorem wi_words (n : Nd) : wordsL n = (wi n).map uw := by unfold wordsL wi; split <;> rfl
theorem wi_of (n : Nd) : (0 <= wAt (wi n) 0 /\ wAt (wi n) 0 < 18446744073709551616) /\ ofR (wi n) = if isLv n = true then (n, 0) else (zeroNd, 11) := by
 by_cases h : isLv n = true
 ·have hb : 0 <= n.l /\ n.l <= 15 := by simpa [isLv] using h
  have e : wi n = [5495893775785918464 + n.l, n.lo, n.nx, n.ct, n.fi, 0, 0, 0, n.k0, n.p0, n.k1, n.p1, n.k2, n.p2, n.k3, n.p3, n.k4, n.p4, n.k5, n.p5, n.k6, n.p6, n.k7, n.p7] := by unfold wi; rw [if_pos h]
  have e0 : wAt (wi n) 0 = 5495893775785918464 + n.l := by rw [e]; rfl
  refine ⟨by rw [e0]; omega, ?_⟩
  unfold ofR
  rw [e0, if_pos (by omega), if_pos h, show 5495893775785918464 + n.l - 5495893775785918464 = n.l by omega, e]
  cases n
  simp [ofN, Nd.put, wAt]
 ·have e : wi n = [0, 0, 0, 0, 0, 0, 0, 0, 0, 0, 0, 0, 0, 0, 0, 0, 0, 0, 0, 0, 0, 0, 0, 0] := by unfold wi; rw [if_neg h]
  have e0 : wAt (wi n) 0 = 0 := by rw [e]; rfl
  refine ⟨by rw [e0]; omega, ?_⟩
  unfold ofR
  rw [e0, if_neg (by omega), if_neg h]
end Go.Proofs.YtkbklooocdfcfaaGreatDoor
namespace Go.Proofs.YtkbklooocdfcfaaGreatDoor
open Go.RowKit
attribute [local go_sem] Oper.semAt_some
def Nd.tr (n : Nd) (a b : Nat) : Nd := ⟨n.l, n.lo, n.nx, n.ct, n.fi, if 0 < a then n.k0 else 0, if 1 < a then n.k1 else 0, if 2 < a then n.k2 else 0, if 3 < a then n.k3 else 0, if 4 < a then n.k4 else 0, if 5 < a then n.k5 else 0, if 6 < a then n.k6 else 0, if 7 < a then n.k7 else 0, if 0 < b then n.p0 else 0, if 1 < b then n.p1 else 0, if 2 < b then n.p2 else 0, if 3 < b then n.p3 else 0, if 4 < b then n.p4 else 0, if 5 < b then n.p5 else 0, if 6 < b then n.p6 else 0, if 7 < b then n.p7 else 0⟩
theorem Nd.tr_key (n : Nd) (a b : Nat) {i : Nat} (hi : i < 8) : (n.tr a b).key i = if i < a then n.key i else 0 := by
 rcases lt8 hi with rfl | rfl | rfl | rfl | rfl | rfl | rfl | rfl <;> rfl
theorem Nd.tr_ptr (n : Nd) (a b : Nat) {i : Nat} (hi : i < 8) : (n.tr a b).ptr i = if i < b then n.ptr i else 0 := by
 rcases lt8 hi with rfl | rfl | rfl | rfl | rfl | rfl | rfl | rfl <;> rfl
def Nd.hd (n : Nd) : Int × Int × Int × Int × Int := (n.l, n.lo, n.nx, n.ct, n.fi)
theorem Nd.ext_of {n m : Nd} (h : n.hd = m.hd) (hk : ∀ i, i < 8 -> n.key i = m.key i) (hp : ∀ i, i < 8 -> n.ptr i = m.ptr i) : n = m := by
 obtain ⟨l, lo, nx, ct, fi, k0, k1, k2, k3, k4, k5, k6, k7, p0, p1, p2, p3, p4, p5, p6, p7⟩ := n
 obtain ⟨l', lo', nx', ct', fi', k0', k1', k2', k3', k4', k5', k6', k7', p0', p1', p2', p3', p4', p5', p6', p7'⟩ := m
 simp only [Nd.hd, Prod.mk.injEq] at h
 obtain ⟨rfl, rfl, rfl, rfl, rfl⟩ := h
 have a0 : k0 = k0' := hk 0 (by omega)
 have a1 : k1 = k1' := hk 1 (by omega)
 have a2 : k2 = k2' := hk 2 (by omega)
 have a3 : k3 = k3' := hk 3 (by omega)
 have a4 : k4 = k4' := hk 4 (by omega)
 have a5 : k5 = k5' := hk 5 (by omega)
 have a6 : k6 = k6' := hk 6 (by omega)
 have a7 : k7 = k7' := hk 7 (by omega)
 have b0 : p0 = p0' := hp 0 (by omega)
 have b1 : p1 = p1' := hp 1 (by omega)
 have b2 : p2 = p2' := hp 2 (by omega)
 have b3 : p3 = p3' := hp 3 (by omega)
 have b4 : p4 = p4' := hp 4 (by omega)
 have b5 : p5 = p5' := hp 5 (by omega)
 have b6 : p6 = p6' := hp 6 (by omega)
 have b7 : p7 = p7' := hp 7 (by omega)
 subst a0 a1 a2 a3 a4 a5 a6 a7 b0 b1 b2 b3 b4 b5 b6 b7
 rfl
def Nd.sk (n : Nd) (k : Nat) (v : Int) : Nd := match k with
 | 0 => { n with k0 := v } | 1 => { n with k1 := v } | 2 => { n with k2 := v } | 3 => { n with k3 := v } | 4 => { n with k4 := v } | 5 => { n with k5 := v } | 6 => { n with k6 := v } | _ => { n with k7 := v }
def Nd.sp (n : Nd) (k : Nat) (v : Int) : Nd := match k with
 | 0 => { n with p0 := v } | 1 => { n with p1 := v } | 2 => { n with p2 := v } | 3 => { n with p3 := v } | 4 => { n with p4 := v } | 5 => { n with p5 := v } | 6 => { n with p6 := v } | _ => { n with p7 := v }
theorem results_node1 {fn : Func} {p : Tmp} (h : fn.results = #[.cell p 71]) (tmps : Array Value) (w : World) (g : Nat) (n : Nd)
  (hp : tmps.getD p undef = .pointer (some ⟨g, 0, none⟩)) (hg : NdAt w g n) :
  (results fn tmps).run Tryz.prog w = .ok n.V w :=
 results_cell_row h tmps w g 71 n.cl.toArray _ _ hp hg Tryz.underlying71 rfl ndI
def TrK (n m : Nd) (i : Nat) : Prop := m.hd = n.hd /\ (∀ j, j < 8 -> m.ptr j = n.ptr j) /\ ∀ j, j < 8 -> m.key j = if n.len <= j /\ j < i then 0 else n.key j
def TrP (n m : Nd) (i : Nat) : Prop := m.hd = n.hd /\ (∀ j, j < 8 -> m.key j = n.key j) /\ ∀ j, j < 8 -> m.ptr j = if n.len <= j /\ j < i then 0 else n.ptr j
def TrB (n m : Nd) (i : Nat) : Prop := m.hd = n.hd /\ (∀ j, j < 8 -> m.key j = if n.len < j /\ j < i then 0 else n.key j) /\ ∀ j, j < 8 -> m.ptr j = if n.len <= j then 0 else n.ptr j
end Go.Proofs.YtkbklooocdfcfaaGreatDoor
namespace Go.Proofs.YtkbklooocdfcfaaGreatDoor
open Go.RowKit
def AdsAt (w : World) (v : Value) (l : List Int) : Prop :=
 ∃ A cap, v = .slice A l.length cap /\ (0 < l.length -> ∃ g o, A = some ⟨g, o, none⟩ /\ ∀ i x, l[i]? = some x -> w.cell? ⟨g, o + i, none⟩ = some (uw x))
theorem indexA_any {w : World} {g o cap : Nat} {l : List Int} (hc : ∀ i x, l[i]? = some x -> w.cell? ⟨g, o + i, none⟩ = some (uw x)) (hl : l.length <= 1000) (x : Int) :
  Calls Tryz.prog 177 #[.slice (some ⟨g, o, none⟩) l.length cap, .int .u64 x] w fun e w' => (∃ r : Int, e = .returned (.int .i64 r) /\ (0 <= r ↔ x ∈ l)) /\ w' = w := by
 obtain ⟨n, hn⟩ : ∃ n, n = l.length := ⟨_, rfl⟩
 have HC := Lib.hid (fun k (hk : k < n) => hc k _ (show l[k]? = some (l.getD k 0) by rw [List.getD_eq_getElem?_getD, List.getElem?_eq_getElem (by omega)]; rfl))
 have HM := Lib.hid (fun k (hk : k < n) => (show l.getD k 0 ∈ l by rw [List.getD_eq_getElem?_getD, List.getElem?_eq_getElem (by omega)]; exact List.getElem_mem _))
 have HN := Lib.hid (fun (h : ∀ j, j < n -> l.getD j 0 ≠ x) => (show ¬ x ∈ l by
  intro hx
  obtain ⟨j, hj, e⟩ := List.getElem_of_mem hx
  refine h j (by omega) ?_
  rw [List.getD_eq_getElem?_getD, List.getElem?_eq_getElem hj]
  exact e))
 rw [<- hn] at hl ⊢
 clear hc hn
 go_enter Tryz.func177, Tryz.ntmps177
 go_wp2
 go_loopw [8] (fun i wr => ∃ k : Nat, k <= n /\ i = .int .i64 (k : Int) /\ (∀ j, j < k -> l.getD j 0 ≠ x) /\ wr = w) (fun i _ => n - (intOf i).toNat)
 case atStart => exact ⟨0, by omega, rfl, fun j hj => by omega, rfl⟩
 case round =>
  obtain ⟨k, hk, rfl, ht, rfl⟩ := hrel
  have HT := Lib.hid ht
  clear ht
  by_cases hlt : k < n
  ·have c := HC.out k hlt
   obtain ⟨y, hy⟩ : ∃ y, y = l.getD k 0 := ⟨_, rfl⟩
   rw [<- hy] at c
   have HYd := Lib.hid hy
   clear hy
   unfold uw at c
   obtain rfl | hne : x = y \/ x ≠ y := by omega
   ·go_wp2
    go_ret
    refine ⟨⟨(k : Int), rfl, fun _ => ?_, fun _ => by omega⟩, rfl⟩
    have := HM.out k hlt
    rwa [<- HYd.out] at this
   ·go_wp2
    refine ⟨⟨k + 1, by omega, by go_num, fun j hj => ?_, by trivial⟩, by simp [intOf]; omega⟩
    rcases Nat.lt_or_ge j k with h1 | h1
    ·exact HT.out j h1
    ·obtain rfl : j = k := by omega
     rw [<- HYd.out]
     exact fun e => hne e.symm
  ·obtain rfl : k = n := by omega
   go_wp2
   go_ret
   exact ⟨⟨-1, rfl, fun h => absurd h (by decide), fun h => absurd h (HN.out fun j hj => HT.out j hj)⟩, rfl⟩
theorem contains_any {w : World} {g o cap : Nat} {l : List Int} (hc : ∀ i x, l[i]? = some x -> w.cell? ⟨g, o + i, none⟩ = some (uw x)) (hl : l.length <= 1000) (x : Int) :
  Calls Tryz.prog 163 #[.slice (some ⟨g, o, none⟩) l.length cap, .int .u64 x] w fun e w' => e = .returned (.bool (decide (x ∈ l))) /\ w' = w := by
 have HI := Lib.hid (indexA_any (cap := cap) hc hl x)
 obtain ⟨b, hb⟩ : ∃ b, b = decide (x ∈ l) := ⟨_, rfl⟩
 rw [<- hb]
 have HBd := Lib.hid hb
 clear hb hc
 generalize l.length = n at *
 go_enter Tryz.func163, Tryz.ntmps163
 go_wp2_with (go_at_call 177; refine HI.out.mono ?_; rintro e w' ⟨⟨r, rfl, hr⟩, rfl⟩)
 go_ret
 refine ⟨?_, rfl⟩
 rw [HBd.out]
 simp only [<- hr]
 rfl
def riseB : Int -> Bool -> List (Int × Int) -> Bool
 | _, _, [] => true
 | a, c, e :: t => if e.1 < a \/ (e.1 = a /\ c = false) then false else riseB e.1 false t
theorem rise_drop (l : List (Int × Int)) : ∀ (k : Nat) (a : Int) (c : Bool), k < l.length ->
  riseB a c (l.drop k) = if (l.getD k (0, 0)).1 < a \/ ((l.getD k (0, 0)).1 = a /\ c = false) then false else riseB (l.getD k (0, 0)).1 false (l.drop (k + 1)) := by
 intro k a c hk
 rw [List.drop_eq_getElem_cons hk, List.getD_eq_getElem?_getD, List.getElem?_eq_getElem hk]
 rfl
theorem nRise_any (n : Nd) {w : World} {v : Value} {l : List (Int × Int)} (h : EntAt w v l) (hl : l.length <= 1000) :
  Calls Tryz.prog 139 #[n.V, v] w fun e w' => e = .returned (.bool (riseB n.lo (decide (n.l = 0)) l)) /\ Below w.heap.size w w' := by
 have hE := h.low (alloc_low w (.cells n.cl.toArray 71))
 obtain ⟨A, cap, rfl, _⟩ := h
 obtain ⟨A2, cap2, hv2, hA⟩ := hE
 cases hv2
 have r0 := Row.new w 71 n.cl.toArray
 have c0 : (w.alloc (.cells n.cl.toArray 71)).cell? ⟨w.heap.size, 0, none⟩ = some (.int .i64 n.l) := ndAt_at r0 0
 have c1 : (w.alloc (.cells n.cl.toArray 71)).cell? ⟨w.heap.size, 1, none⟩ = some (.int .u64 n.lo) := ndAt_at r0 1
 obtain ⟨m, hm⟩ : ∃ m, m = l.length := ⟨_, rfl⟩
 have HA := Lib.hid (fun (h0 : 0 < m) => (show ∃ g o, A = some ⟨g, o, none⟩ /\ ∀ k, k < m -> (w.alloc (.cells n.cl.toArray 71)).cell? ⟨g, o + k * 2, none⟩ = some (uw (l.getD k (0, 0)).1) /\ (w.alloc (.cells n.cl.toArray 71)).cell? ⟨g, o + k * 2 + 1, none⟩ = some (uw (l.getD k (0, 0)).2) by
  obtain ⟨g, o, rfl, hc⟩ := hA (by omega)
  exact ⟨g, o, rfl, fun k hk => hc k _ (getD_ent (by omega))⟩))
 have HD := Lib.hid (fun k a c (hk : k < m) => rise_drop l k a c (by omega))
 have HE := Lib.hid (show l.drop m = [] by rw [hm]; exact List.drop_length)
 have hb0 := alloc_low w (.cells n.cl.toArray 71)
 obtain ⟨R, hR⟩ : ∃ R, R = riseB n.lo (decide (n.l = 0)) l := ⟨_, rfl⟩
 rw [<- hR, <- hm]
 rw [<- hm] at hl
 have HR := Lib.hid (show R = riseB n.lo (decide (n.l = 0)) (l.drop 0) by rw [hR]; rfl)
 clear hA hm r0 hR
 go_enter Tryz.func139, Tryz.ntmps139
 go_wp2_with fail
 go_quiet (fail)
 go_wp2_with fail
 obtain ⟨Wa, hWa⟩ : ∃ Wa, Wa = w.alloc (.cells n.cl.toArray 71) := ⟨_, rfl⟩
 rw [<- hWa] at HA hb0
 rw [<- hWa]
 have HB0 := Lib.hid hb0
 clear hWa hb0 c0 c1
 go_loopw [5, 6, 16] (fun u c i wr => ∃ (k : Nat) (a : Int) (b : Bool), k <= m /\ u = .int .u64 a /\ c = .bool b /\ i = .int .i64 (k : Int) /\ R = riseB a b (l.drop k) /\ Below Wa.heap.size Wa wr) (fun _ _ i _ => m - (intOf i).toNat)
 case atStart => exact ⟨0, _, _, by omega, rfl, by simp; rfl, rfl, HR.out, ⟨rfl, rfl, rfl, Nat.le_refl _, fun _ _ => rfl⟩⟩
 case round =>
  obtain ⟨k, a, b, hk, rfl, rfl, rfl, hr, hb⟩ := hrel
  by_cases hlt : k < m
  ·obtain ⟨g, o, hAe, hc⟩ := HA.out (by omega)
   obtain ⟨q1, q2⟩ := hc k hlt
   rw [HD.out k a b hlt] at hr
   have HRk := Lib.hid hr
   obtain ⟨e, he⟩ : ∃ e, e = l.getD k (0, 0) := ⟨_, rfl⟩
   rw [<- he] at q1 q2 HRk
   obtain ⟨ek, ep⟩ := e
   dsimp only at q1 q2 HRk
   have p1 := (hb.cell (p := ⟨g, o + k * 2, none⟩) (Wa.block_lt_of_cell? _ q1)).trans q1
   have p2 := (hb.cell (p := ⟨g, o + k * 2 + 1, none⟩) (Wa.block_lt_of_cell? _ q2)).trans q2
   have HBk := Lib.hid hb
   have hkb : k < 1000 := by omega
   subst hAe
   unfold uw at p1 p2
   clear hr hb hc q1 q2 he
   obtain h1 | h1 : ek < a \/ a <= ek := by omega
   ·rw [if_pos (Or.inl h1)] at HRk
    go_wp2
    go_ret
    exact ⟨by rw [HRk.out]; rfl, low_and HB0.out (low_and HBk.out (alloc_low _ _))⟩
   ·obtain h2 | h2 : ek = a \/ ek ≠ a := by omega
    ·subst h2
     cases b with
     | false =>
      rw [if_pos (Or.inr ⟨rfl, rfl⟩)] at HRk
      go_wp2
      go_ret
      exact ⟨by rw [HRk.out]; rfl, low_and HB0.out (low_and HBk.out (alloc_low _ _))⟩
     | true =>
      rw [if_neg (by simp)] at HRk
      go_wp2
      exact ⟨⟨k + 1, ek, false, by omega, rfl, rfl, by go_num, HRk.out, low_and HBk.out (alloc_low _ _)⟩, by simp [intOf]; omega⟩
    ·rw [if_neg (by omega)] at HRk
     have hne : (ek == a) = false := by simpa using h2
     go_wp2
     exact ⟨⟨k + 1, ek, false, by omega, rfl, rfl, by go_num, HRk.out, low_and HBk.out (alloc_low _ _)⟩, by simp [intOf]; omega⟩
  ·obtain rfl : k = m := by omega
   rw [HE.out] at hr
   have HRk := Lib.hid hr
   have HBk := Lib.hid hb
   clear hr hb
   go_wp2
   go_ret
   exact ⟨by rw [HRk.out]; rfl, low_and HB0.out HBk.out⟩
def unlB (f : Int) (l : List (Int × Int)) : Bool := decide (f :: l.map (·.2)).Nodup
theorem unl_no {f : Int} {l : List (Int × Int)} {k : Nat} (hk : k < l.length) (h : (l.getD k (0, 0)).2 ∈ f :: (l.take k).map (·.2)) : unlB f l = false := by
 unfold unlB
 rw [decide_eq_false_iff_not]
 intro hn
 have hs : l = l.take k ++ l.getD k (0, 0) :: l.drop (k + 1) := by
  rw [List.getD_eq_getElem?_getD, List.getElem?_eq_getElem hk]
  exact (List.take_append_drop k l).symm.trans (by rw [List.drop_eq_getElem_cons hk]; rfl)
 rw [hs, List.map_append, List.map_cons, <- List.cons_append, List.nodup_append] at hn
 exact hn.2.2 _ h _ (by simp) rfl
theorem unl_step {f : Int} {l : List (Int × Int)} {k : Nat} (hk : k < l.length) (h0 : (f :: (l.take k).map (·.2)).Nodup) (h : ¬ (l.getD k (0, 0)).2 ∈ f :: (l.take k).map (·.2)) : (f :: (l.take (k + 1)).map (·.2)).Nodup := by
 have : l.take (k + 1) = l.take k ++ [l.getD k (0, 0)] := by
  rw [List.take_succ_eq_append_getElem hk, List.getD_eq_getElem?_getD, List.getElem?_eq_getElem hk]
  rfl
 rw [this, List.map_append, <- List.cons_append, List.nodup_append]
 refine ⟨h0, by simp, fun a ha b hb e => ?_⟩
 simp at hb
 subst hb e
 exact h ha
theorem infoAddr8 : (Tryz.prog.info? 30).map (fun i => (i.zero, i.size, i.bytes)) = some (some (.int .u64 0), 1, 8) := by kernel_rfl
def metL (f : Int) (l : List (Int × Int)) (k : Nat) : List Int := f :: (l.take k).map (·.2)
theorem metL_len (f : Int) (l : List (Int × Int)) {k : Nat} (hk : k <= l.length) : (metL f l k).length = k + 1 := by simp [metL]; omega
theorem metL_succ (f : Int) (l : List (Int × Int)) {k : Nat} (hk : k < l.length) : metL f l (k + 1) = metL f l k ++ [(l.getD k (0, 0)).2] := by
 have : l.take (k + 1) = l.take k ++ [l.getD k (0, 0)] := by
  rw [List.take_succ_eq_append_getElem hk, List.getD_eq_getElem?_getD, List.getElem?_eq_getElem hk]
  rfl
 unfold metL
 rw [this, List.map_append]
 rfl
theorem nUnlike_any (n : Nd) {w : World} {v : Value} {l : List (Int × Int)} (h : EntAt w v l) (hl : l.length <= 900) :
  Calls Tryz.prog 140 #[n.V, v] w fun e w' => e = .returned (.bool (unlB n.fi l)) /\ Below w.heap.size w w' := by
 obtain ⟨i0, hi, hz0, hz1, hz2⟩ := info_parts infoAddr8
 obtain ⟨Wa, hWa⟩ : ∃ Wa, Wa = (w.alloc (.cells n.cl.toArray 71)).alloc (.cells #[.int .u64 n.fi] 30) := ⟨_, rfl⟩
 have hb0 : Below w.heap.size w Wa := by rw [hWa]; exact low_and (alloc_low _ _) (alloc_low _ _)
 obtain ⟨A, cap, rfl, hA⟩ := h
 have c4 : (w.alloc (.cells n.cl.toArray 71)).cell? ⟨w.heap.size, 4, none⟩ = some (.int .u64 n.fi) := ndAt_at (Row.new w 71 n.cl.toArray) 4
 have hsa : Wa.heap.size = w.heap.size + 2 := by rw [hWa]; simp
 have rm : Row Wa (w.heap.size + 1) 30 #[.int .u64 n.fi] := by
  rw [hWa]
  have := Row.new (w.alloc (.cells n.cl.toArray 71)) 30 #[.int .u64 n.fi]
  simpa only [World.size_alloc] using this
 have hown0 : Wa.ownsRow w.heap.size 30 1 (.slice (some ⟨w.heap.size + 1, 0, none⟩) 1 1) 1 ((metL n.fi l 0).map uw) := ⟨rfl, .inr ⟨_, 1, _, rfl, by omega, rm, by omega, by unfold maxLen; omega, by simp, rfl⟩⟩
 obtain ⟨m, hm⟩ : ∃ m, m = l.length := ⟨_, rfl⟩
 have HA := Lib.hid (fun (h0 : 0 < m) => (show ∃ g o, A = some ⟨g, o, none⟩ /\ ∀ k, k < m -> w.cell? ⟨g, o + k * 2, none⟩ = some (uw (l.getD k (0, 0)).1) /\ w.cell? ⟨g, o + k * 2 + 1, none⟩ = some (uw (l.getD k (0, 0)).2) by
  obtain ⟨g, o, rfl, hc⟩ := hA (by omega)
  exact ⟨g, o, rfl, fun k hk => hc k _ (getD_ent (by omega))⟩))
 obtain ⟨R, hR⟩ : ∃ R, R = unlB n.fi l := ⟨_, rfl⟩
 rw [<- hR, <- hm]
 rw [<- hm] at hl
 have HR := Lib.hid hR
 have HMs := Lib.hid (fun k (hk : k < m) => metL_succ n.fi l (k := k) (by omega))
 have HMl := Lib.hid (fun k (hk : k <= m) => metL_len n.fi l (k := k) (by omega))
 have HUn := Lib.hid (fun k (hk : k < m) h => unl_no (f := n.fi) (l := l) (k := k) (by omega) h)
 have HUs := Lib.hid (fun k (hk : k < m) h0 h => unl_step (f := n.fi) (l := l) (k := k) (by omega) h0 h)
 have HUd := Lib.hid (fun (h0 : (metL n.fi l m).Nodup) => (show unlB n.fi l = true by
  unfold metL at h0
  rw [hm, List.take_length] at h0
  unfold unlB
  rw [decide_eq_true_iff]
  exact h0))
 have HB0 := Lib.hid hb0
 have HOW0 := Lib.hid hown0
 have HWa := Lib.hid hWa
 clear hA hm rm hR hb0 hown0 hWa
 go_enter Tryz.func140, Tryz.ntmps140
 go_wp2_with fail
 rw [<- HWa.out]
 go_loopw [5, 13] (fun u i wr => ∃ k : Nat, k <= m /\ i = .int .i64 (k : Int) /\ wr.ownsRow w.heap.size 30 1 u (k + 1) ((metL n.fi l k).map uw) /\ (metL n.fi l k).Nodup /\ Below w.heap.size w wr) (fun _ i _ => m - (intOf i).toNat)
 case atStart => exact ⟨0, by omega, rfl, HOW0.out, by simp [metL], HB0.out⟩
 case round =>
  obtain ⟨k, hk, rfl, hown, hnd, hb⟩ := hrel
  have HBk := Lib.hid hb
  have HND := Lib.hid hnd
  by_cases hlt : k < m
  ·obtain ⟨g, o, hAe, hc⟩ := HA.out (by omega)
   obtain ⟨q1, q2⟩ := hc k hlt
   obtain ⟨e, he⟩ : ∃ e, e = l.getD k (0, 0) := ⟨_, rfl⟩
   rw [<- he] at q1 q2
   have hms := HMs.out k hlt
   have hun := HUn.out k hlt
   have hus := HUs.out k hlt hnd
   rw [<- he] at hms hun hus
   obtain ⟨ek, ep⟩ := e
   dsimp only at q1 q2 hms hun hus
   have p1 := (hb.cell (p := ⟨g, o + k * 2, none⟩) (w.block_lt_of_cell? _ q1)).trans q1
   have p2 := (hb.cell (p := ⟨g, o + k * 2 + 1, none⟩) (w.block_lt_of_cell? _ q2)).trans q2
   have hkb : k < 900 := by omega
   subst hAe
   unfold uw at p1 p2
   obtain ⟨g', cap', rfl⟩ := ownsRow_succ hown
   rename World => wr
   obtain ⟨We, hWe⟩ : ∃ We, We = wr.alloc (.cells #[.int .u64 ek, .int .u64 ep] 94) := ⟨_, rfl⟩
   have hbe : Below wr.heap.size wr We := by rw [hWe]; exact alloc_low _ _
   have hownE := ownS_low hown hbe
   have hlm := HMl.out k hk
   have HC := contains_any (w := We) (g := g') (o := 0) (cap := cap') (l := metL n.fi l k) (fun i x hx => by
    have := hownE.cells (g := g') rfl i (uw x) (by rw [List.getElem?_map, hx]; rfl)
    rwa [Addr.add_mid] at this) (by rw [hlm]; omega) ep
   rw [hlm] at HC
   have HC := Lib.hid HC
   have HOWE := Lib.hid hownE
   have HMS := Lib.hid hms
   have HUN := Lib.hid hun
   have HUS := Lib.hid hus
   have hbw : Below w.heap.size w We := hb.trans (hbe.mono hb.size)
   have HBW := Lib.hid hbw
   have e0 : We.cell? ⟨wr.heap.size, 0, none⟩ = some (.int .u64 ek) := by rw [hWe]; exact (Row.new wr 94 _).cell 0
   have e1 : We.cell? ⟨wr.heap.size, 1, none⟩ = some (.int .u64 ep) := by rw [hWe]; exact (Row.new wr 94 _).cell 1
   have HWE := Lib.hid hWe
   have a1 : (k + 1) + 1 <= maxLen := by unfold maxLen; omega
   have a2 : ((k + 1) + 1) * 8 <= 140737488355328 := by omega
   have a3 : w.heap.size <= We.heap.size := hbw.size
   clear hc q1 q2 he hms hun hus hown hownE hnd hb hbe hbw hWe hlm
   by_cases hin : ep ∈ metL n.fi l k
   ·have hf := HUN.out hin
    rw [decide_eq_true hin] at HC
    go_wp2_with (first | (rw [<- HWE.out]; fail) | (go_at_call 163; rw [<- HWE.out]; refine HC.out.mono ?_; rintro e w' ⟨rfl, rfl⟩))
    go_ret
    exact ⟨by rw [HR.out, hf]; rfl, HBW.out⟩
   ·have hnd' := HUS.out hin
    have HND' := Lib.hid hnd'
    rw [decide_eq_false hin] at HC
    clear hnd'
    go_wp2_with (first
     | (go_at_call 163; rw [<- HWE.out]; refine HC.out.mono ?_; rintro e w' ⟨rfl, rfl⟩)
     | (at_builtin; refine wpList_append_own _ rfl _ _ 174 rfl w.heap.size 30 i0 (.int .u64 0) 1 8 Tryz.underlying174 hi hz0 hz1 hz2 rfl (by decide) _ (k + 1) _ rfl (HOWE.out.alloc _) ⟨_, 0, none⟩ 1 1 [.int .u64 ep] rfl rfl (cell_one_new _ _ _) (by simp [Value.oneCell']) a1 a2 (by simp; omega) ?_; intro v' w1 hown' hgrow _))
    exact ⟨⟨k + 1, by omega, by go_num, by rw [HMS.out, List.map_append]; exact hown', HND'.out, (HBW.out.alloc a3 _).grown hgrow (by simp; omega) (fun b hb => (ownS_from HOWE.out b hb).1)⟩, by simp [intOf]; omega⟩
  ·obtain rfl : k = m := by omega
   have hu := HUd.out hnd
   have HU := Lib.hid (HR.out.trans hu)
   clear hown hnd hb hu
   go_wp2
   go_ret
   exact ⟨by rw [HU.out]; rfl, HBk.out⟩
def Nd.may (n : Nd) (high : Int) (has : Bool) : Bool :=
 (decide (0 <= n.l) && decide (n.l <= 15)) && (n.fi != 0) && !(has && decide (high <= n.lo)) && decide (n.len <= n.es.length + 1) && riseB n.lo (decide (n.l = 0)) n.es && unlB n.fi n.es
theorem nMay_any (n : Nd) (high : Int) (has : Bool) (w : World) : Calls Tryz.prog 112 #[n.V, .int .u64 high, .bool has] w fun e w' => e = .returned (.bool (n.may high has)) /\ Below w.heap.size w w' := by
 have r0 := Row.new w 71 n.cl.toArray
 have c0 : (w.alloc (.cells n.cl.toArray 71)).cell? ⟨w.heap.size, 0, none⟩ = some (.int .i64 n.l) := ndAt_at r0 0
 have c1 : (w.alloc (.cells n.cl.toArray 71)).cell? ⟨w.heap.size, 1, none⟩ = some (.int .u64 n.lo) := ndAt_at r0 1
 have c4 : (w.alloc (.cells n.cl.toArray 71)).cell? ⟨w.heap.size, 4, none⟩ = some (.int .u64 n.fi) := ndAt_at r0 4
 have HIs := Lib.hid (isLevel_any n.l (w.alloc (.cells n.cl.toArray 71)))
 have R0 := Lib.hid r0
 obtain ⟨R, hR⟩ : ∃ R, R = n.may high has := ⟨_, rfl⟩
 rw [<- hR]
 unfold Nd.may at hR
 obtain ⟨lv, hlv⟩ : ∃ lv, lv = (decide (0 <= n.l) && decide (n.l <= 15)) := ⟨_, rfl⟩
 rw [<- hlv] at hR HIs
 have HV := Lib.hid (nValid_any n (w.alloc (.cells n.cl.toArray 71)))
 have hes := n.es_len
 have hln := n.len_le
 have HB0 := Lib.hid (alloc_low w (.cells n.cl.toArray 71))
 clear hlv r0
 cases lv with
 | false =>
  have HR := Lib.hid (show R = false by rw [hR]; rfl)
  clear hR
  go_enter Tryz.func112, Tryz.ntmps112
  go_wp2_with (go_at_call 119; refine HIs.out.mono ?_; rintro e w' ⟨rfl, rfl⟩)
  go_ret
  exact ⟨by rw [HR.out]; rfl, HB0.out⟩
 | true =>
  obtain hf0 | hf0 : n.fi = 0 \/ n.fi ≠ 0 := by omega
  ·have HR := Lib.hid (show R = false by rw [hR, hf0]; rfl)
   rw [hf0] at c4
   clear hR
   go_enter Tryz.func112, Tryz.ntmps112
   go_wp2_with (go_at_call 119; refine HIs.out.mono ?_; rintro e w' ⟨rfl, rfl⟩)
   go_ret
   exact ⟨by rw [HR.out]; rfl, HB0.out⟩
  ·have hfb : (n.fi != 0) = true := by simpa using hf0
   have hfb2 : (n.fi == 0) = false := by simpa using hf0
   rw [hfb] at hR
   obtain hhb | hhb : (has && decide (high <= n.lo)) = true \/ (has && decide (high <= n.lo)) = false := by cases (has && decide (high <= n.lo)) <;> simp
   ·have HR := Lib.hid (show R = false by rw [hR, hhb]; rfl)
    simp only [Bool.and_eq_true, decide_eq_true_eq] at hhb
    obtain ⟨rfl, hle⟩ := hhb
    clear hR
    go_enter Tryz.func112, Tryz.ntmps112
    go_wp2_with (go_at_call 119; refine HIs.out.mono ?_; rintro e w' ⟨rfl, rfl⟩)
    go_ret
    exact ⟨by rw [HR.out]; rfl, HB0.out⟩
   ·rw [hhb] at hR
    replace hR : R = (decide (n.len <= n.es.length + 1) && riseB n.lo (decide (n.l = 0)) n.es && unlB n.fi n.es) := by rw [hR]; simp
    have HR := Lib.hid hR
    obtain ⟨Wa, hWa⟩ : ∃ Wa, Wa = w.alloc (.cells n.cl.toArray 71) := ⟨_, rfl⟩
    have HWa := Lib.hid hWa
    have d1 := c1
    have d4 := c4
    rw [<- hWa] at HIs HV R0 HB0 d1 d4
    have HRR := Lib.hid (fun W' (hb : Below Wa.heap.size Wa W') => (show NdAt W' w.heap.size n from R0.out.below hb R0.out.lt))
    have HLn := Lib.hid (fun W' => nlen_any n W')
    have HRi := Lib.hid (fun W' v (h : EntAt W' v n.es) => nRise_any n h (by omega))
    have HUn := Lib.hid (fun W' v (h : EntAt W' v n.es) => nUnlike_any n h (by omega))
    obtain ⟨Ln, hLn⟩ : ∃ Ln, Ln = n.len := ⟨_, rfl⟩
    have HLd := Lib.hid hLn
    rw [<- hLn] at hln
    obtain ⟨rb, hrb⟩ : ∃ rb, rb = riseB n.lo (decide (n.l = 0)) n.es := ⟨_, rfl⟩
    obtain ⟨ub, hub⟩ : ∃ ub, ub = unlB n.fi n.es := ⟨_, rfl⟩
    rw [<- hrb, <- hub, <- hLn] at hR
    have HR3 := Lib.hid hR
    rw [<- hrb] at HRi
    rw [<- hub] at HUn
    rw [<- hLn] at HLn
    clear hR hLn hrb hub hWa
    have hcase : has = false \/ (has = true /\ ¬ high <= n.lo) := by
     cases has with
     | false => exact .inl rfl
     | true => exact .inr ⟨rfl, by simpa using hhb⟩
    clear hhb
    obtain hL1 | hL1 : Ln <= n.es.length + 1 \/ ¬ Ln <= n.es.length + 1 := by omega
    ·have hL2 : (Ln : Int) - (n.es.length : Int) <= 1 := by omega
     cases rb with
     | false =>
      have HRf := Lib.hid (show R = false by rw [HR3.out]; simp)
      rcases hcase with rfl | ⟨rfl, hnle⟩
      ·go_enter Tryz.func112, Tryz.ntmps112
       go_wp2_with (first
        | (go_at_call 119; rw [<- HWa.out]; refine HIs.out.mono ?_; rintro e w' ⟨rfl, rfl⟩)
        | (refine wpList_load_mid rfl _ _ rfl w.heap.size 0 rfl n.cl _ (ndR (HRR.out _ (by first | assumption | exact Below.refl _ _))) Tryz.underlying71 rfl ndI ?_) | (refine wpList_load_midg (by rfl) _ _ rfl w.heap.size 0 rfl n.cl _ (ndR (HRR.out _ (by first | assumption | exact Below.refl _ _))) Tryz.underlying71 rfl ndI ?_)
        | (go_at_call 36; refine HV.out.mono ?_; rintro e w1 ⟨⟨v, rfl, ho⟩, hb1⟩; have hEA := ent_own ho; have HEA := Lib.hid hEA; obtain ⟨A, cap, rfl, _⟩ := hEA; clear ho)
        | (go_at_call 83; refine (HLn.out _).mono ?_; rintro e w2 ⟨rfl, hb2⟩; have HEA2 := Lib.hid (HEA.out.low hb2); have hb2 := low_and hb1 hb2)
        | (go_at_call 139; refine (HRi.out _ _ HEA2.out).mono ?_; rintro e w3 ⟨rfl, hb3⟩; have HEA3 := Lib.hid (HEA2.out.low hb3); have hb3 := low_and hb2 hb3))
       go_ret
       exact ⟨by rw [HRf.out]; rfl, low_and HB0.out hb3⟩
      ·go_enter Tryz.func112, Tryz.ntmps112
       go_wp2_with (first
        | (go_at_call 119; rw [<- HWa.out]; refine HIs.out.mono ?_; rintro e w' ⟨rfl, rfl⟩)
        | (refine wpList_load_mid rfl _ _ rfl w.heap.size 0 rfl n.cl _ (ndR (HRR.out _ (by first | assumption | exact Below.refl _ _))) Tryz.underlying71 rfl ndI ?_) | (refine wpList_load_midg (by rfl) _ _ rfl w.heap.size 0 rfl n.cl _ (ndR (HRR.out _ (by first | assumption | exact Below.refl _ _))) Tryz.underlying71 rfl ndI ?_)
        | (go_at_call 36; refine HV.out.mono ?_; rintro e w1 ⟨⟨v, rfl, ho⟩, hb1⟩; have hEA := ent_own ho; have HEA := Lib.hid hEA; obtain ⟨A, cap, rfl, _⟩ := hEA; clear ho)
        | (go_at_call 83; refine (HLn.out _).mono ?_; rintro e w2 ⟨rfl, hb2⟩; have HEA2 := Lib.hid (HEA.out.low hb2); have hb2 := low_and hb1 hb2)
        | (go_at_call 139; refine (HRi.out _ _ HEA2.out).mono ?_; rintro e w3 ⟨rfl, hb3⟩; have HEA3 := Lib.hid (HEA2.out.low hb3); have hb3 := low_and hb2 hb3))
       go_ret
       exact ⟨by rw [HRf.out]; rfl, low_and HB0.out hb3⟩
     | true =>
      have HRf := Lib.hid (show R = ub by rw [HR3.out]; simp [hL1])
      rcases hcase with rfl | ⟨rfl, hnle⟩
      ·go_enter Tryz.func112, Tryz.ntmps112
       go_wp2_with (first
        | (go_at_call 119; rw [<- HWa.out]; refine HIs.out.mono ?_; rintro e w' ⟨rfl, rfl⟩)
        | (refine wpList_load_mid rfl _ _ rfl w.heap.size 0 rfl n.cl _ (ndR (HRR.out _ (by first | assumption | exact Below.refl _ _))) Tryz.underlying71 rfl ndI ?_) | (refine wpList_load_midg (by rfl) _ _ rfl w.heap.size 0 rfl n.cl _ (ndR (HRR.out _ (by first | assumption | exact Below.refl _ _))) Tryz.underlying71 rfl ndI ?_)
        | (go_at_call 36; refine HV.out.mono ?_; rintro e w1 ⟨⟨v, rfl, ho⟩, hb1⟩; have hEA := ent_own ho; have HEA := Lib.hid hEA; obtain ⟨A, cap, rfl, _⟩ := hEA; clear ho)
        | (go_at_call 83; refine (HLn.out _).mono ?_; rintro e w2 ⟨rfl, hb2⟩; have HEA2 := Lib.hid (HEA.out.low hb2); have hb2 := low_and hb1 hb2)
        | (go_at_call 139; refine (HRi.out _ _ HEA2.out).mono ?_; rintro e w3 ⟨rfl, hb3⟩; have HEA3 := Lib.hid (HEA2.out.low hb3); have hb3 := low_and hb2 hb3)
        | (go_at_call 140; refine (HUn.out _ _ HEA3.out).mono ?_; rintro e w4 ⟨rfl, hb4⟩; have hb4 := low_and hb3 hb4))
       go_ret
       exact ⟨by rw [HRf.out]; rfl, low_and HB0.out hb4⟩
      ·go_enter Tryz.func112, Tryz.ntmps112
       go_wp2_with (first
        | (go_at_call 119; rw [<- HWa.out]; refine HIs.out.mono ?_; rintro e w' ⟨rfl, rfl⟩)
        | (refine wpList_load_mid rfl _ _ rfl w.heap.size 0 rfl n.cl _ (ndR (HRR.out _ (by first | assumption | exact Below.refl _ _))) Tryz.underlying71 rfl ndI ?_) | (refine wpList_load_midg (by rfl) _ _ rfl w.heap.size 0 rfl n.cl _ (ndR (HRR.out _ (by first | assumption | exact Below.refl _ _))) Tryz.underlying71 rfl ndI ?_)
        | (go_at_call 36; refine HV.out.mono ?_; rintro e w1 ⟨⟨v, rfl, ho⟩, hb1⟩; have hEA := ent_own ho; have HEA := Lib.hid hEA; obtain ⟨A, cap, rfl, _⟩ := hEA; clear ho)
        | (go_at_call 83; refine (HLn.out _).mono ?_; rintro e w2 ⟨rfl, hb2⟩; have HEA2 := Lib.hid (HEA.out.low hb2); have hb2 := low_and hb1 hb2)
        | (go_at_call 139; refine (HRi.out _ _ HEA2.out).mono ?_; rintro e w3 ⟨rfl, hb3⟩; have HEA3 := Lib.hid (HEA2.out.low hb3); have hb3 := low_and hb2 hb3)
        | (go_at_call 140; refine (HUn.out _ _ HEA3.out).mono ?_; rintro e w4 ⟨rfl, hb4⟩; have hb4 := low_and hb3 hb4))
       go_ret
       exact ⟨by rw [HRf.out]; rfl, low_and HB0.out hb4⟩
    ·have HRf := Lib.hid (show R = false by rw [HR3.out]; simp [hL1])
     rcases hcase with rfl | ⟨rfl, hnle⟩
     ·go_enter Tryz.func112, Tryz.ntmps112
      go_wp2_with (first
       | (go_at_call 119; rw [<- HWa.out]; refine HIs.out.mono ?_; rintro e w' ⟨rfl, rfl⟩)
       | (refine wpList_load_mid rfl _ _ rfl w.heap.size 0 rfl n.cl _ (ndR (HRR.out _ (by first | assumption | exact Below.refl _ _))) Tryz.underlying71 rfl ndI ?_) | (refine wpList_load_midg (by rfl) _ _ rfl w.heap.size 0 rfl n.cl _ (ndR (HRR.out _ (by first | assumption | exact Below.refl _ _))) Tryz.underlying71 rfl ndI ?_)
       | (go_at_call 36; refine HV.out.mono ?_; rintro e w1 ⟨⟨v, rfl, ho⟩, hb1⟩; have hEA := ent_own ho; have HEA := Lib.hid hEA; obtain ⟨A, cap, rfl, _⟩ := hEA; clear ho)
       | (go_at_call 83; refine (HLn.out _).mono ?_; rintro e w2 ⟨rfl, hb2⟩; have hb2 := low_and hb1 hb2))
      go_ret
      exact ⟨by rw [HRf.out]; rfl, low_and HB0.out (by assumption)⟩
     ·go_enter Tryz.func112, Tryz.ntmps112
      go_wp2_with (first
       | (go_at_call 119; rw [<- HWa.out]; refine HIs.out.mono ?_; rintro e w' ⟨rfl, rfl⟩)
       | (refine wpList_load_mid rfl _ _ rfl w.heap.size 0 rfl n.cl _ (ndR (HRR.out _ (by first | assumption | exact Below.refl _ _))) Tryz.underlying71 rfl ndI ?_) | (refine wpList_load_midg (by rfl) _ _ rfl w.heap.size 0 rfl n.cl _ (ndR (HRR.out _ (by first | assumption | exact Below.refl _ _))) Tryz.underlying71 rfl ndI ?_)
       | (go_at_call 36; refine HV.out.mono ?_; rintro e w1 ⟨⟨v, rfl, ho⟩, hb1⟩; have hEA := ent_own ho; have HEA := Lib.hid hEA; obtain ⟨A, cap, rfl, _⟩ := hEA; clear ho)
       | (go_at_call 83; refine (HLn.out _).mono ?_; rintro e w2 ⟨rfl, hb2⟩; have hb2 := low_and hb1 hb2))
      go_ret
      exact ⟨by rw [HRf.out]; rfl, low_and HB0.out (by assumption)⟩
end Go.Proofs.YtkbklooocdfcfaaGreatDoor
namespace Go.Proofs.YtkbklooocdfcfaaGreatDoor
open Go.RowKit Go.Shelf
attribute [local go_sem] Oper.semAt_some
def Nd.inv (n : Nd) : Int := match (List.range n.len).find? (fun i => !n.ok i) with | some i => (i : Int) | none => -1
theorem Nd.inv_at (n : Nd) {m : Nat} (hm : m < n.len) (hno : n.ok m = false) (hall : ∀ i, i < m -> n.ok i = true) : n.inv = (m : Int) := by
 have : (List.range n.len).find? (fun i => !n.ok i) = some m := by
  rw [List.find?_range_eq_some]
  exact ⟨by simp [hno], by simpa using hm, fun j hj => by simp [hall j hj]⟩
 unfold Nd.inv
 rw [this]
theorem Nd.inv_none (n : Nd) (hall : ∀ i, i < n.len -> n.ok i = true) : n.inv = -1 := by
 have : (List.range n.len).find? (fun i => !n.ok i) = none := by
  rw [List.find?_range_eq_none]
  exact fun j hj => by simp [hall j hj]
 unfold Nd.inv
 rw [this]
theorem Nd.vp_sorted (n : Nd) : n.vp.Pairwise (· < ·) := List.pairwise_lt_range.filter _
theorem Nd.mem_vp (n : Nd) {p : Nat} : p ∈ n.vp ↔ p < n.len /\ n.ok p = true := by simp [Nd.vp, Nd.vpTo]
theorem inv_stop {n : Nd} {m p : Nat} (h : List.range m ++ [p] <+: n.vp) (hp : p ≠ m) : n.inv = (m : Int) := by
 obtain ⟨r, hr⟩ := h
 have hs := n.vp_sorted
 rw [<- hr, List.append_assoc, List.pairwise_append] at hs
 obtain ⟨_, hs2, hs3⟩ := hs
 have hpv := (n.mem_vp (p := p)).1 (by rw [<- hr]; simp)
 have hall : ∀ i, i < m -> n.ok i = true := fun i hi => ((n.mem_vp (p := i)).1 (by rw [<- hr]; simp [hi])).2
 have hpm : m < p := by
  by_cases e : p < m
  ·exact absurd (hs3 p (by simpa using e) p (by simp)) (by omega)
  ·omega
 refine n.inv_at (by omega) ?_ hall
 by_cases e : n.ok m = true
 ·have hm : m ∈ n.vp := n.mem_vp.2 ⟨by omega, e⟩
  rw [<- hr, List.append_assoc, List.mem_append] at hm
  rcases hm with hm | hm
  ·simp at hm
  ·rcases List.mem_cons.1 hm with hm | hm
   ·omega
   ·have := (List.pairwise_cons.1 hs2).1 m hm
    omega
 ·simpa using e
theorem inv_done {n : Nd} {m : Nat} (h : n.vp = List.range m) : (m < n.len -> n.inv = (m : Int)) /\ (n.len <= m -> n.inv = -1) := by
 have hm : ∀ i, i < m ↔ (i < n.len /\ n.ok i = true) := fun i => by rw [<- n.mem_vp, h]; simp
 constructor
 ·intro hl
  refine n.inv_at hl ?_ fun i hi => ((hm i).1 hi).2
  by_cases e : n.ok m = true
  ·exact absurd ((hm m).2 ⟨hl, e⟩) (by omega)
  ·simpa using e
 ·intro hl
  exact n.inv_none fun i hi => ((hm i).1 (by omega)).2
theorem nInv_any (n : Nd) (w : World) : Calls Tryz.prog 115 #[n.V] w fun e W' => e = .returned (.int .i64 n.inv) /\ Below w.heap.size w W' := by
 obtain ⟨Wx, hWx⟩ : ∃ Wx, Wx = ((w.alloc (.cells n.cl.toArray 71)).alloc (.cells #[.int .i64 0] 3)).alloc (.cells #[.int .i64 0] 3) := ⟨_, rfl⟩
 have hsx : Wx.heap.size = w.heap.size + 3 := by rw [hWx]; simp
 have hbx : Below w.heap.size w Wx := by rw [hWx]; exact low_and (low_and (alloc_low _ _) (alloc_low _ _)) (alloc_low _ _)
 have r0 : NdAt Wx w.heap.size n := by rw [hWx]; exact ((Row.new _ _ _).alloc _).alloc _
 have r1 : Row Wx (w.heap.size + 1) 3 #[.int .i64 0] := by
  rw [hWx]
  have := Row.new (w.alloc (.cells n.cl.toArray 71)) 3 #[.int .i64 0]
  simp only [World.size_alloc] at this
  exact this.alloc _
 have r2 : Row Wx (w.heap.size + 1 + 1) 3 #[.int .i64 0] := by
  rw [hWx]
  have := Row.new ((w.alloc (.cells n.cl.toArray 71)).alloc (.cells #[.int .i64 0] 3)) 3 #[.int .i64 0]
  simpa only [World.size_alloc] using this
 have HWx := Lib.hid hWx
 have HR0 := Lib.hid r0
 clear hWx
 refine (callsIn_wide (n := 6)).1 ?_
 refine callsIn_of_wp_marks Tryz.func115 rfl trivial ?_ rfl
 simp only [Tryz.ntmps115, List.size_toArray, List.length_cons, List.length_nil, Nat.reduceAdd, Nat.reduceSub, Array.replicate_succ, Array.replicate_zero, List.push_toArray, List.append_toArray, List.nil_append, List.cons_append]
 gi_wp2_with (first | (rw [<- HWx.out]; refine wpListIn_load_mid (fun _ => trivial) rfl _ _ rfl w.heap.size 0 rfl n.cl _ (ndR HR0.out) Tryz.underlying71 rfl ndI ?_) | (refine ⟨trivial, ?_⟩; gi_at_call 108; refine (callsIn_wide.2 (valid_any n _)).mono ?_; rintro e w' ⟨rfl, rfl⟩))
 obtain ⟨W0, hW0⟩ : ∃ W0, W0 = Wx.alloc (.cells n.cl.toArray 71) := ⟨_, rfl⟩
 have h4 : NdAt W0 (w.heap.size + 3) n := by
  rw [hW0]
  have := Row.new Wx 71 n.cl.toArray
  rwa [hsx] at this
 have hb0 : Below Wx.heap.size Wx W0 := by rw [hW0]; exact alloc_low _ _
 have hs0 : W0.heap.size = w.heap.size + 4 := by rw [hW0]; simp [hsx]
 have f0 := Row.below r0 hb0 r0.lt
 have f1 := Row.below r1 hb0 r1.lt
 have f2 := Row.below r2 hb0 r2.lt
 have hbW : Below w.heap.size w W0 := low_and hbx hb0
 rw [<- hW0]
 have FB := Lib.hid hbW
 clear hW0 r1 r2 hb0 hbx HWx HR0 hbW hsx r0
 refine range_Q rfl (by omega) (gf := 137) (lb := #[.pointer (some ⟨w.heap.size + 3, 0, none⟩)]) rfl trivial (enters_of Tryz.func137 (by kernel_rfl) rfl) (bx := w.heap.size + 3) (by omega) (valid1_seq h4) (fun _ => rfl)
  (fun q pre W => w.heap.size + 4 <= q /\ w.heap.size + 4 <= W.heap.size /\ NdAt W w.heap.size n /\ Row W (w.heap.size + 1) 3 #[.int .i64 0] /\ Row W (w.heap.size + 1 + 1) 3 #[.int .i64 (pre.length : Int)] /\ pre = List.range pre.length /\ Below w.heap.size w W)
  (fun pre W => ∃ (m p : Nat), pre = List.range m ++ [p] /\ p ≠ m /\ W.cell? ⟨w.heap.size + 1, 0, none⟩ = some (.int .i64 (m : Int)) /\ Below w.heap.size w W)
  (fun q s A B row hs hg hr => ⟨hs.1, Nat.le_trans hs.2.1 hg.size, hs.2.2.1.grown hg (fun e => by have := (hr _ e.symm).1; omega), hs.2.2.2.1.grown hg (fun e => by have := (hr _ e.symm).1; omega), hs.2.2.2.2.1.grown hg (fun e => by have := (hr _ e.symm).1; omega), hs.2.2.2.2.2.1, hs.2.2.2.2.2.2.grown hg hs.2.2.2.2.2.2.size (fun k e => by have := (hr k e).1; omega)⟩)
  (fun s A B row hs hg hr => by
   obtain ⟨m, p, a1, a2, a3, a4⟩ := hs
   exact ⟨m, p, a1, a2, cell_kept a3 hg (fun r e => (hr r e).2), a4.grown hg a4.size (fun k e => by have := (hr k e).1; omega)⟩)
  ⟨by omega, by omega, f0, f1, f2, rfl, FB.out⟩
  (fun x V => { tmps := #[n.V, .pointer (some ⟨w.heap.size, 0, none⟩), .pointer (some ⟨w.heap.size + 1, 0, none⟩), .pointer (some ⟨w.heap.size + 1 + 1, 0, none⟩), .int .i64 (x : Int), .agg n.cl.toArray, .func (.func 137) #[] #[.pointer (some ⟨w.heap.size + 3, 0, none⟩)], .int .i64 (x : Int), .agg #[.int .u64 (n.key x), .int .u64 (n.ptr x)], undef, undef, undef, undef, undef, undef, undef, undef, undef, undef, undef], defers := [] })
  (fun x V => V) (fun x V => Below.refl _ _) ?assign ?body ?done ?stop
 case assign =>
  intro l x W K hK
  dsimp only [enc8N]
  gi_wp2
  exact hK
 case body =>
  rintro l q r pre x V W hx8 ⟨hq4, hWs, g0, g1, g2, hpre, hB⟩ hqr hrV hsz hcells hlen
  obtain ⟨m, hm⟩ : ∃ m, m = pre.length := ⟨_, rfl⟩
  rw [<- hm] at g2 hpre hlen
  have c1 := g1.cell 0
  have c2 := g2.cell 0
  have z1 := g1.free 0
  have z2 := g2.free 0
  simp only [List.getElem?_toArray, List.getElem?_cons_zero] at c1 c2
  have G0 := Lib.hid g0
  have G1 := Lib.hid g1
  have G2 := Lib.hid g2
  have HB := Lib.hid hB
  have HP := Lib.hid hpre
  have HM := Lib.hid hm
  clear g0 g1 g2 hB hpre hm hcells h4 f0 f1 f2
  obtain rfl | hne : x = m \/ x ≠ m := by omega
  ·gi_wp2
   refine ⟨KeepsOthers.setCell _ _ _, heap_setCell_other _ _ _ _ (by dsimp only; omega), fun o _ ho => (heap_setCell_other _ _ _ _ (by dsimp only; omega)).trans ho, W.heap.size, by simp, by omega, by simpa using hWs, G0.out.other (by dsimp only; omega) _, G1.out.other (by dsimp only; omega) _, ?_, ?_, HB.out.setCell (p := ⟨w.heap.size + 1 + 1, 0, none⟩) (by simp; omega) _⟩
   ·have := G2.out.set 0 (.int .i64 ((x : Int) + 1))
    rw [List.length_append, List.length_singleton, <- HM.out]
    simpa using this
   ·rw [List.length_append, List.length_singleton, <- HM.out, List.range_succ, <- HP.out]
  ·have hne' : ((x : Int) != (m : Int)) = true := by simp; omega
   gi_wp2
   refine ⟨KeepsOthers.setCell _ _ _, m, x, by rw [HP.out], hne, ?_, HB.out.setCell (p := ⟨w.heap.size + 1, 0, none⟩) (by simp) _⟩
   exact (G1.out.set 0 (.int .i64 (m : Int))).cell 0
 case done =>
  rintro D q xs W hD hxs ⟨hq4, hWs, g0, g1, g2, hpre, hB⟩ hK
  obtain ⟨m, hm⟩ : ∃ m, m = xs.length := ⟨_, rfl⟩
  rw [<- hm] at g2 hpre
  have HI := Lib.hid (inv_done (n := n) (m := m) (by rw [<- hxs]; exact hpre))
  have HLn := Lib.hid (nlen_any n W)
  have c1 := g1.cell 0
  have c2 := g2.cell 0
  have z1 := g1.free 0
  have z2 := g2.free 0
  simp only [List.getElem?_toArray, List.getElem?_cons_zero] at c1 c2
  have G0 := Lib.hid g0
  have G1 := Lib.hid g1
  have HB := Lib.hid hB
  have hm8 : m <= 8 := by have := n.vp_length; rw [hm, hxs]; exact this
  have hl8 := n.len_le
  have z2' : ∀ p : LowBy W, p.W.cell? ⟨w.heap.size + 1 + 1, 0, none⟩ = some (.int .i64 (m : Int)) := fun p => p.cell c2
  have hR := Lib.hid (fun (w' : World) (h : ∃ p : LowBy W, w' = p.W) => (show w'.rangeAt w.heap.size 0 n.cl by obtain ⟨p, rfl⟩ := h; exact ndR (G0.out.below p.low G0.out.lt)))
  have hC := Lib.hid (fun (p : LowBy W) => Calls.low_of (nlen_any n p.W))
  clear g0 g1 g2 hB hpre hm hxs h4 f0 f1 f2
  gi_wp2
  refine wpIn_wide.2 ?_
  refine wp_region_quiet_low (by kernel_rfl) (by kernel_rfl) ?_
  repeat (first | go_big_quiet_skip | (go_big_quiet_want; first | (refine quiet_load_mid 71 _ rfl w.heap.size 0 rfl n.cl _ hR.out Tryz.underlying71 rfl ndI ?_; simp only [Act.put, List.setIfInBounds_toArray, List.set_cons_succ, List.set_cons_zero]; go_big_quiet_on) | (go_big_quiet_op; first | go_big_quiet_on | go_big_quiet_call ((go_at_call 83; with_reducible exact hC.out _)))))
  refine wpQuiet_nil ?_
  intro _ hw'
  obtain ⟨p, hw''⟩ := hw'
  subst hw''
  have r1 := G1.out.below p.low G1.out.lt
  have c2 := p.cell c2
  have c1 := r1.cell 0
  have z1 := r1.free 0
  have hKp : p.W.heap[D]? = some (.deferred (some [])) := (p.low.block _ (Array.getElem?_eq_some_iff.1 hK).1).trans hK
  have HBp := Lib.hid (HB.out.trans (p.low.mono (show w.heap.size <= W.heap.size by omega)))
  have R1 := Lib.hid r1
  simp only [List.getElem?_toArray, List.getElem?_cons_zero] at c1
  clear r1 hK z2' hR hC HLn z2
  generalize p.W = Wp at *
  obtain hlt | hge : (m : Int) < (n.len : Int) \/ ¬ (m : Int) < (n.len : Int) := by omega
  ·have HE := Lib.hid (HI.out.1 (by omega))
   gi_wp2
   have hK' := (KeepsOthers.setCell Wp ⟨w.heap.size + 1, 0, none⟩ (.int .i64 (m : Int))).same D _ hKp rfl
   refine ⟨by simp, .inl ⟨_, _, rfl, run_takeDeferred hK', ?_⟩⟩
   have h0 := cell_kept ((R1.out.set 0 (.int .i64 (m : Int))).cell 0) (grownBy_putObj' _ D (.deferred none)) (fun r e => by cases e; exact ⟨_, hK', rfl⟩)
   refine ⟨.int .i64 (m : Int), ?_, by rw [HE.out], (HBp.out.setCell (p := ⟨w.heap.size + 1, 0, none⟩) (by dsimp only; omega) _).trans (belowK_b (w := w) (Nat.le_refl _) _ D _ _ (by omega) hK' rfl rfl)⟩
   simp [results, Tryz.f115, go_sem, h0]
  ·have HE := Lib.hid (HI.out.2 (by omega))
   gi_wp2
   have hK' := (KeepsOthers.setCell Wp ⟨w.heap.size + 1, 0, none⟩ (.int .i64 (-1))).same D _ hKp rfl
   refine ⟨by simp, .inl ⟨_, _, rfl, run_takeDeferred hK', ?_⟩⟩
   have h0 := cell_kept ((R1.out.set 0 (.int .i64 (-1))).cell 0) (grownBy_putObj' _ D (.deferred none)) (fun r e => by cases e; exact ⟨_, hK', rfl⟩)
   refine ⟨.int .i64 (-1), ?_, by rw [HE.out], (HBp.out.setCell (p := ⟨w.heap.size + 1, 0, none⟩) (by dsimp only; omega) _).trans (belowK_b (w := w) (Nat.le_refl _) _ D _ _ (by omega) hK' rfl rfl)⟩
   simp [results, Tryz.f115, go_sem, h0]
 case stop =>
  rintro D pre W hD hpre ⟨m, p, rfl, hne, hc, hB⟩ hK
  have HE := Lib.hid (inv_stop hpre hne)
  clear h4 f0 f1 f2
  gi_wp2
  refine ⟨by simp, .inl ⟨_, _, rfl, run_takeDeferred hK, ?_⟩⟩
  have hk0 := cell_kept hc (grownBy_putObj' _ D (.deferred none)) (fun r e => by cases e; exact ⟨_, hK, rfl⟩)
  refine ⟨.int .i64 (m : Int), ?_, by rw [HE.out], hB.trans (belowK_b (w := w) (Nat.le_refl _) W D _ _ (by omega) hK rfl rfl)⟩
  simp [results, Tryz.f115, go_sem, hk0]
end Go.Proofs.YtkbklooocdfcfaaGreatDoor
namespace Go.Proofs.YtkbklooocdfcfaaGreatDoor
open Go.RowKit
def ll : List (Int × Int) -> Nat
 | [] => 0
 | e :: t => if e.2 = 0 then 0 else ll t + 1
def vl : Int -> List (Int × Int) -> List (Int × Int)
 | _, [] => []
 | a, e :: t => if e.2 = 0 then [] else if e.2 = a then vl e.2 t else e :: vl e.2 t
def ahL (a : Int) (l : List (Int × Int)) (i : Nat) : Int := if i = 0 then a else (l.getD (i - 1) (0, 0)).2
def Zok (Z : List (Int × Int)) : Prop := Z = [] \/ ∃ k t, Z = (k, 0) :: t
def lastP (a : Int) (l : List (Int × Int)) : Int := match l.getLast? with | some e => e.2 | none => a
def Good : Int -> List (Int × Int) -> Prop
 | _, [] => True
 | a, e :: t => e.2 ≠ 0 /\ e.2 ≠ a /\ Good e.2 t
def Nd.sl (n : Nd) : List (Int × Int) := [(n.k0, n.p0), (n.k1, n.p1), (n.k2, n.p2), (n.k3, n.p3), (n.k4, n.p4), (n.k5, n.p5), (n.k6, n.p6), (n.k7, n.p7)]
structure SW (n : Nd) (E Z : List (Int × Int)) : Prop where
 sl : n.sl = E ++ Z
 z : Zok Z
 good : Good n.fi E
structure SG (n : Nd) (A B Z : List (Int × Int)) (x : Int) : Prop where
 sl : n.sl = A ++ (x, lastP n.fi A) :: (B ++ Z)
 z : Zok Z
 good : Good n.fi (A ++ B)
 fi : n.fi ≠ 0
def Nd.setK (n : Nd) (i : Nat) (x : Int) : Nd := match i with
 | 0 => { n with k0 := x } | 1 => { n with k1 := x } | 2 => { n with k2 := x } | 3 => { n with k3 := x } | 4 => { n with k4 := x } | 5 => { n with k5 := x } | 6 => { n with k6 := x } | _ => { n with k7 := x }
def Nd.setP (n : Nd) (i : Nat) (x : Int) : Nd := match i with
 | 0 => { n with p0 := x } | 1 => { n with p1 := x } | 2 => { n with p2 := x } | 3 => { n with p3 := x } | 4 => { n with p4 := x } | 5 => { n with p5 := x } | 6 => { n with p6 := x } | _ => { n with p7 := x }
def ap (base : Int) (n : Nd) (s : Int × Int) : Option Nd :=
 if s.1 = base + 8 then some { n with lo := s.2 } else if s.1 = base + 16 then some { n with nx := s.2 } else if s.1 = base + 24 then some { n with ct := s.2 } else if s.1 = base + 32 then some { n with fi := s.2 }
 else if 64 <= s.1 - base /\ s.1 - base < 192 /\ (s.1 - base) % 8 = 0 then (if (s.1 - base) % 16 = 0 then some (n.setK ((s.1 - base - 64) / 16).toNat s.2) else some (n.setP ((s.1 - base - 64) / 16).toNat s.2)) else none
def kA (base : Int) (i : Nat) : Int := base + 64 + 16 * i
def pA (base : Int) (i : Nat) : Int := base + 72 + 16 * i
theorem ap_k (base : Int) (n : Nd) {i : Nat} (hi : i < 8) (x : Int) : ap base n (kA base i, x) = some (n.setK i x) := by
 unfold ap kA
 dsimp only
 rw [if_neg (by omega), if_neg (by omega), if_neg (by omega), if_neg (by omega), if_pos (by omega), if_pos (by omega), show ((base + 64 + 16 * (i : Int) - base - 64) / 16).toNat = i by omega]
theorem ap_p (base : Int) (n : Nd) {i : Nat} (hi : i < 8) (x : Int) : ap base n (pA base i, x) = some (n.setP i x) := by
 unfold ap pA
 dsimp only
 rw [if_neg (by omega), if_neg (by omega), if_neg (by omega), if_neg (by omega), if_pos (by omega), if_neg (by omega), show ((base + 72 + 16 * (i : Int) - base - 64) / 16).toNat = i by omega]
def Steps (base : Int) (P : Nd -> Prop) : Nd -> List (Int × Int) -> Nd -> Prop
 | n, [], m => P n /\ m = n
 | n, s :: l, m => P n /\ ∃ n', ap base n s = some n' /\ Steps base P n' l m
structure Kept (n m : Nd) : Prop where
 l : m.l = n.l
 lo : m.lo = n.lo
 fi : m.fi = n.fi
structure Fit (n : Nd) (E : List (Int × Int)) : Prop where
 lv : 0 <= n.l /\ n.l <= 15
 fi : n.fi ≠ 0
 rise : riseB n.lo (decide (n.l = 0)) E = true
 unl : unlB n.fi E = true
def Has (E : List (Int × Int)) (n : Nd) : Prop := n.may 0 false = true /\ n.es = E
end Go.Proofs.YtkbklooocdfcfaaGreatDoor
