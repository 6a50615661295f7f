/- Active, Valid: a node's valid entries below a bound, in new memory; of any node, any bound; without conditions. -/
import Derived.Test.YtaegaeljakdffaaDoorN8It
import Derived.Test.YtaegaeljakdffaaDoorQLoad
namespace Go.Proofs.YtaegaeljakdffaaDoor
open Go.RowKit Go.Shelf
set_option linter.unusedVariables false
attribute [local go_sem] Oper.semAt_some

theorem ownS_cells {w : World} {B s n g : Nat} {e : TypeId} {v : Value} {xs : List Value} (h : w.ownsRow B e s v n xs) (hg : v.ownBlock = some g) : ∃ cs t, w.heap[g]? = some (.cells cs t (0, 0)) := by
  rcases h.2 with ⟨rfl, _⟩ | ⟨g', cap, cur, rfl, _, hh, _⟩
  · cases hg
  · have : g' = g := by injection hg
    subst this
    exact ⟨_, _, hh⟩
theorem ownS_grown {w w' : World} {B s n : Nat} {e : TypeId} {v : Value} {xs : List Value} {row : Option Nat} (h : w.ownsRow B e s v n xs) (hg : w.grownBy w' row) (hr : ∀ q, row = some q → ∃ o : Obj, w.heap[q]? = some o ∧ o.isCells = false) : w'.ownsRow B e s v n xs := by
  refine ⟨h.1, ?_⟩
  rcases h.2 with h0 | ⟨g, cap, cur, rfl, hb, hh, hrest⟩
  · exact .inl h0
  · refine .inr ⟨g, cap, cur, rfl, hb, (hg.block g (Array.getElem?_eq_some_iff.1 hh).1 ?_).trans hh, hrest⟩
    intro e
    obtain ⟨o, ho, hc⟩ := hr g e.symm
    rw [hh] at ho
    cases ho
    cases hc
theorem ownS_from {w : World} {B s n : Nat} {e : TypeId} {v : Value} {xs : List Value} (h : w.ownsRow B e s v n xs) : ∀ k, v.ownBlock = some k → B ≤ k ∧ k < w.heap.size := by
  intro k hk
  rcases h.2 with ⟨rfl, _⟩ | ⟨g', cap, cur, rfl, hb, hh, _⟩
  · cases hk
  · have : g' = k := by injection hk
    subst this
    exact ⟨hb, (Array.getElem?_eq_some_iff.1 hh).1⟩
theorem ownS_set {w : World} {B s n : Nat} {e : TypeId} {v : Value} {xs : List Value} (h : w.ownsRow B e s v n xs) {p : Addr} (hne : ∀ g, v.ownBlock = some g → g ≠ p.block) (u : Value) : (w.setCell p u).ownsRow B e s v n xs := by
  refine ⟨h.1, ?_⟩
  rcases h.2 with h0 | ⟨g, cap, cur, rfl, hg, hh, hr⟩
  · exact .inl h0
  · exact .inr ⟨g, cap, cur, rfl, hg, (heap_setCell_other w p g u (hne g rfl)).trans hh, hr⟩
theorem ownS_mono {w : World} {B B' s n : Nat} {e : TypeId} {v : Value} {xs : List Value} (h : w.ownsRow B e s v n xs) (hb : B' ≤ B) : w.ownsRow B' e s v n xs := by
  refine ⟨h.1, ?_⟩
  rcases h.2 with h0 | ⟨g, cap, cur, rfl, hg, hr⟩
  · exact .inl h0
  · exact .inr ⟨g, cap, cur, rfl, Nat.le_trans hb hg, hr⟩
theorem ownS_low {w w' : World} {B s n : Nat} {e : TypeId} {v : Value} {xs : List Value} (h : w.ownsRow B e s v n xs) (hb : Below w.heap.size w w') : w'.ownsRow B e s v n xs := ownS_grown h (low_grown hb) (fun q e => by cases e)
/-- Entries, as they lie. -/
def flatE (l : List (Int × Int)) : List Value := l.flatMap fun e => [uw e.1, uw e.2]
theorem flatE_len (l : List (Int × Int)) : (flatE l).length = 2 * l.length := by
  induction l with
  | nil => rfl
  | cons a t ih =>
    have : flatE (a :: t) = uw a.1 :: uw a.2 :: flatE t := rfl
    rw [this, List.length_cons, List.length_cons, List.length_cons, ih]
    omega
theorem flatE_snoc (l : List (Int × Int)) (e : Int × Int) : flatE (l ++ [e]) = flatE l ++ [uw e.1, uw e.2] := by simp [flatE]
theorem flatE_at : ∀ (l : List (Int × Int)) (i : Nat) (e : Int × Int), l[i]? = some e → (flatE l)[i * 2]? = some (uw e.1) ∧ (flatE l)[i * 2 + 1]? = some (uw e.2)
  | [], i, e, h => by simp at h
  | a :: t, 0, e, h => by
    simp only [List.getElem?_cons_zero, Option.some.injEq] at h
    subst h
    exact ⟨rfl, rfl⟩
  | a :: t, i + 1, e, h => by
    simp only [List.getElem?_cons_succ] at h
    have := flatE_at t i e h
    rw [show (i + 1) * 2 = i * 2 + 2 by omega]
    exact this
/-- The valid entries below a bound. -/
def Nd.ent (n : Nd) (p : Nat) : Int × Int := (n.key p, n.ptr p)
def Nd.inB (n : Nd) (high : Int) (has : Bool) (p : Nat) : Bool := !has || decide (n.key p < high)
def actL (n : Nd) (high : Int) (has : Bool) (l : List Nat) : List (Int × Int) := (l.filter (n.inB high has)).map n.ent
theorem actL_yes {n : Nd} {high : Int} {has : Bool} {l : List Nat} {x : Nat} (h : n.inB high has x = true) : actL n high has (l ++ [x]) = actL n high has l ++ [n.ent x] := by simp [actL, h]
theorem actL_no {n : Nd} {high : Int} {has : Bool} {l : List Nat} {x : Nat} (h : n.inB high has x = false) : actL n high has (l ++ [x]) = actL n high has l := by simp [actL, h]
theorem actL_len (n : Nd) (high : Int) (has : Bool) (l : List Nat) : (actL n high has l).length ≤ l.length := by
  unfold actL
  rw [List.length_map]
  exact List.length_filter_le _ _
def Nd.act (n : Nd) (high : Int) (has : Bool) : List (Int × Int) := actL n high has n.vp
/-- All valid entries. -/
def Nd.es (n : Nd) : List (Int × Int) := n.vp.map n.ent
theorem act_all (n : Nd) (high : Int) : n.act high false = n.es := by
  unfold Nd.act actL Nd.es
  congr 1
  exact List.filter_eq_self.2 fun p _ => rfl
theorem Nd.es_len (n : Nd) : n.es.length ≤ 8 := by unfold Nd.es; rw [List.length_map]; exact n.vp_length
theorem Nd.act_len (n : Nd) (high : Int) (has : Bool) : (n.act high has).length ≤ 8 := Nat.le_trans (actL_len _ _ _ _) n.vp_length
def ActI (w : World) (n : Nd) (high : Int) (has : Bool) (q : Nat) (pre : List Nat) (W : World) : Prop :=
  w.heap.size + 5 ≤ q ∧ w.heap.size + 5 ≤ W.heap.size ∧ Row W (w.heap.size + 1) 22 #[.int .u64 high] ∧ Row W (w.heap.size + 1 + 1) 4 #[.bool has] ∧ Below w.heap.size w W ∧
  ∃ v, Row W (w.heap.size + 1 + 1 + 1) 41 #[v] ∧ W.ownsRow (w.heap.size + 5) 39 2 v (actL n high has pre).length (flatE (actL n high has pre)) ∧ ∀ g, v.ownBlock = some g → g < q
theorem infoEntry : (Tryd.prog.info? 39).map (fun i => (i.zero, i.size, i.bytes)) = some (some (.agg #[.int .u64 0, .int .u64 0]), 2, 16) := by kernel_rfl
set_option maxRecDepth 100000 in
set_option maxHeartbeats 4000000 in
theorem nActive_any (n : Nd) (high : Int) (has : Bool) (w : World) : Calls Tryd.prog 31 #[n.V, .int .u64 high, .bool has] w fun e W' =>
    (∃ v, e = .returned v ∧ W'.ownsRow w.heap.size 39 2 v (n.act high has).length (flatE (n.act high has))) ∧ Below w.heap.size w W' := by
  obtain ⟨i0, hi, hz0, hz1, hz2⟩ := info_parts infoEntry
  obtain ⟨Wx, hWx⟩ : ∃ Wx, Wx = (((w.alloc (.cells n.cl.toArray 27)).alloc (.cells #[.int .u64 high] 22)).alloc (.cells #[.bool has] 4)).alloc (.cells #[.slice none 0 0] 41) := ⟨_, rfl⟩
  have hsx : Wx.heap.size = w.heap.size + 4 := by rw [hWx]; simp
  have hbx : Below w.heap.size w Wx := by rw [hWx]; exact low_and (low_and (low_and (alloc_low _ _) (alloc_low _ _)) (alloc_low _ _)) (alloc_low _ _)
  have r0 : NdAt Wx w.heap.size n := by rw [hWx]; exact (((Row.new _ _ _).alloc _).alloc _).alloc _
  have r1 : Row Wx (w.heap.size + 1) 22 #[.int .u64 high] := by
    rw [hWx]
    have := Row.new (w.alloc (.cells n.cl.toArray 27)) 22 #[.int .u64 high]
    simp only [World.size_alloc] at this
    exact (this.alloc _).alloc _
  have r2 : Row Wx (w.heap.size + 1 + 1) 4 #[.bool has] := by
    rw [hWx]
    have := Row.new ((w.alloc (.cells n.cl.toArray 27)).alloc (.cells #[.int .u64 high] 22)) 4 #[.bool has]
    simp only [World.size_alloc] at this
    exact this.alloc _
  have r3 : Row Wx (w.heap.size + 1 + 1 + 1) 41 #[.slice none 0 0] := by
    rw [hWx]
    have := Row.new (((w.alloc (.cells n.cl.toArray 27)).alloc (.cells #[.int .u64 high] 22)).alloc (.cells #[.bool has] 4)) 41 #[.slice none 0 0]
    simpa only [World.size_alloc] using this
  have HWx := Lib.hid hWx
  have HR0 := Lib.hid r0
  clear hWx r0
  refine (callsIn_wide (n := 6)).1 ?_
  refine callsIn_of_wp_marks Tryd.func31 rfl trivial ?_ rfl
  simp only [Tryd.ntmps31, List.size_toArray, List.length_cons, List.length_nil, Nat.reduceAdd, Nat.reduceSub, Array.replicate_succ, Array.replicate_zero, List.push_toArray, List.append_toArray, List.nil_append, List.cons_append]
  gi_wp2_with (first | (rw [← HWx.out]; refine wpListIn_load_mid (fun _ => trivial) rfl _ _ rfl w.heap.size 0 rfl n.cl _ (ndR HR0.out) Tryd.underlying27 rfl ndI ?_) | (refine ⟨trivial, ?_⟩; gi_at_call 10; refine (callsIn_wide.2 (valid_any n _)).mono ?_; rintro e w' ⟨rfl, rfl⟩))
  obtain ⟨W0, hW0⟩ : ∃ W0, W0 = Wx.alloc (.cells n.cl.toArray 27) := ⟨_, rfl⟩
  have h4 : NdAt W0 (w.heap.size + 4) n := by
    rw [hW0]
    have := Row.new Wx 27 n.cl.toArray
    rwa [hsx] at this
  have hb0 : Below Wx.heap.size Wx W0 := by rw [hW0]; exact alloc_low _ _
  have hs0 : W0.heap.size = w.heap.size + 5 := by rw [hW0]; simp [hsx]
  have f1 := Row.below r1 hb0 r1.lt
  have f2 := Row.below r2 hb0 r2.lt
  have f3 := Row.below r3 hb0 r3.lt
  have hbW : Below w.heap.size w W0 := low_and hbx hb0
  rw [← hW0]
  have hI0 : ActI w n high has W0.heap.size [] W0 := ⟨by omega, by omega, f1, f2, hbW, _, f3, World.ownsRow_nil _ _ _ _, fun g hg => by cases hg⟩
  clear hW0 r1 r2 r3 hb0 hbx HWx HR0 hbW hsx f1 f2 f3
  refine range_Q rfl (by omega) (gf := 23) (lb := #[.pointer (some ⟨w.heap.size + 4, 0, none⟩)]) rfl trivial (enters_of Tryd.func23 (by kernel_rfl) rfl) (bx := w.heap.size + 4) (by omega) (valid1_seq h4) (fun _ => rfl)
    (ActI w n high has) (fun pre W => False)
    (fun q s A B row hs hg hr => by
      obtain ⟨h1, h2, h3, h4, h5, v, h6, h7, h8⟩ := hs
      exact ⟨h1, Nat.le_trans h2 hg.size, h3.grown hg (fun e => by have := (hr _ e.symm).1; omega), h4.grown hg (fun e => by have := (hr _ e.symm).1; omega), h5.grown hg h5.size (fun k e => by have := (hr k e).1; omega), v, h6.grown hg (fun e => by have := (hr _ e.symm).1; omega), ownS_grown h7 hg (fun k e => (hr k e).2), h8⟩)
    (fun s A B row hs hg hr => hs)
    hI0
    (fun x V => { tmps := #[n.V, .int .u64 high, .bool has, .pointer (some ⟨w.heap.size, 0, none⟩), .pointer (some ⟨w.heap.size + 1, 0, none⟩), .pointer (some ⟨w.heap.size + 1 + 1, 0, none⟩), .slice none 0 0, .pointer (some ⟨w.heap.size + 1 + 1 + 1, 0, none⟩), undef, .pointer (some ⟨V.heap.size, 0, none⟩), .agg n.cl.toArray, .func (.func 23) #[] #[.pointer (some ⟨w.heap.size + 4, 0, none⟩)], .int .i64 (x : Int), .agg #[.int .u64 (n.key x), .int .u64 (n.ptr x)], undef, undef, undef, undef, undef, undef, undef, undef, undef, undef, undef, undef, undef], defers := [] })
    (fun x V => V.alloc (.cells #[.int .u64 (n.key x), .int .u64 (n.ptr x)] 39)) (fun x V => alloc_low _ _) ?assign ?body ?done ?stop
  case assign =>
    intro l x W K hK
    dsimp only [enc8N]
    gi_wp2
    exact hK
  case body =>
    rintro l q r pre x V W hx8 ⟨hq4, hWs, g1, g2, hB, v, g3, hown, hob⟩ hqr hrV hsz hcells hlen
    have hE : Row W V.heap.size 39 #[.int .u64 (n.key x), .int .u64 (n.ptr x)] := hcells _ _ rfl (Row.new V 39 _)
    obtain ⟨vs, hvs⟩ : ∃ vs, vs = V.heap.size := ⟨_, rfl⟩
    rw [← hvs] at hE hrV
    simp only [World.size_alloc] at hsz
    rw [← hvs] at hsz
    rw [← hvs]
    have e0 := hE.cell 0
    have e1 := hE.cell 1
    simp only [List.getElem?_toArray, List.getElem?_cons_succ, List.getElem?_cons_zero] at e0 e1
    have c1 := g1.cell 0
    have c2 := g2.cell 0
    have c3 := g3.cell 0
    simp only [List.getElem?_toArray, List.getElem?_cons_zero] at c1 c2 c3
    have hyes := actL_yes (n := n) (high := high) (has := has) (l := pre) (x := x)
    have hno := actL_no (n := n) (high := high) (has := has) (l := pre) (x := x)
    have hin : n.inB high has x = (!has || decide (n.key x < high)) := rfl
    have hent : n.ent x = (n.key x, n.ptr x) := rfl
    obtain ⟨k, hk⟩ : ∃ k, k = n.key x := ⟨_, rfl⟩
    obtain ⟨y, hy⟩ : ∃ y, y = n.ptr x := ⟨_, rfl⟩
    rw [← hk, ← hy] at hE hent
    rw [← hk] at e0 hin
    rw [← hy] at e1
    rw [← hk, ← hy]
    obtain ⟨L, hL⟩ : ∃ L, L = actL n high has pre := ⟨_, rfl⟩
    rw [← hL] at hyes hno hown
    have hLl : L.length < 8 := by rw [hL]; exact Nat.lt_of_le_of_lt (actL_len _ _ _ _) hlen
    obtain ⟨m, hm⟩ : ∃ m, m = L.length := ⟨_, rfl⟩
    rw [← hm] at hown hLl
    have HY := Lib.hid hyes
    have HNo := Lib.hid hno
    have HIn := Lib.hid hin
    have HEnt := Lib.hid hent
    have HLd := Lib.hid hL
    have HMd := Lib.hid hm
    have G1 := Lib.hid g1
    have G2 := Lib.hid g2
    have G3 := Lib.hid g3
    have HB := Lib.hid hB
    have HOWN := Lib.hid hown
    have HOB := Lib.hid hob
    have a1 : m + 1 ≤ maxLen := by unfold maxLen; omega
    have a2 : (m + 1) * 16 ≤ 140737488355328 := by omega
    have hobn : ∀ g, v.ownBlock = some g → w.heap.size + 5 ≤ g := fun g hg => (ownS_from hown g hg).1
    have HOBN := Lib.hid hobn
    have HQW := Lib.hid (show q ≤ W.heap.size by omega)
    clear hvs hcells hE hk hy hB h4 hI0 hyes hno hent hL hm g1 g2 g3 hown hob hobn hsz hrV
    cases has with
    | false =>
      have HIN := Lib.hid (show n.inB high false x = true from rfl)
      gi_wp2_with (gi_at_builtin; refine wpListIn_append_own _ rfl _ _ 41 rfl (w.heap.size + 5) 39 i0 (.agg #[.int .u64 0, .int .u64 0]) 2 16 Tryd.underlying41 hi hz0 hz1 hz2 rfl (by decide) _ m _ rfl (HOWN.out.alloc _) ⟨W.heap.size, 0, none⟩ 1 1 [.int .u64 k, .int .u64 y] rfl rfl ?q1 ?q2 ?q3 ?q4 ?q5 ?_)
      case q1 =>
        have hr := Row.new W 39 #[.int .u64 k, .int .u64 y]
        intro j u hj
        rw [Addr.add_lit, hr.cell, Nat.zero_add]
        simpa using hj
      case q2 => simp [Value.oneCell']
      case q3 => exact a1
      case q4 => exact a2
      case q5 => simp; omega
      intro v' w1 hown' hgrow _
      obtain ⟨g', cap', rfl⟩ := ownsRow_succ hown'
      have r3 := (G3.out.alloc (.cells #[.int .u64 k, .int .u64 y] 39)).grown hgrow (fun e => by have := HOBN.out _ e.symm; omega)
      have cc := r3.cell 0
      have zz := r3.free 0
      have R3 := Lib.hid r3
      simp only [List.getElem?_toArray, List.getElem?_cons_zero] at cc
      clear r3
      gi_wp2
      have hsz1 := hgrow.size
      have hg' := ownS_from hown' g' rfl
      have hne : ∀ b, b < w.heap.size + 5 → some b ≠ v.ownBlock := fun b hb e => by have := HOBN.out _ e.symm; omega
      have hkeep : ∀ b, b < W.heap.size → some b ≠ v.ownBlock → b ≠ w.heap.size + 1 + 1 + 1 → (w1.setCell ⟨w.heap.size + 1 + 1 + 1, 0, none⟩ (.slice (some ⟨g', 0, none⟩) (m + 1) cap')).heap[b]? = W.heap[b]? := fun b hb hn hn' => by
        rw [heap_setCell_other _ _ _ _ hn', hgrow.block b (by simp; omega) hn]
        exact Below.heap_alloc W _ b hb
      simp only [World.size_alloc] at hsz1
      refine ⟨⟨by simp; omega, fun b o hb ho => ?_⟩, hkeep _ (by omega) (hne _ (by omega)) (by omega), fun o _ ho => ?_, w1.heap.size, by simp, by omega, by simp; omega, ?_, ?_, ?_, _, R3.out.set 0 _, ?_, fun g hg => ?_⟩
      · have hbl := (Array.getElem?_eq_some_iff.1 hb).1
        refine (hkeep b hbl (fun e => ?_) (fun e => ?_)).trans hb
        · obtain ⟨cs, t, h5⟩ := ownS_cells HOWN.out e.symm
          rw [h5] at hb
          cases hb
          cases ho
        · subst e
          rw [show W.heap[w.heap.size + 1 + 1 + 1]? = _ from G3.out] at hb
          cases hb
          cases ho
      · have hrl := (Array.getElem?_eq_some_iff.1 ho).1
        exact (hkeep r hrl (fun e => by have := HOB.out r e.symm; omega) (by omega)).trans ho
      · exact (hkeep _ G1.out.lt (hne _ (by omega)) (by omega)).trans G1.out
      · exact (hkeep _ G2.out.lt (hne _ (by omega)) (by omega)).trans G2.out
      · exact ((HB.out.alloc (by omega) _).grown hgrow (by simp; omega) (fun b hb => by have := HOBN.out b hb; omega)).setCell (p := ⟨w.heap.size + 1 + 1 + 1, 0, none⟩) (by dsimp only; omega) _
      · rw [HY.out HIN.out, HEnt.out, flatE_snoc, List.length_append, ← HMd.out]
        exact ownS_set hown' (p := ⟨w.heap.size + 1 + 1 + 1, 0, none⟩) (fun g hg => by cases hg; dsimp only; omega) _
      · cases hg
        exact hg'.2
    | true =>
      obtain hkh | hkh : k < high ∨ ¬ k < high := by omega
      · have HIN := Lib.hid (show n.inB high true x = true by rw [HIn.out]; simp [hkh])
        gi_wp2_with (gi_at_builtin; refine wpListIn_append_own _ rfl _ _ 41 rfl (w.heap.size + 5) 39 i0 (.agg #[.int .u64 0, .int .u64 0]) 2 16 Tryd.underlying41 hi hz0 hz1 hz2 rfl (by decide) _ m _ rfl (HOWN.out.alloc _) ⟨W.heap.size, 0, none⟩ 1 1 [.int .u64 k, .int .u64 y] rfl rfl ?q1 ?q2 ?q3 ?q4 ?q5 ?_)
        case q1 =>
          have hr := Row.new W 39 #[.int .u64 k, .int .u64 y]
          intro j u hj
          rw [Addr.add_lit, hr.cell, Nat.zero_add]
          simpa using hj
        case q2 => simp [Value.oneCell']
        case q3 => exact a1
        case q4 => exact a2
        case q5 => simp; omega
        intro v' w1 hown' hgrow _
        obtain ⟨g', cap', rfl⟩ := ownsRow_succ hown'
        have r3 := (G3.out.alloc (.cells #[.int .u64 k, .int .u64 y] 39)).grown hgrow (fun e => by have := HOBN.out _ e.symm; omega)
        have cc := r3.cell 0
        have zz := r3.free 0
        have R3 := Lib.hid r3
        simp only [List.getElem?_toArray, List.getElem?_cons_zero] at cc
        clear r3
        gi_wp2
        have hsz1 := hgrow.size
        have hg' := ownS_from hown' g' rfl
        have hne : ∀ b, b < w.heap.size + 5 → some b ≠ v.ownBlock := fun b hb e => by have := HOBN.out _ e.symm; omega
        have hkeep : ∀ b, b < W.heap.size → some b ≠ v.ownBlock → b ≠ w.heap.size + 1 + 1 + 1 → (w1.setCell ⟨w.heap.size + 1 + 1 + 1, 0, none⟩ (.slice (some ⟨g', 0, none⟩) (m + 1) cap')).heap[b]? = W.heap[b]? := fun b hb hn hn' => by
          rw [heap_setCell_other _ _ _ _ hn', hgrow.block b (by simp; omega) hn]
          exact Below.heap_alloc W _ b hb
        simp only [World.size_alloc] at hsz1
        refine ⟨⟨by simp; omega, fun b o hb ho => ?_⟩, hkeep _ (by omega) (hne _ (by omega)) (by omega), fun o _ ho => ?_, w1.heap.size, by simp, by omega, by simp; omega, ?_, ?_, ?_, _, R3.out.set 0 _, ?_, fun g hg => ?_⟩
        · have hbl := (Array.getElem?_eq_some_iff.1 hb).1
          refine (hkeep b hbl (fun e => ?_) (fun e => ?_)).trans hb
          · obtain ⟨cs, t, h5⟩ := ownS_cells HOWN.out e.symm
            rw [h5] at hb
            cases hb
            cases ho
          · subst e
            rw [show W.heap[w.heap.size + 1 + 1 + 1]? = _ from G3.out] at hb
            cases hb
            cases ho
        · have hrl := (Array.getElem?_eq_some_iff.1 ho).1
          exact (hkeep r hrl (fun e => by have := HOB.out r e.symm; omega) (by omega)).trans ho
        · exact (hkeep _ G1.out.lt (hne _ (by omega)) (by omega)).trans G1.out
        · exact (hkeep _ G2.out.lt (hne _ (by omega)) (by omega)).trans G2.out
        · exact ((HB.out.alloc (by omega) _).grown hgrow (by simp; omega) (fun b hb => by have := HOBN.out b hb; omega)).setCell (p := ⟨w.heap.size + 1 + 1 + 1, 0, none⟩) (by dsimp only; omega) _
        · rw [HY.out HIN.out, HEnt.out, flatE_snoc, List.length_append, ← HMd.out]
          exact ownS_set hown' (p := ⟨w.heap.size + 1 + 1 + 1, 0, none⟩) (fun g hg => by cases hg; dsimp only; omega) _
        · cases hg
          exact hg'.2
      · have HIN := Lib.hid (show n.inB high true x = false by rw [HIn.out]; simp; omega)
        gi_wp2
        refine ⟨KeepsOthers.refl _, rfl, fun o _ ho => ho, q, HQW.out, hq4, hWs, G1.out, G2.out, HB.out, v, G3.out, ?_, HOB.out⟩
        rw [HNo.out HIN.out, ← HMd.out]
        exact HOWN.out
  case done =>
    rintro D q xs W hD rfl ⟨hq4, hWs, g1, g2, hB, v, g3, hown, hob⟩ hK
    have c3 := g3.cell 0
    simp only [List.getElem?_toArray, List.getElem?_cons_zero] at c3
    have HOWN := Lib.hid (show W.ownsRow (w.heap.size + 5) 39 2 v (n.act high has).length (flatE (n.act high has)) from hown)
    have HB := Lib.hid hB
    clear hown g1 g2 g3 hob h4 hI0 hB
    gi_wp2
    refine ⟨by simp, .inl ⟨_, _, rfl, run_takeDeferred hK, ?_⟩⟩
    exact ⟨_, results_tmp rfl _ _ _, ⟨v, rfl, ownS_mono (ownS_grown HOWN.out (grownBy_putObj' W D (.deferred none)) (fun q e => by cases e; exact ⟨_, hK, rfl⟩)) (by omega)⟩, HB.out.trans (belowK_b (w := w) (Nat.le_refl _) W D _ _ (by omega) hK rfl rfl)⟩
  case stop => exact fun _ _ _ _ _ h => h.elim
set_option maxRecDepth 100000 in
set_option maxHeartbeats 1600000 in
theorem nValid_any (n : Nd) (w : World) : Calls Tryd.prog 19 #[n.V] w fun e W' => (∃ v, e = .returned v ∧ W'.ownsRow w.heap.size 39 2 v n.es.length (flatE n.es)) ∧ Below w.heap.size w W' := by
  have R0 := Lib.hid (Row.new w 27 n.cl.toArray)
  have HA := nActive_any n 0 false (w.alloc (.cells n.cl.toArray 27))
  rw [act_all] at HA
  have HA := Lib.hid HA
  go_enter Tryd.func19, Tryd.ntmps19
  go_wp2_with (first | (refine wpList_load_mid rfl _ _ rfl w.heap.size 0 rfl n.cl _ (ndR R0.out) Tryd.underlying27 rfl ndI ?_) | (go_at_call 31; refine HA.out.mono ?_; rintro e w' ⟨⟨v, rfl, ho⟩, hb⟩))
  go_ret
  exact ⟨⟨v, rfl, ownS_mono ho (by simp)⟩, low_and (alloc_low _ _) hb⟩
end Go.Proofs.YtaegaeljakdffaaDoor
