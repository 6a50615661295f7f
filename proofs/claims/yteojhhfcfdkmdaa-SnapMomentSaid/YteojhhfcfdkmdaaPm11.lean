/- Texts of this claim, packed: N8Act, N8Same, N8Eq, SnEq, SnTr, N8RefF, N8May, N8Rise, N8Inv, N8RefI, N8RefL. -/
import Derived.Test.YteojhhfcfdkmdaaPm06
import Derived.Test.YteojhhfcfdkmdaaPm10
import Derived.Test.YteojhhfcfdkmdaaPm05
import Derived.Test.YteojhhfcfdkmdaaPm02
import Derived.Test.YteojhhfcfdkmdaaPm03
import Derived.Laws.StructEq
import Derived.Laws.Rows
set_option linter.unusedSimpArgs false
set_option linter.unusedVariables false
/- Active, Valid: a node's valid entries below a bound, in new memory; of any node, any bound; without conditions. -/
namespace Go.Proofs.Yteojhhfcfdkmdaa
open Go.RowKit Go.Shelf
set_option linter.unusedVariables false
attribute [local go_sem] Oper.semAt_some

theorem ownS_cells {w : World} {B s n g : Nat} {e : TypeId} {v : Value} {xs : List Value} (h : w.ownsRow B e s v n xs) (hg : v.ownBlock = some g) : ∃ cs t, w.heap[g]? = some (.cells cs t (0, 0)) := by
  rcases h.2 with ⟨rfl, _⟩ | ⟨g', cap, cur, rfl, _, hh, _⟩
  · cases hg
  · have : g' = g := by injection hg
    subst this
    exact ⟨_, _, hh⟩
theorem ownS_grown {w w' : World} {B s n : Nat} {e : TypeId} {v : Value} {xs : List Value} {row : Option Nat} (h : w.ownsRow B e s v n xs) (hg : w.grownBy w' row) (hr : ∀ q, row = some q → ∃ o : Obj, w.heap[q]? = some o ∧ o.isCells = false) : w'.ownsRow B e s v n xs := by
  refine ⟨h.1, ?_⟩
  rcases h.2 with h0 | ⟨g, cap, cur, rfl, hb, hh, hrest⟩
  · exact .inl h0
  · refine .inr ⟨g, cap, cur, rfl, hb, (hg.block g (Array.getElem?_eq_some_iff.1 hh).1 ?_).trans hh, hrest⟩
    intro e
    obtain ⟨o, ho, hc⟩ := hr g e.symm
    rw [hh] at ho
    cases ho
    cases hc
theorem ownS_from {w : World} {B s n : Nat} {e : TypeId} {v : Value} {xs : List Value} (h : w.ownsRow B e s v n xs) : ∀ k, v.ownBlock = some k → B ≤ k ∧ k < w.heap.size := by
  intro k hk
  rcases h.2 with ⟨rfl, _⟩ | ⟨g', cap, cur, rfl, hb, hh, _⟩
  · cases hk
  · have : g' = k := by injection hk
    subst this
    exact ⟨hb, (Array.getElem?_eq_some_iff.1 hh).1⟩
theorem ownS_set {w : World} {B s n : Nat} {e : TypeId} {v : Value} {xs : List Value} (h : w.ownsRow B e s v n xs) {p : Addr} (hne : ∀ g, v.ownBlock = some g → g ≠ p.block) (u : Value) : (w.setCell p u).ownsRow B e s v n xs := by
  refine ⟨h.1, ?_⟩
  rcases h.2 with h0 | ⟨g, cap, cur, rfl, hg, hh, hr⟩
  · exact .inl h0
  · exact .inr ⟨g, cap, cur, rfl, hg, (heap_setCell_other w p g u (hne g rfl)).trans hh, hr⟩
theorem ownS_mono {w : World} {B B' s n : Nat} {e : TypeId} {v : Value} {xs : List Value} (h : w.ownsRow B e s v n xs) (hb : B' ≤ B) : w.ownsRow B' e s v n xs := by
  refine ⟨h.1, ?_⟩
  rcases h.2 with h0 | ⟨g, cap, cur, rfl, hg, hr⟩
  · exact .inl h0
  · exact .inr ⟨g, cap, cur, rfl, Nat.le_trans hb hg, hr⟩
theorem ownS_low {w w' : World} {B s n : Nat} {e : TypeId} {v : Value} {xs : List Value} (h : w.ownsRow B e s v n xs) (hb : Below w.heap.size w w') : w'.ownsRow B e s v n xs := ownS_grown h (low_grown hb) (fun q e => by cases e)
/-- Entries, as they lie. -/
def flatE (l : List (Int × Int)) : List Value := l.flatMap fun e => [uw e.1, uw e.2]
theorem flatE_len (l : List (Int × Int)) : (flatE l).length = 2 * l.length := by
  induction l with
  | nil => rfl
  | cons a t ih =>
    have : flatE (a :: t) = uw a.1 :: uw a.2 :: flatE t := rfl
    rw [this, List.length_cons, List.length_cons, List.length_cons, ih]
    omega
theorem flatE_snoc (l : List (Int × Int)) (e : Int × Int) : flatE (l ++ [e]) = flatE l ++ [uw e.1, uw e.2] := by simp [flatE]
theorem flatE_at : ∀ (l : List (Int × Int)) (i : Nat) (e : Int × Int), l[i]? = some e → (flatE l)[i * 2]? = some (uw e.1) ∧ (flatE l)[i * 2 + 1]? = some (uw e.2)
  | [], i, e, h => by simp at h
  | a :: t, 0, e, h => by
    simp only [List.getElem?_cons_zero, Option.some.injEq] at h
    subst h
    exact ⟨rfl, rfl⟩
  | a :: t, i + 1, e, h => by
    simp only [List.getElem?_cons_succ] at h
    have := flatE_at t i e h
    rw [show (i + 1) * 2 = i * 2 + 2 by omega]
    exact this
/-- The valid entries below a bound. -/
def Nd.ent (n : Nd) (p : Nat) : Int × Int := (n.key p, n.ptr p)
def Nd.inB (n : Nd) (high : Int) (has : Bool) (p : Nat) : Bool := !has || decide (n.key p < high)
def actL (n : Nd) (high : Int) (has : Bool) (l : List Nat) : List (Int × Int) := (l.filter (n.inB high has)).map n.ent
theorem actL_yes {n : Nd} {high : Int} {has : Bool} {l : List Nat} {x : Nat} (h : n.inB high has x = true) : actL n high has (l ++ [x]) = actL n high has l ++ [n.ent x] := by simp [actL, h]
theorem actL_no {n : Nd} {high : Int} {has : Bool} {l : List Nat} {x : Nat} (h : n.inB high has x = false) : actL n high has (l ++ [x]) = actL n high has l := by simp [actL, h]
theorem actL_len (n : Nd) (high : Int) (has : Bool) (l : List Nat) : (actL n high has l).length ≤ l.length := by
  unfold actL
  rw [List.length_map]
  exact List.length_filter_le _ _
def Nd.act (n : Nd) (high : Int) (has : Bool) : List (Int × Int) := actL n high has n.vp
/-- All valid entries. -/
def Nd.es (n : Nd) : List (Int × Int) := n.vp.map n.ent
theorem act_all (n : Nd) (high : Int) : n.act high false = n.es := by
  unfold Nd.act actL Nd.es
  congr 1
  exact List.filter_eq_self.2 fun p _ => rfl
theorem Nd.es_len (n : Nd) : n.es.length ≤ 8 := by unfold Nd.es; rw [List.length_map]; exact n.vp_length
theorem Nd.act_len (n : Nd) (high : Int) (has : Bool) : (n.act high has).length ≤ 8 := Nat.le_trans (actL_len _ _ _ _) n.vp_length
def ActI (w : World) (n : Nd) (high : Int) (has : Bool) (q : Nat) (pre : List Nat) (W : World) : Prop :=
  w.heap.size + 5 ≤ q ∧ w.heap.size + 5 ≤ W.heap.size ∧ Row W (w.heap.size + 1) 22 #[.int .u64 high] ∧ Row W (w.heap.size + 1 + 1) 4 #[.bool has] ∧ Below w.heap.size w W ∧
  ∃ v, Row W (w.heap.size + 1 + 1 + 1) 54 #[v] ∧ W.ownsRow (w.heap.size + 5) 89 2 v (actL n high has pre).length (flatE (actL n high has pre)) ∧ ∀ g, v.ownBlock = some g → g < q
theorem infoEntry : (Try.prog.info? 89).map (fun i => (i.zero, i.size, i.bytes)) = some (some (.agg #[.int .u64 0, .int .u64 0]), 2, 16) := by kernel_rfl
set_option maxRecDepth 100000 in
set_option maxHeartbeats 4000000 in
theorem nActive_any (n : Nd) (high : Int) (has : Bool) (w : World) : Calls Try.prog 69 #[n.V, .int .u64 high, .bool has] w fun e W' =>
    (∃ v, e = .returned v ∧ W'.ownsRow w.heap.size 89 2 v (n.act high has).length (flatE (n.act high has))) ∧ Below w.heap.size w W' := by
  obtain ⟨i0, hi, hz0, hz1, hz2⟩ := info_parts infoEntry
  obtain ⟨Wx, hWx⟩ : ∃ Wx, Wx = (((w.alloc (.cells n.cl.toArray 27)).alloc (.cells #[.int .u64 high] 22)).alloc (.cells #[.bool has] 4)).alloc (.cells #[.slice none 0 0] 54) := ⟨_, rfl⟩
  have hsx : Wx.heap.size = w.heap.size + 4 := by rw [hWx]; simp
  have hbx : Below w.heap.size w Wx := by rw [hWx]; exact low_and (low_and (low_and (alloc_low _ _) (alloc_low _ _)) (alloc_low _ _)) (alloc_low _ _)
  have r0 : NdAt Wx w.heap.size n := by rw [hWx]; exact (((Row.new _ _ _).alloc _).alloc _).alloc _
  have r1 : Row Wx (w.heap.size + 1) 22 #[.int .u64 high] := by
    rw [hWx]
    have := Row.new (w.alloc (.cells n.cl.toArray 27)) 22 #[.int .u64 high]
    simp only [World.size_alloc] at this
    exact (this.alloc _).alloc _
  have r2 : Row Wx (w.heap.size + 1 + 1) 4 #[.bool has] := by
    rw [hWx]
    have := Row.new ((w.alloc (.cells n.cl.toArray 27)).alloc (.cells #[.int .u64 high] 22)) 4 #[.bool has]
    simp only [World.size_alloc] at this
    exact this.alloc _
  have r3 : Row Wx (w.heap.size + 1 + 1 + 1) 54 #[.slice none 0 0] := by
    rw [hWx]
    have := Row.new (((w.alloc (.cells n.cl.toArray 27)).alloc (.cells #[.int .u64 high] 22)).alloc (.cells #[.bool has] 4)) 54 #[.slice none 0 0]
    simpa only [World.size_alloc] using this
  have HWx := Lib.hid hWx
  have HR0 := Lib.hid r0
  clear hWx r0
  refine (callsIn_wide (n := 6)).1 ?_
  refine callsIn_of_wp_marks Try.func69 rfl trivial ?_ rfl
  simp only [Try.ntmps69, List.size_toArray, List.length_cons, List.length_nil, Nat.reduceAdd, Nat.reduceSub, Array.replicate_succ, Array.replicate_zero, List.push_toArray, List.append_toArray, List.nil_append, List.cons_append]
  gi_wp2_with (first | (rw [← HWx.out]; refine wpListIn_load_mid (fun _ => trivial) rfl _ _ rfl w.heap.size 0 rfl n.cl _ (ndR HR0.out) Try.underlying27 rfl ndI ?_) | (refine ⟨trivial, ?_⟩; gi_at_call 83; refine (callsIn_wide.2 (valid_any n _)).mono ?_; rintro e w' ⟨rfl, rfl⟩))
  obtain ⟨W0, hW0⟩ : ∃ W0, W0 = Wx.alloc (.cells n.cl.toArray 27) := ⟨_, rfl⟩
  have h4 : NdAt W0 (w.heap.size + 4) n := by
    rw [hW0]
    have := Row.new Wx 27 n.cl.toArray
    rwa [hsx] at this
  have hb0 : Below Wx.heap.size Wx W0 := by rw [hW0]; exact alloc_low _ _
  have hs0 : W0.heap.size = w.heap.size + 5 := by rw [hW0]; simp [hsx]
  have f1 := Row.below r1 hb0 r1.lt
  have f2 := Row.below r2 hb0 r2.lt
  have f3 := Row.below r3 hb0 r3.lt
  have hbW : Below w.heap.size w W0 := low_and hbx hb0
  rw [← hW0]
  have hI0 : ActI w n high has W0.heap.size [] W0 := ⟨by omega, by omega, f1, f2, hbW, _, f3, World.ownsRow_nil _ _ _ _, fun g hg => by cases hg⟩
  clear hW0 r1 r2 r3 hb0 hbx HWx HR0 hbW hsx f1 f2 f3
  refine range_Q rfl (by omega) (gf := 87) (lb := #[.pointer (some ⟨w.heap.size + 4, 0, none⟩)]) rfl trivial (enters_of Try.func87 (by kernel_rfl) rfl) (bx := w.heap.size + 4) (by omega) (valid1_seq h4) (fun _ => rfl)
    (ActI w n high has) (fun pre W => False)
    (fun q s A B row hs hg hr => by
      obtain ⟨h1, h2, h3, h4, h5, v, h6, h7, h8⟩ := hs
      exact ⟨h1, Nat.le_trans h2 hg.size, h3.grown hg (fun e => by have := (hr _ e.symm).1; omega), h4.grown hg (fun e => by have := (hr _ e.symm).1; omega), h5.grown hg h5.size (fun k e => by have := (hr k e).1; omega), v, h6.grown hg (fun e => by have := (hr _ e.symm).1; omega), ownS_grown h7 hg (fun k e => (hr k e).2), h8⟩)
    (fun s A B row hs hg hr => hs)
    hI0
    (fun x V => { tmps := #[n.V, .int .u64 high, .bool has, .pointer (some ⟨w.heap.size, 0, none⟩), .pointer (some ⟨w.heap.size + 1, 0, none⟩), .pointer (some ⟨w.heap.size + 1 + 1, 0, none⟩), .slice none 0 0, .pointer (some ⟨w.heap.size + 1 + 1 + 1, 0, none⟩), undef, .pointer (some ⟨V.heap.size, 0, none⟩), .agg n.cl.toArray, .func (.func 87) #[] #[.pointer (some ⟨w.heap.size + 4, 0, none⟩)], .int .i64 (x : Int), .agg #[.int .u64 (n.key x), .int .u64 (n.ptr x)], undef, undef, undef, undef, undef, undef, undef, undef, undef, undef, undef, undef, undef], defers := [] })
    (fun x V => V.alloc (.cells #[.int .u64 (n.key x), .int .u64 (n.ptr x)] 89)) (fun x V => alloc_low _ _) ?assign ?body ?done ?stop
  case assign =>
    intro l x W K hK
    dsimp only [enc8N]
    gi_wp2
    exact hK
  case body =>
    rintro l q r pre x V W hx8 ⟨hq4, hWs, g1, g2, hB, v, g3, hown, hob⟩ hqr hrV hsz hcells hlen
    have hE : Row W V.heap.size 89 #[.int .u64 (n.key x), .int .u64 (n.ptr x)] := hcells _ _ rfl (Row.new V 89 _)
    obtain ⟨vs, hvs⟩ : ∃ vs, vs = V.heap.size := ⟨_, rfl⟩
    rw [← hvs] at hE hrV
    simp only [World.size_alloc] at hsz
    rw [← hvs] at hsz
    rw [← hvs]
    have e0 := hE.cell 0
    have e1 := hE.cell 1
    simp only [List.getElem?_toArray, List.getElem?_cons_succ, List.getElem?_cons_zero] at e0 e1
    have c1 := g1.cell 0
    have c2 := g2.cell 0
    have c3 := g3.cell 0
    simp only [List.getElem?_toArray, List.getElem?_cons_zero] at c1 c2 c3
    have hyes := actL_yes (n := n) (high := high) (has := has) (l := pre) (x := x)
    have hno := actL_no (n := n) (high := high) (has := has) (l := pre) (x := x)
    have hin : n.inB high has x = (!has || decide (n.key x < high)) := rfl
    have hent : n.ent x = (n.key x, n.ptr x) := rfl
    obtain ⟨k, hk⟩ : ∃ k, k = n.key x := ⟨_, rfl⟩
    obtain ⟨y, hy⟩ : ∃ y, y = n.ptr x := ⟨_, rfl⟩
    rw [← hk, ← hy] at hE hent
    rw [← hk] at e0 hin
    rw [← hy] at e1
    rw [← hk, ← hy]
    obtain ⟨L, hL⟩ : ∃ L, L = actL n high has pre := ⟨_, rfl⟩
    rw [← hL] at hyes hno hown
    have hLl : L.length < 8 := by rw [hL]; exact Nat.lt_of_le_of_lt (actL_len _ _ _ _) hlen
    obtain ⟨m, hm⟩ : ∃ m, m = L.length := ⟨_, rfl⟩
    rw [← hm] at hown hLl
    have HY := Lib.hid hyes
    have HNo := Lib.hid hno
    have HIn := Lib.hid hin
    have HEnt := Lib.hid hent
    have HLd := Lib.hid hL
    have HMd := Lib.hid hm
    have G1 := Lib.hid g1
    have G2 := Lib.hid g2
    have G3 := Lib.hid g3
    have HB := Lib.hid hB
    have HOWN := Lib.hid hown
    have HOB := Lib.hid hob
    have a1 : m + 1 ≤ maxLen := by unfold maxLen; omega
    have a2 : (m + 1) * 16 ≤ 140737488355328 := by omega
    have hobn : ∀ g, v.ownBlock = some g → w.heap.size + 5 ≤ g := fun g hg => (ownS_from hown g hg).1
    have HOBN := Lib.hid hobn
    have HQW := Lib.hid (show q ≤ W.heap.size by omega)
    clear hvs hcells hE hk hy hB h4 hI0 hyes hno hent hL hm g1 g2 g3 hown hob hobn hsz hrV
    cases has with
    | false =>
      have HIN := Lib.hid (show n.inB high false x = true from rfl)
      gi_wp2_with (gi_at_builtin; refine wpListIn_append_own _ rfl _ _ 54 rfl (w.heap.size + 5) 89 i0 (.agg #[.int .u64 0, .int .u64 0]) 2 16 Try.underlying54 hi hz0 hz1 hz2 rfl (by decide) _ m _ rfl (HOWN.out.alloc _) ⟨W.heap.size, 0, none⟩ 1 1 [.int .u64 k, .int .u64 y] rfl rfl ?q1 ?q2 ?q3 ?q4 ?q5 ?_)
      case q1 =>
        have hr := Row.new W 89 #[.int .u64 k, .int .u64 y]
        intro j u hj
        rw [Addr.add_lit, hr.cell, Nat.zero_add]
        simpa using hj
      case q2 => simp [Value.oneCell']
      case q3 => exact a1
      case q4 => exact a2
      case q5 => simp; omega
      intro v' w1 hown' hgrow _
      obtain ⟨g', cap', rfl⟩ := ownsRow_succ hown'
      have r3 := (G3.out.alloc (.cells #[.int .u64 k, .int .u64 y] 89)).grown hgrow (fun e => by have := HOBN.out _ e.symm; omega)
      have cc := r3.cell 0
      have zz := r3.free 0
      have R3 := Lib.hid r3
      simp only [List.getElem?_toArray, List.getElem?_cons_zero] at cc
      clear r3
      gi_wp2
      have hsz1 := hgrow.size
      have hg' := ownS_from hown' g' rfl
      have hne : ∀ b, b < w.heap.size + 5 → some b ≠ v.ownBlock := fun b hb e => by have := HOBN.out _ e.symm; omega
      have hkeep : ∀ b, b < W.heap.size → some b ≠ v.ownBlock → b ≠ w.heap.size + 1 + 1 + 1 → (w1.setCell ⟨w.heap.size + 1 + 1 + 1, 0, none⟩ (.slice (some ⟨g', 0, none⟩) (m + 1) cap')).heap[b]? = W.heap[b]? := fun b hb hn hn' => by
        rw [heap_setCell_other _ _ _ _ hn', hgrow.block b (by simp; omega) hn]
        exact Below.heap_alloc W _ b hb
      simp only [World.size_alloc] at hsz1
      refine ⟨⟨by simp; omega, fun b o hb ho => ?_⟩, hkeep _ (by omega) (hne _ (by omega)) (by omega), fun o _ ho => ?_, w1.heap.size, by simp, by omega, by simp; omega, ?_, ?_, ?_, _, R3.out.set 0 _, ?_, fun g hg => ?_⟩
      · have hbl := (Array.getElem?_eq_some_iff.1 hb).1
        refine (hkeep b hbl (fun e => ?_) (fun e => ?_)).trans hb
        · obtain ⟨cs, t, h5⟩ := ownS_cells HOWN.out e.symm
          rw [h5] at hb
          cases hb
          cases ho
        · subst e
          rw [show W.heap[w.heap.size + 1 + 1 + 1]? = _ from G3.out] at hb
          cases hb
          cases ho
      · have hrl := (Array.getElem?_eq_some_iff.1 ho).1
        exact (hkeep r hrl (fun e => by have := HOB.out r e.symm; omega) (by omega)).trans ho
      · exact (hkeep _ G1.out.lt (hne _ (by omega)) (by omega)).trans G1.out
      · exact (hkeep _ G2.out.lt (hne _ (by omega)) (by omega)).trans G2.out
      · exact ((HB.out.alloc (by omega) _).grown hgrow (by simp; omega) (fun b hb => by have := HOBN.out b hb; omega)).setCell (p := ⟨w.heap.size + 1 + 1 + 1, 0, none⟩) (by dsimp only; omega) _
      · rw [HY.out HIN.out, HEnt.out, flatE_snoc, List.length_append, ← HMd.out]
        exact ownS_set hown' (p := ⟨w.heap.size + 1 + 1 + 1, 0, none⟩) (fun g hg => by cases hg; dsimp only; omega) _
      · cases hg
        exact hg'.2
    | true =>
      obtain hkh | hkh : k < high ∨ ¬ k < high := by omega
      · have HIN := Lib.hid (show n.inB high true x = true by rw [HIn.out]; simp [hkh])
        gi_wp2_with (gi_at_builtin; refine wpListIn_append_own _ rfl _ _ 54 rfl (w.heap.size + 5) 89 i0 (.agg #[.int .u64 0, .int .u64 0]) 2 16 Try.underlying54 hi hz0 hz1 hz2 rfl (by decide) _ m _ rfl (HOWN.out.alloc _) ⟨W.heap.size, 0, none⟩ 1 1 [.int .u64 k, .int .u64 y] rfl rfl ?q1 ?q2 ?q3 ?q4 ?q5 ?_)
        case q1 =>
          have hr := Row.new W 89 #[.int .u64 k, .int .u64 y]
          intro j u hj
          rw [Addr.add_lit, hr.cell, Nat.zero_add]
          simpa using hj
        case q2 => simp [Value.oneCell']
        case q3 => exact a1
        case q4 => exact a2
        case q5 => simp; omega
        intro v' w1 hown' hgrow _
        obtain ⟨g', cap', rfl⟩ := ownsRow_succ hown'
        have r3 := (G3.out.alloc (.cells #[.int .u64 k, .int .u64 y] 89)).grown hgrow (fun e => by have := HOBN.out _ e.symm; omega)
        have cc := r3.cell 0
        have zz := r3.free 0
        have R3 := Lib.hid r3
        simp only [List.getElem?_toArray, List.getElem?_cons_zero] at cc
        clear r3
        gi_wp2
        have hsz1 := hgrow.size
        have hg' := ownS_from hown' g' rfl
        have hne : ∀ b, b < w.heap.size + 5 → some b ≠ v.ownBlock := fun b hb e => by have := HOBN.out _ e.symm; omega
        have hkeep : ∀ b, b < W.heap.size → some b ≠ v.ownBlock → b ≠ w.heap.size + 1 + 1 + 1 → (w1.setCell ⟨w.heap.size + 1 + 1 + 1, 0, none⟩ (.slice (some ⟨g', 0, none⟩) (m + 1) cap')).heap[b]? = W.heap[b]? := fun b hb hn hn' => by
          rw [heap_setCell_other _ _ _ _ hn', hgrow.block b (by simp; omega) hn]
          exact Below.heap_alloc W _ b hb
        simp only [World.size_alloc] at hsz1
        refine ⟨⟨by simp; omega, fun b o hb ho => ?_⟩, hkeep _ (by omega) (hne _ (by omega)) (by omega), fun o _ ho => ?_, w1.heap.size, by simp, by omega, by simp; omega, ?_, ?_, ?_, _, R3.out.set 0 _, ?_, fun g hg => ?_⟩
        · have hbl := (Array.getElem?_eq_some_iff.1 hb).1
          refine (hkeep b hbl (fun e => ?_) (fun e => ?_)).trans hb
          · obtain ⟨cs, t, h5⟩ := ownS_cells HOWN.out e.symm
            rw [h5] at hb
            cases hb
            cases ho
          · subst e
            rw [show W.heap[w.heap.size + 1 + 1 + 1]? = _ from G3.out] at hb
            cases hb
            cases ho
        · have hrl := (Array.getElem?_eq_some_iff.1 ho).1
          exact (hkeep r hrl (fun e => by have := HOB.out r e.symm; omega) (by omega)).trans ho
        · exact (hkeep _ G1.out.lt (hne _ (by omega)) (by omega)).trans G1.out
        · exact (hkeep _ G2.out.lt (hne _ (by omega)) (by omega)).trans G2.out
        · exact ((HB.out.alloc (by omega) _).grown hgrow (by simp; omega) (fun b hb => by have := HOBN.out b hb; omega)).setCell (p := ⟨w.heap.size + 1 + 1 + 1, 0, none⟩) (by dsimp only; omega) _
        · rw [HY.out HIN.out, HEnt.out, flatE_snoc, List.length_append, ← HMd.out]
          exact ownS_set hown' (p := ⟨w.heap.size + 1 + 1 + 1, 0, none⟩) (fun g hg => by cases hg; dsimp only; omega) _
        · cases hg
          exact hg'.2
      · have HIN := Lib.hid (show n.inB high true x = false by rw [HIn.out]; simp; omega)
        gi_wp2
        refine ⟨KeepsOthers.refl _, rfl, fun o _ ho => ho, q, HQW.out, hq4, hWs, G1.out, G2.out, HB.out, v, G3.out, ?_, HOB.out⟩
        rw [HNo.out HIN.out, ← HMd.out]
        exact HOWN.out
  case done =>
    rintro D q xs W hD rfl ⟨hq4, hWs, g1, g2, hB, v, g3, hown, hob⟩ hK
    have c3 := g3.cell 0
    simp only [List.getElem?_toArray, List.getElem?_cons_zero] at c3
    have HOWN := Lib.hid (show W.ownsRow (w.heap.size + 5) 89 2 v (n.act high has).length (flatE (n.act high has)) from hown)
    have HB := Lib.hid hB
    clear hown g1 g2 g3 hob h4 hI0 hB
    gi_wp2
    refine ⟨by simp, .inl ⟨_, _, rfl, run_takeDeferred hK, ?_⟩⟩
    exact ⟨_, results_tmp rfl _ _ _, ⟨v, rfl, ownS_mono (ownS_grown HOWN.out (grownBy_putObj' W D (.deferred none)) (fun q e => by cases e; exact ⟨_, hK, rfl⟩)) (by omega)⟩, HB.out.trans (belowK_b (w := w) (Nat.le_refl _) W D _ _ (by omega) hK rfl rfl)⟩
  case stop => exact fun _ _ _ _ _ h => h.elim
set_option maxRecDepth 100000 in
set_option maxHeartbeats 1600000 in
theorem nValid_any (n : Nd) (w : World) : Calls Try.prog 89 #[n.V] w fun e W' => (∃ v, e = .returned v ∧ W'.ownsRow w.heap.size 89 2 v n.es.length (flatE n.es)) ∧ Below w.heap.size w W' := by
  have R0 := Lib.hid (Row.new w 27 n.cl.toArray)
  have HA := nActive_any n 0 false (w.alloc (.cells n.cl.toArray 27))
  rw [act_all] at HA
  have HA := Lib.hid HA
  go_enter Try.func89, Try.ntmps89
  go_wp2_with (first | (refine wpList_load_mid rfl _ _ rfl w.heap.size 0 rfl n.cl _ (ndR R0.out) Try.underlying27 rfl ndI ?_) | (go_at_call 69; refine HA.out.mono ?_; rintro e w' ⟨⟨v, rfl, ho⟩, hb⟩))
  go_ret
  exact ⟨⟨v, rfl, ownS_mono ho (by simp)⟩, low_and (alloc_low _ _) hb⟩
end Go.Proofs.Yteojhhfcfdkmdaa
/- Lists of entries, as they lie; the document's Same; of any two lists; no conditions but on memory. -/
namespace Go.Proofs.Yteojhhfcfdkmdaa
open Go.RowKit
set_option linter.unusedVariables false
/-- A slice of entries that reads as a list. -/
def EntAt (w : World) (v : Value) (l : List (Int × Int)) : Prop :=
  ∃ A cap, v = .slice A l.length cap ∧ (0 < l.length → ∃ g o, A = some ⟨g, o, none⟩ ∧ ∀ i e, l[i]? = some e → w.cell? ⟨g, o + i * 2, none⟩ = some (uw e.1) ∧ w.cell? ⟨g, o + i * 2 + 1, none⟩ = some (uw e.2))
theorem EntAt.low {w w' : World} {v : Value} {l : List (Int × Int)} (h : EntAt w v l) (hb : Below w.heap.size w w') : EntAt w' v l := by
  obtain ⟨A, cap, rfl, h⟩ := h
  refine ⟨A, cap, rfl, fun h0 => ?_⟩
  obtain ⟨g, o, rfl, hc⟩ := h h0
  refine ⟨g, o, rfl, fun i e he => ?_⟩
  obtain ⟨c1, c2⟩ := hc i e he
  exact ⟨(hb.cell (p := ⟨g, o + i * 2, none⟩) (w.block_lt_of_cell? _ c1)).trans c1, (hb.cell (p := ⟨g, o + i * 2 + 1, none⟩) (w.block_lt_of_cell? _ c2)).trans c2⟩
theorem ent_own {w : World} {B : Nat} {v : Value} {l : List (Int × Int)} (h : w.ownsRow B 89 2 v l.length (flatE l)) : EntAt w v l := by
  rcases h.2 with ⟨rfl, h0⟩ | ⟨g, cap, cur, rfl, _, _, _⟩
  · exact ⟨none, 0, by rw [h0], fun h1 => by omega⟩
  · refine ⟨_, cap, rfl, fun h0 => ⟨g, 0, rfl, fun i e he => ?_⟩⟩
    obtain ⟨f1, f2⟩ := flatE_at l i e he
    have c1 := h.cells (g := g) rfl _ _ f1
    have c2 := h.cells (g := g) rfl _ _ f2
    rw [Addr.add_mid] at c1 c2
    exact ⟨c1, by rw [Nat.add_assoc]; exact c2⟩
set_option maxRecDepth 100000 in
theorem eqEnt (a b c d : Int) (w : World) : (Op.equalIn 10000 89 (.agg #[.int .u64 a, .int .u64 b]) (.agg #[.int .u64 c, .int .u64 d])).run Try.prog w = .ok (a == c && b == d) w := by
  have u3 := Try.underlying22
  have a3 := Try.isAgg22
  have z3 := Try.sizeOf22
  have u4 := Try.underlying23
  have a4 := Try.isAgg23
  have z4 := Try.sizeOf23
  have hS : Try.prog.underlying 89 = some (.struct (Try.prog.fieldsOf 89)) := by kernel_rfl
  have hp : Try.prog.stoodInHeld 89 = false := by kernel_rfl
  rw [show (10000 : Nat) = 9999 + 1 from rfl, run_equalIn_agg w 9999 89 _ _ hS hp]
  simp only [Program.fieldsOf, Try.underlying89]
  go_simp
  by_cases h1 : a = c <;> by_cases h2 : b = d <;> simp [h1, h2]
theorem ext_ent {l m : List (Int × Int)} (hl : l.length = m.length) (h : ∀ j, j < l.length → l.getD j (0, 0) = m.getD j (0, 0)) : l = m := by
  apply List.ext_getElem hl
  intro i h1 h2
  have := h i h1
  rw [List.getD_eq_getElem?_getD, List.getD_eq_getElem?_getD, List.getElem?_eq_getElem h1, List.getElem?_eq_getElem h2] at this
  exact this
theorem getD_ent {l : List (Int × Int)} {k : Nat} (h : k < l.length) : l[k]? = some (l.getD k (0, 0)) := by
  rw [List.getD_eq_getElem?_getD, List.getElem?_eq_getElem h]
  rfl
end Go.Proofs.Yteojhhfcfdkmdaa
/- A node is equal to itself, and so are twenty-four words; no conditions. -/
namespace Go.Proofs.Yteojhhfcfdkmdaa
open Go.RowKit
set_option linter.unusedVariables false
set_option linter.unusedSimpArgs false
theorem infU : (Try.prog.info? 22).map (fun i => (i.zero, i.size, i.bytes)) = some (some (.int .u64 0), 1, 8) := by kernel_rfl
theorem infA : (Try.prog.info? 23).map (fun i => (i.zero, i.size, i.bytes)) = some (some (.int .u64 0), 1, 8) := by kernel_rfl
theorem celU : Try.prog.cellsOf 22 = 1 := by kernel_rfl
theorem celA : Try.prog.cellsOf 23 = 1 := by kernel_rfl
theorem plnU : Try.prog.plainKey 22 = true := by kernel_rfl
theorem plnA : Try.prog.plainKey 23 = true := by kernel_rfl
theorem itemsG (dd : Nat) {e : TypeId} (he : Try.prog.plainKey e = true) (hu : Try.prog.underlying e = some (.int .u64)) (xs : Array Value) (w : World) : ∀ is : List Nat, (∀ i ∈ is, ∃ x, xs[i]? = some (.int .u64 x)) → (Op.eqItems (dd + 1) e 1 xs xs is).run Try.prog w = .ok true w
  | [], _ => by simp [Op.eqItems]
  | i :: is, h => by
    obtain ⟨x, hx⟩ := h i (by simp)
    have hp := run_part_plain (P := Try.prog) w he (xs := xs) (off := i) hx
    have hq := run_equalIn_int (P := Try.prog) w dd e .u64 .u64 x x hu
    simp only [beq_self_eq_true] at hq
    have hi := itemsG dd he hu xs w is (fun j hj => h j (by simp [hj]))
    simp only [Op.eqItems, Sem.run_bind, Nat.mul_one, hp, Result.andThen_ok, hq, Bool.not_true, Bool.false_eq_true, if_false, hi]
theorem eqArr (dd : Nat) {t e : TypeId} {n : Nat} (ht : Try.prog.underlying t = some (.array n e)) (hi : (Try.prog.info? e).map (fun i => (i.zero, i.size, i.bytes)) = some (some (.int .u64 0), 1, 8)) (hc : Try.prog.cellsOf e = 1) (he : Try.prog.plainKey e = true) (hu : Try.prog.underlying e = some (.int .u64))
    (xs : Array Value) (h : ∀ i, i < n → ∃ x, xs[i]? = some (.int .u64 x)) (w : World) : (Op.equalIn (dd + 2) t (.agg xs) (.agg xs)).run Try.prog w = .ok true w := by
  obtain ⟨i0, hi0, hz0, hz1, hz2⟩ := info_parts hi
  rw [run_equalIn_array (P := Try.prog) w (dd + 1) xs xs ht hi0, hc]
  exact itemsG dd he hu xs w _ (fun i hi => h i (List.mem_range.1 hi))
theorem eqK (n : Nd) (w : World) : (Op.equalIn 9999 24 (.agg (List.take 8 (List.drop 5 n.cl)).toArray) (.agg (List.take 8 (List.drop 5 n.cl)).toArray)).run Try.prog w = .ok true w :=
  eqArr 9997 Try.underlying24 infU celU plnU Try.underlying22 _ (fun i hi => by rcases lt8 hi with rfl | rfl | rfl | rfl | rfl | rfl | rfl | rfl <;> exact ⟨_, rfl⟩) w
theorem eqP (n : Nd) (w : World) : (Op.equalIn 9999 25 (.agg (List.take 8 (List.drop 13 n.cl)).toArray) (.agg (List.take 8 (List.drop 13 n.cl)).toArray)).run Try.prog w = .ok true w :=
  eqArr 9997 Try.underlying25 infA celA plnA Try.underlying23 _ (fun i hi => by rcases lt8 hi with rfl | rfl | rfl | rfl | rfl | rfl | rfl | rfl <;> exact ⟨_, rfl⟩) w
set_option maxRecDepth 100000 in
theorem eqNd (n : Nd) (w : World) : (Op.equalIn 10000 27 n.V n.V).run Try.prog w = .ok true w := by
  have hS : Try.prog.underlying 27 = some (.struct (Try.prog.fieldsOf 27)) := by kernel_rfl
  have hp : Try.prog.stoodInHeld 27 = false := by kernel_rfl
  have g0 : n.cl[0]? = some (.int .i64 n.l) := rfl
  have g1 : n.cl[1]? = some (.int .u64 n.lo) := rfl
  have g2 : n.cl[2]? = some (.int .u64 n.nx) := rfl
  have g3 : n.cl[3]? = some (.int .u64 n.ct) := rfl
  have g4 : n.cl[4]? = some (.int .u64 n.fi) := rfl
  have e0 := fun W => run_equalIn_int (P := Try.prog) W 9998 3 .i64 .i64 n.l n.l Try.underlying3
  have e1 := fun W (x : Int) => run_equalIn_int (P := Try.prog) W 9998 22 .u64 .u64 x x Try.underlying22
  have e2 := fun W (x : Int) => run_equalIn_int (P := Try.prog) W 9998 23 .u64 .u64 x x Try.underlying23
  have e3 := fun W => eqK n W
  have e4 := fun W => eqP n W
  unfold Nd.V
  rw [show (10000 : Nat) = 9999 + 1 from rfl, run_equalIn_agg w 9999 27 _ _ hS hp]
  simp only [Program.fieldsOf, Try.underlying27]
  go_simp
theorem eq_node (n : Nd) (w : World) : (binOp .eql 27 n.V n.V).run Try.prog w = .ok (.bool true) w := by
  unfold Nd.V
  rw [run_eql_struct]
  have := eqNd n w
  unfold Nd.V at this
  rw [this]
  rfl
theorem neq_node (n : Nd) (w : World) : (binOp .neq 27 n.V n.V).run Try.prog w = .ok (.bool false) w := by
  unfold Nd.V
  rw [run_neq_struct]
  have := eqNd n w
  unfold Nd.V at this
  rw [this]
  rfl
theorem eqW (l : List Int) (hl : l.length = 24) (w : World) : (Op.equalIn 10000 76 (.agg (l.map uw).toArray) (.agg (l.map uw).toArray)).run Try.prog w = .ok true w :=
  eqArr 9998 Try.underlying76 infU celU plnU Try.underlying22 _ (fun i hi => ⟨wAt l i, by rw [List.getElem?_toArray]; exact wAt_get hl hi⟩) w
theorem eq_w24 (l : List Int) (hl : l.length = 24) (w : World) : (binOp .eql 76 (.agg (l.map uw).toArray) (.agg (l.map uw).toArray)).run Try.prog w = .ok (.bool true) w := by
  rw [run_eql_struct, eqW l hl]
  rfl
theorem neq_w24 (l : List Int) (hl : l.length = 24) (w : World) : (binOp .neq 76 (.agg (l.map uw).toArray) (.agg (l.map uw).toArray)).run Try.prog w = .ok (.bool false) w := by
  rw [run_neq_struct, eqW l hl]
  rfl
/-- A node's words, as integers. -/
def wi (n : Nd) : List Int := if isLv n = true then [5495893775785918464 + n.l, n.lo, n.nx, n.ct, n.fi, 0, 0, 0, n.k0, n.p0, n.k1, n.p1, n.k2, n.p2, n.k3, n.p3, n.k4, n.p4, n.k5, n.p5, n.k6, n.p6, n.k7, n.p7]
  else [0, 0, 0, 0, 0, 0, 0, 0, 0, 0, 0, 0, 0, 0, 0, 0, 0, 0, 0, 0, 0, 0, 0, 0]
theorem wi_len (n : Nd) : (wi n).length = 24 := by unfold wi; split <;> rfl
theorem wi_words (n : Nd) : wordsL n = (wi n).map uw := by unfold wordsL wi; split <;> rfl
theorem wi_of (n : Nd) : (0 ≤ wAt (wi n) 0 ∧ wAt (wi n) 0 < 18446744073709551616) ∧ ofR (wi n) = if isLv n = true then (n, 0) else (zeroNd, 11) := by
  by_cases h : isLv n = true
  · have hb : 0 ≤ n.l ∧ n.l ≤ 15 := by simpa [isLv] using h
    have e : wi n = [5495893775785918464 + n.l, n.lo, n.nx, n.ct, n.fi, 0, 0, 0, n.k0, n.p0, n.k1, n.p1, n.k2, n.p2, n.k3, n.p3, n.k4, n.p4, n.k5, n.p5, n.k6, n.p6, n.k7, n.p7] := by unfold wi; rw [if_pos h]
    have e0 : wAt (wi n) 0 = 5495893775785918464 + n.l := by rw [e]; rfl
    refine ⟨by rw [e0]; omega, ?_⟩
    unfold ofR
    rw [e0, if_pos (by omega), if_pos h, show 5495893775785918464 + n.l - 5495893775785918464 = n.l by omega, e]
    cases n
    simp [ofN, Nd.put, wAt]
  · have e : wi n = [0, 0, 0, 0, 0, 0, 0, 0, 0, 0, 0, 0, 0, 0, 0, 0, 0, 0, 0, 0, 0, 0, 0, 0] := by unfold wi; rw [if_neg h]
    have e0 : wAt (wi n) 0 = 0 := by rw [e]; rfl
    refine ⟨by rw [e0]; omega, ?_⟩
    unfold ofR
    rw [e0, if_neg (by omega), if_neg h]
end Go.Proofs.Yteojhhfcfdkmdaa
/- Two nodes are compared: there is an answer; no conditions. -/
namespace Go.Proofs.Yteojhhfcfdkmdaa
open Go.RowKit
set_option linter.unusedVariables false
set_option linter.unusedSimpArgs false
theorem itemsT (dd : Nat) {e : TypeId} (he : Try.prog.plainKey e = true) (hu : Try.prog.underlying e = some (.int .u64)) (xs ys : Array Value) : ∀ is : List Nat, (∀ i ∈ is, (∃ x, xs[i]? = some (.int .u64 x)) ∧ ∃ y, ys[i]? = some (.int .u64 y)) → ∃ r : Bool, ∀ w, (Op.eqItems (dd + 1) e 1 xs ys is).run Try.prog w = .ok r w
  | [], _ => ⟨true, fun w => by simp [Op.eqItems]⟩
  | i :: is, h => by
    obtain ⟨⟨x, hx⟩, y, hy⟩ := h i (by simp)
    obtain ⟨r, hr⟩ := itemsT dd he hu xs ys is (fun j hj => h j (by simp [hj]))
    refine ⟨if (x == y) = true then r else false, fun w => ?_⟩
    have hp := run_part_plain (P := Try.prog) w he (xs := xs) (off := i) hx
    have hp2 := run_part_plain (P := Try.prog) w he (xs := ys) (off := i) hy
    have hq := run_equalIn_int (P := Try.prog) w dd e .u64 .u64 x y hu
    simp only [Op.eqItems, Sem.run_bind, Nat.mul_one, hp, hp2, Result.andThen_ok, hq]
    cases (x == y) with
    | true => simpa using hr w
    | false => simp
theorem eqArrT (dd : Nat) {t e : TypeId} {n : Nat} (ht : Try.prog.underlying t = some (.array n e)) (hi : (Try.prog.info? e).map (fun i => (i.zero, i.size, i.bytes)) = some (some (.int .u64 0), 1, 8)) (hc : Try.prog.cellsOf e = 1) (he : Try.prog.plainKey e = true) (hu : Try.prog.underlying e = some (.int .u64))
    (xs ys : Array Value) (h : ∀ i, i < n → (∃ x, xs[i]? = some (.int .u64 x)) ∧ ∃ y, ys[i]? = some (.int .u64 y)) : ∃ r : Bool, ∀ w, (Op.equalIn (dd + 2) t (.agg xs) (.agg ys)).run Try.prog w = .ok r w := by
  obtain ⟨i0, hi0, hz0, hz1, hz2⟩ := info_parts hi
  obtain ⟨r, hr⟩ := itemsT dd he hu xs ys (List.range n) (fun i hi => h i (List.mem_range.1 hi))
  refine ⟨r, fun w => ?_⟩
  rw [run_equalIn_array (P := Try.prog) w (dd + 1) xs ys ht hi0, hc]
  exact hr w
theorem eqKT (n m : Nd) : ∃ r : Bool, ∀ w, (Op.equalIn 9999 24 (.agg (List.take 8 (List.drop 5 n.cl)).toArray) (.agg (List.take 8 (List.drop 5 m.cl)).toArray)).run Try.prog w = .ok r w :=
  eqArrT 9997 Try.underlying24 infU celU plnU Try.underlying22 _ _ (fun i hi => by rcases lt8 hi with rfl | rfl | rfl | rfl | rfl | rfl | rfl | rfl <;> exact ⟨⟨_, rfl⟩, ⟨_, rfl⟩⟩)
theorem eqPT (n m : Nd) : ∃ r : Bool, ∀ w, (Op.equalIn 9999 25 (.agg (List.take 8 (List.drop 13 n.cl)).toArray) (.agg (List.take 8 (List.drop 13 m.cl)).toArray)).run Try.prog w = .ok r w :=
  eqArrT 9997 Try.underlying25 infA celA plnA Try.underlying23 _ _ (fun i hi => by rcases lt8 hi with rfl | rfl | rfl | rfl | rfl | rfl | rfl | rfl <;> exact ⟨⟨_, rfl⟩, ⟨_, rfl⟩⟩)
set_option maxRecDepth 100000 in
theorem eqNdT (n m : Nd) : ∃ r : Bool, ∀ w, (Op.equalIn 10000 27 n.V m.V).run Try.prog w = .ok r w := by
  obtain ⟨rk, hk⟩ := eqKT n m
  obtain ⟨rp, hp2⟩ := eqPT n m
  refine ⟨(n.l == m.l) && ((n.lo == m.lo) && ((n.nx == m.nx) && ((n.ct == m.ct) && ((n.fi == m.fi) && (rk && rp))))), fun w => ?_⟩
  have hS : Try.prog.underlying 27 = some (.struct (Try.prog.fieldsOf 27)) := by kernel_rfl
  have hp : Try.prog.stoodInHeld 27 = false := by kernel_rfl
  have g0 : n.cl[0]? = some (.int .i64 n.l) := rfl
  have g1 : n.cl[1]? = some (.int .u64 n.lo) := rfl
  have g2 : n.cl[2]? = some (.int .u64 n.nx) := rfl
  have g3 : n.cl[3]? = some (.int .u64 n.ct) := rfl
  have g4 : n.cl[4]? = some (.int .u64 n.fi) := rfl
  have k0 : m.cl[0]? = some (.int .i64 m.l) := rfl
  have k1 : m.cl[1]? = some (.int .u64 m.lo) := rfl
  have k2 : m.cl[2]? = some (.int .u64 m.nx) := rfl
  have k3 : m.cl[3]? = some (.int .u64 m.ct) := rfl
  have k4 : m.cl[4]? = some (.int .u64 m.fi) := rfl
  have e0 := fun W => run_equalIn_int (P := Try.prog) W 9998 3 .i64 .i64 n.l m.l Try.underlying3
  have e1 := fun W => run_equalIn_int (P := Try.prog) W 9998 22 .u64 .u64 n.lo m.lo Try.underlying22
  have e3 := fun W => run_equalIn_int (P := Try.prog) W 9998 22 .u64 .u64 n.ct m.ct Try.underlying22
  have e2 := fun W => run_equalIn_int (P := Try.prog) W 9998 23 .u64 .u64 n.nx m.nx Try.underlying23
  have e4 := fun W => run_equalIn_int (P := Try.prog) W 9998 23 .u64 .u64 n.fi m.fi Try.underlying23
  generalize (n.l == m.l) = b0 at *
  generalize (n.lo == m.lo) = b1 at *
  generalize (n.nx == m.nx) = b2 at *
  generalize (n.ct == m.ct) = b3 at *
  generalize (n.fi == m.fi) = b4 at *
  unfold Nd.V
  rw [show (10000 : Nat) = 9999 + 1 from rfl, run_equalIn_agg w 9999 27 _ _ hS hp]
  simp only [Program.fieldsOf, Try.underlying27]
  cases b0
  · go_simp
  · cases b1
    · go_simp
    · cases b2
      · go_simp
      · cases b3
        · go_simp
        · cases b4
          · go_simp
          · cases rk
            · go_simp
            · cases rp
              · go_simp
              · go_simp
theorem eql_nodes (n m : Nd) : ∃ r : Bool, ∀ w, (binOp .eql 27 n.V m.V).run Try.prog w = .ok (.bool r) w := by
  obtain ⟨r, hr⟩ := eqNdT n m
  refine ⟨r, fun w => ?_⟩
  unfold Nd.V at hr ⊢
  rw [run_eql_struct, hr w]
  rfl
end Go.Proofs.Yteojhhfcfdkmdaa
/- A node without what stands behind its entries: Trim of the document, and of the law; no conditions. -/
namespace Go.Proofs.Yteojhhfcfdkmdaa
open Go.RowKit
set_option linter.unusedVariables false
attribute [local go_sem] Oper.semAt_some
/-- A node that has the first a keys and the first b pointers, noughts behind. -/
def Nd.tr (n : Nd) (a b : Nat) : Nd := ⟨n.l, n.lo, n.nx, n.ct, n.fi, if 0 < a then n.k0 else 0, if 1 < a then n.k1 else 0, if 2 < a then n.k2 else 0, if 3 < a then n.k3 else 0, if 4 < a then n.k4 else 0, if 5 < a then n.k5 else 0, if 6 < a then n.k6 else 0, if 7 < a then n.k7 else 0, if 0 < b then n.p0 else 0, if 1 < b then n.p1 else 0, if 2 < b then n.p2 else 0, if 3 < b then n.p3 else 0, if 4 < b then n.p4 else 0, if 5 < b then n.p5 else 0, if 6 < b then n.p6 else 0, if 7 < b then n.p7 else 0⟩
theorem Nd.tr_key (n : Nd) (a b : Nat) {i : Nat} (hi : i < 8) : (n.tr a b).key i = if i < a then n.key i else 0 := by
  rcases lt8 hi with rfl | rfl | rfl | rfl | rfl | rfl | rfl | rfl <;> rfl
theorem Nd.tr_ptr (n : Nd) (a b : Nat) {i : Nat} (hi : i < 8) : (n.tr a b).ptr i = if i < b then n.ptr i else 0 := by
  rcases lt8 hi with rfl | rfl | rfl | rfl | rfl | rfl | rfl | rfl <;> rfl
/-- The words ahead of the entries. -/
def Nd.hd (n : Nd) : Int × Int × Int × Int × Int := (n.l, n.lo, n.nx, n.ct, n.fi)
theorem Nd.ext_of {n m : Nd} (h : n.hd = m.hd) (hk : ∀ i, i < 8 → n.key i = m.key i) (hp : ∀ i, i < 8 → n.ptr i = m.ptr i) : n = m := by
  obtain ⟨l, lo, nx, ct, fi, k0, k1, k2, k3, k4, k5, k6, k7, p0, p1, p2, p3, p4, p5, p6, p7⟩ := n
  obtain ⟨l', lo', nx', ct', fi', k0', k1', k2', k3', k4', k5', k6', k7', p0', p1', p2', p3', p4', p5', p6', p7'⟩ := m
  simp only [Nd.hd, Prod.mk.injEq] at h
  obtain ⟨rfl, rfl, rfl, rfl, rfl⟩ := h
  have a0 : k0 = k0' := hk 0 (by omega)
  have a1 : k1 = k1' := hk 1 (by omega)
  have a2 : k2 = k2' := hk 2 (by omega)
  have a3 : k3 = k3' := hk 3 (by omega)
  have a4 : k4 = k4' := hk 4 (by omega)
  have a5 : k5 = k5' := hk 5 (by omega)
  have a6 : k6 = k6' := hk 6 (by omega)
  have a7 : k7 = k7' := hk 7 (by omega)
  have b0 : p0 = p0' := hp 0 (by omega)
  have b1 : p1 = p1' := hp 1 (by omega)
  have b2 : p2 = p2' := hp 2 (by omega)
  have b3 : p3 = p3' := hp 3 (by omega)
  have b4 : p4 = p4' := hp 4 (by omega)
  have b5 : p5 = p5' := hp 5 (by omega)
  have b6 : p6 = p6' := hp 6 (by omega)
  have b7 : p7 = p7' := hp 7 (by omega)
  subst a0 a1 a2 a3 a4 a5 a6 a7 b0 b1 b2 b3 b4 b5 b6 b7
  rfl
/-- A key put. -/
def Nd.sk (n : Nd) (k : Nat) (v : Int) : Nd := match k with
  | 0 => { n with k0 := v } | 1 => { n with k1 := v } | 2 => { n with k2 := v } | 3 => { n with k3 := v } | 4 => { n with k4 := v } | 5 => { n with k5 := v } | 6 => { n with k6 := v } | _ => { n with k7 := v }
/-- A pointer put. -/
def Nd.sp (n : Nd) (k : Nat) (v : Int) : Nd := match k with
  | 0 => { n with p0 := v } | 1 => { n with p1 := v } | 2 => { n with p2 := v } | 3 => { n with p3 := v } | 4 => { n with p4 := v } | 5 => { n with p5 := v } | 6 => { n with p6 := v } | _ => { n with p7 := v }
theorem Nd.sk_cl (n : Nd) {k : Nat} (hk : k < 8) (v : Int) : n.cl.toArray.setIfInBounds (5 + k) (uw v) = (n.sk k v).cl.toArray := by
  rcases lt8 hk with rfl | rfl | rfl | rfl | rfl | rfl | rfl | rfl <;> rfl
theorem Nd.sp_cl (n : Nd) {k : Nat} (hk : k < 8) (v : Int) : n.cl.toArray.setIfInBounds (13 + k) (uw v) = (n.sp k v).cl.toArray := by
  rcases lt8 hk with rfl | rfl | rfl | rfl | rfl | rfl | rfl | rfl <;> rfl
theorem Nd.sk_hd (n : Nd) {k : Nat} (hk : k < 8) (v : Int) : (n.sk k v).hd = n.hd := by
  rcases lt8 hk with rfl | rfl | rfl | rfl | rfl | rfl | rfl | rfl <;> rfl
theorem Nd.sp_hd (n : Nd) {k : Nat} (hk : k < 8) (v : Int) : (n.sp k v).hd = n.hd := by
  rcases lt8 hk with rfl | rfl | rfl | rfl | rfl | rfl | rfl | rfl <;> rfl
theorem Nd.sk_key (n : Nd) {k i : Nat} (hk : k < 8) (hi : i < 8) (v : Int) : (n.sk k v).key i = if i = k then v else n.key i := by
  rcases lt8 hk with rfl | rfl | rfl | rfl | rfl | rfl | rfl | rfl <;> rcases lt8 hi with rfl | rfl | rfl | rfl | rfl | rfl | rfl | rfl <;> rfl
theorem Nd.sk_ptr (n : Nd) {k i : Nat} (hk : k < 8) (v : Int) : (n.sk k v).ptr i = n.ptr i := by
  rcases lt8 hk with rfl | rfl | rfl | rfl | rfl | rfl | rfl | rfl <;> rfl
theorem Nd.sp_ptr (n : Nd) {k i : Nat} (hk : k < 8) (hi : i < 8) (v : Int) : (n.sp k v).ptr i = if i = k then v else n.ptr i := by
  rcases lt8 hk with rfl | rfl | rfl | rfl | rfl | rfl | rfl | rfl <;> rcases lt8 hi with rfl | rfl | rfl | rfl | rfl | rfl | rfl | rfl <;> rfl
theorem Nd.sp_key (n : Nd) {k i : Nat} (hk : k < 8) (v : Int) : (n.sp k v).key i = n.key i := by
  rcases lt8 hk with rfl | rfl | rfl | rfl | rfl | rfl | rfl | rfl <;> rfl
theorem results_node1 {fn : Func} {p : Tmp} (h : fn.results = #[.cell p 27]) (tmps : Array Value) (w : World) (g : Nat) (n : Nd)
    (hp : tmps.getD p undef = .pointer (some ⟨g, 0, none⟩)) (hg : NdAt w g n) :
    (results fn tmps).run Try.prog w = .ok n.V w :=
  results_cell_row h tmps w g 27 n.cl.toArray _ _ hp hg Try.underlying27 rfl ndI
/-- What a trim's loop has done: of the keys from a place on, and of the pointers. -/
def TrK (n m : Nd) (i : Nat) : Prop := m.hd = n.hd ∧ (∀ j, j < 8 → m.ptr j = n.ptr j) ∧ ∀ j, j < 8 → m.key j = if n.len ≤ j ∧ j < i then 0 else n.key j
def TrP (n m : Nd) (i : Nat) : Prop := m.hd = n.hd ∧ (∀ j, j < 8 → m.key j = n.key j) ∧ ∀ j, j < 8 → m.ptr j = if n.len ≤ j ∧ j < i then 0 else n.ptr j
def TrB (n m : Nd) (i : Nat) : Prop := m.hd = n.hd ∧ (∀ j, j < 8 → m.key j = if n.len < j ∧ j < i then 0 else n.key j) ∧ ∀ j, j < 8 → m.ptr j = if n.len ≤ j then 0 else n.ptr j
theorem TrK.step {n m : Nd} {i : Nat} (h : TrK n m i) (hi : i < 8) (hl : n.len ≤ i) : TrK n (m.sk i 0) (i + 1) := by
  refine ⟨(m.sk_hd hi 0).trans h.1, fun j hj => (m.sk_ptr hi 0).trans (h.2.1 j hj), fun j hj => ?_⟩
  rw [m.sk_key hi hj, h.2.2 j hj]
  by_cases e : j = i
  · subst e; rw [if_pos rfl, if_pos ⟨hl, by omega⟩]
  · rw [if_neg e]
    by_cases h1 : n.len ≤ j ∧ j < i
    · rw [if_pos h1, if_pos ⟨h1.1, by omega⟩]
    · rw [if_neg h1, if_neg (by omega)]
theorem TrP.step {n m : Nd} {i : Nat} (h : TrP n m i) (hi : i < 8) (hl : n.len ≤ i) : TrP n (m.sp i 0) (i + 1) := by
  refine ⟨(m.sp_hd hi 0).trans h.1, fun j hj => (m.sp_key hi 0).trans (h.2.1 j hj), fun j hj => ?_⟩
  rw [m.sp_ptr hi hj, h.2.2 j hj]
  by_cases e : j = i
  · subst e; rw [if_pos rfl, if_pos ⟨hl, by omega⟩]
  · rw [if_neg e]
    by_cases h1 : n.len ≤ j ∧ j < i
    · rw [if_pos h1, if_pos ⟨h1.1, by omega⟩]
    · rw [if_neg h1, if_neg (by omega)]
theorem TrB.step {n m : Nd} {i : Nat} (h : TrB n m i) (hi : i < 8) (hl : n.len ≤ i) : TrB n (if n.len < i then (m.sp i 0).sk i 0 else m.sp i 0) (i + 1) := by
  have hp : ∀ j, j < 8 → (m.sp i 0).ptr j = if n.len ≤ j then 0 else n.ptr j := fun j hj => by
    rw [m.sp_ptr hi hj, h.2.2 j hj]
    by_cases e : j = i
    · subst e; rw [if_pos rfl, if_pos hl]
    · rw [if_neg e]
  by_cases hlt : n.len < i
  · rw [if_pos hlt]
    refine ⟨((m.sp i 0).sk_hd hi 0).trans ((m.sp_hd hi 0).trans h.1), fun j hj => ?_, fun j hj => ((m.sp i 0).sk_ptr hi 0).trans (hp j hj)⟩
    rw [(m.sp i 0).sk_key hi hj, m.sp_key hi, h.2.1 j hj]
    by_cases e : j = i
    · subst e; rw [if_pos rfl, if_pos ⟨hlt, by omega⟩]
    · rw [if_neg e]
      by_cases h1 : n.len < j ∧ j < i
      · rw [if_pos h1, if_pos ⟨h1.1, by omega⟩]
      · rw [if_neg h1, if_neg (by omega)]
  · rw [if_neg hlt]
    refine ⟨(m.sp_hd hi 0).trans h.1, fun j hj => ?_, hp⟩
    rw [m.sp_key hi, h.2.1 j hj]
    by_cases h1 : n.len < j ∧ j < i
    · omega
    · rw [if_neg h1, if_neg (by omega)]
/-- Behind the stores the node has as many entries as it had. -/
theorem len_same {n m : Nd} (h : ∀ j, j < 8 → m.ptr j = if n.len ≤ j then 0 else n.ptr j) : m.len = n.len := by
  refine m.len_eq n.len_le (fun i hi => ?_) (fun h8 => ?_)
  · have := n.len_le
    rw [h i (by omega), if_neg (by omega)]
    exact n.len_before hi
  · rw [h _ h8, if_pos (Nat.le_refl _)]
theorem TrP.len {n m : Nd} {i : Nat} (h : TrP n m i) : m.len = n.len := by
  refine m.len_eq n.len_le (fun j hj => ?_) (fun h8 => ?_)
  · have := n.len_le
    rw [h.2.2 j (by omega), if_neg (by omega)]
    exact n.len_before hj
  · rw [h.2.2 _ h8]
    split
    · rfl
    · exact n.len_at h8
theorem TrP.zero {n m : Nd} {i : Nat} (h : TrP n m i) (hi : i < 8) (hl : n.len < i) : m.ptr (i - 1) = 0 := by rw [h.2.2 _ (by omega), if_pos (by omega)]
set_option maxRecDepth 100000 in
set_option maxHeartbeats 3200000 in
theorem r11Trim_any (n : Nd) (w : World) : Calls Try.prog 29 #[n.V] w fun e w' => e = .returned (n.tr (n.len + 1) n.len).V ∧ Below w.heap.size w w' := by
  have hlen8 := n.len_le
  have rx := Row.new w 27 n.cl.toArray
  have ry := Row.new (w.alloc (.cells n.cl.toArray 27)) 27 zeroNd.cl.toArray
  simp only [World.size_alloc] at ry
  obtain ⟨W1, hW1⟩ : ∃ W1, W1 = (w.alloc (.cells n.cl.toArray 27)).alloc (.cells #[.int .i64 0, .int .u64 0, .int .u64 0, .int .u64 0, .int .u64 0, .int .u64 0, .int .u64 0, .int .u64 0, .int .u64 0, .int .u64 0, .int .u64 0, .int .u64 0, .int .u64 0, .int .u64 0, .int .u64 0, .int .u64 0, .int .u64 0, .int .u64 0, .int .u64 0, .int .u64 0, .int .u64 0] 27) := ⟨_, rfl⟩
  have HB1 := Lib.hid (show Below w.heap.size w W1 by rw [hW1]; exact low_and (alloc_low _ _) (alloc_low _ _))
  have R0 := Lib.hid (show NdAt W1 w.heap.size n by rw [hW1]; exact rx.alloc _)
  have R1 := Lib.hid (show NdAt W1 (w.heap.size + 1) zeroNd by rw [hW1]; exact ry)
  have HS1 := Lib.hid (show w.heap.size + 2 ≤ W1.heap.size by rw [hW1]; simp)
  have HW1 := Lib.hid hW1
  have HL1 := Lib.hid (r8Len_any n W1)
  obtain ⟨k0, hk0⟩ : ∃ k0, k0 = n.len := ⟨_, rfl⟩
  rw [← hk0] at hlen8 HL1 ⊢
  have HK0 := Lib.hid hk0
  clear hW1 rx ry hk0
  go_enter Try.func29, Try.ntmps29
  go_wp2_with (first
    | (rw [← HW1.out]; refine wpList_load_mid rfl _ _ rfl w.heap.size 0 rfl n.cl _ (ndR R0.out) Try.underlying27 rfl ndI ?_)
    | (refine HL1.out.mono ?_; rintro e w2 ⟨rfl, hb2⟩; have HB2 := Lib.hid hb2; clear hb2))
  have hsz2 := HB2.out.size
  have hsz1 := HS1.out
  go_loopw [3] (fun i wr => ∃ (k : Nat) (m : Nd), k0 ≤ k ∧ k ≤ 8 ∧ i = .int .i64 (k : Int) ∧ NdAt wr w.heap.size m ∧ NdAt wr (w.heap.size + 1) zeroNd ∧ TrP n m k ∧ Below w.heap.size w wr ∧ w.heap.size + 2 ≤ wr.heap.size) (fun i _ => 8 - (intOf i).toNat)
  case atStart => exact ⟨k0, n, Nat.le_refl _, hlen8, rfl, R0.out.below HB2.out R0.out.lt, R1.out.below HB2.out R1.out.lt, ⟨rfl, fun _ _ => rfl, fun j _ => by rw [if_neg (by have := HK0.out; omega)]⟩, low_and HB1.out HB2.out, by omega⟩
  case round =>
    rename World => wr
    obtain ⟨k, m, hk0, hk8, rfl, h0, h1, ht, hb, hsz⟩ := hrel
    by_cases hlt : k < 8
    · have c13 := ndAt_ptr h0 hlt
      have f13 := h0.free (13 + k)
      have HST := Lib.hid (ht.step hlt (by rw [← HK0.out]; exact hk0))
      have H0 := Lib.hid h0
      have H1 := Lib.hid h1
      have HB := Lib.hid hb
      have HT := Lib.hid ht
      by_cases he : k = k0
      · have HL := Lib.hid (r8Len_any m wr)
        rw [ht.len, ← HK0.out] at HL
        have hkk : ((k : Int) == (k0 : Int)) = true := by rw [beq_iff_eq]; omega
        by_cases hz : 0 < k
        · have hpm : m.ptr (k - 1) ≠ 0 := by
            rw [ht.2.2 _ (by omega), if_neg (by have := HK0.out; omega)]
            exact n.len_before (by have := HK0.out; omega)
          have c12 := ndAt_ptr h0 (i := k - 1) (by omega)
          have hx0 : (m.ptr (k - 1) == 0) = false := by simpa using hpm
          obtain ⟨x, hx⟩ : ∃ x, x = m.ptr (k - 1) := ⟨_, rfl⟩
          rw [← hx] at c12 hx0
          have hd0 : decide (0 < (k : Int)) = true := by rw [decide_eq_true_eq]; omega
          have HB3 := Lib.hid (show ∀ W, Below wr.heap.size wr W → NdAt W w.heap.size m ∧ NdAt W (w.heap.size + 1) zeroNd ∧ Below w.heap.size w W ∧ w.heap.size + 2 ≤ W.heap.size from fun W hW => ⟨H0.out.below hW H0.out.lt, H1.out.below hW H1.out.lt, low_and HB.out hW, by have := hW.size; omega⟩)
          clear hx hpm ht h0 h1 hb f13 c13 he
          go_wp2_with (first
            | (refine wpList_load_midg (by rfl) _ _ rfl w.heap.size 0 rfl m.cl _ (ndR H0.out) Try.underlying27 rfl ndI ?_)
            | (refine HL.out.mono ?_; rintro e w3 ⟨rfl, hb3⟩; obtain ⟨g0, g1, gb, gs⟩ := HB3.out _ hb3; have f13 := g0.free (13 + k); have c13 := ndAt_ptr g0 hlt; have G0 := Lib.hid g0; have G1 := Lib.hid g1; have GB := Lib.hid gb; have GS := Lib.hid gs; clear hb3 g0 g1 gb gs))
          refine ⟨⟨k + 1, m.sp k 0, by omega, by omega, by go_num, ?_, G1.out.other (p := ⟨w.heap.size, 13 + k, none⟩) (by dsimp only; omega) _, HST.out, ?_, by simpa using GS.out⟩, by simp [intOf]; omega⟩
          · have := G0.out.set (13 + k) (uw 0)
            rw [m.sp_cl hlt] at this
            exact this
          · have := GB.out.setCell (p := ⟨w.heap.size, 13 + k, none⟩) (Nat.le_refl _) (.int .u64 0)
            exact ⟨this.os, this.tape, this.output, this.size, this.block⟩
        · have hd0 : decide (0 < (k : Int)) = false := by rw [decide_eq_false_iff_not]; omega
          have hd1 : decide (0 < k) = false := by rw [decide_eq_false_iff_not]; omega
          have HB3 := Lib.hid (show ∀ W, Below wr.heap.size wr W → NdAt W w.heap.size m ∧ NdAt W (w.heap.size + 1) zeroNd ∧ Below w.heap.size w W ∧ w.heap.size + 2 ≤ W.heap.size from fun W hW => ⟨H0.out.below hW H0.out.lt, H1.out.below hW H1.out.lt, low_and HB.out hW, by have := hW.size; omega⟩)
          clear ht h0 h1 hb f13 c13 he
          go_wp2_with (first
            | (refine wpList_load_midg (by rfl) _ _ rfl w.heap.size 0 rfl m.cl _ (ndR H0.out) Try.underlying27 rfl ndI ?_)
            | (refine HL.out.mono ?_; rintro e w3 ⟨rfl, hb3⟩; obtain ⟨g0, g1, gb, gs⟩ := HB3.out _ hb3; have f13 := g0.free (13 + k); have c13 := ndAt_ptr g0 hlt; have G0 := Lib.hid g0; have G1 := Lib.hid g1; have GB := Lib.hid gb; have GS := Lib.hid gs; clear hb3 g0 g1 gb gs))
          refine ⟨⟨k + 1, m.sp k 0, by omega, by omega, by go_num, ?_, G1.out.other (p := ⟨w.heap.size, 13 + k, none⟩) (by dsimp only; omega) _, HST.out, ?_, by simpa using GS.out⟩, by simp [intOf]; omega⟩
          · have := G0.out.set (13 + k) (uw 0)
            rw [m.sp_cl hlt] at this
            exact this
          · have := GB.out.setCell (p := ⟨w.heap.size, 13 + k, none⟩) (Nat.le_refl _) (.int .u64 0)
            exact ⟨this.os, this.tape, this.output, this.size, this.block⟩
      · have hpz := ht.zero hlt (by have := HK0.out; omega)
        have c12 := ndAt_ptr h0 (i := k - 1) (by omega)
        rw [hpz] at c12
        have hd0 : decide (0 < (k : Int)) = true := by rw [decide_eq_true_eq]; omega
        have hz : 0 < k := by omega
        clear hpz ht h0 h1 hb he
        go_wp2
        refine ⟨⟨k + 1, m.sp k 0, by omega, by omega, by go_num, ?_, H1.out.other (p := ⟨w.heap.size, 13 + k, none⟩) (by dsimp only; omega) _, HST.out, ?_, by simpa using hsz⟩, by simp [intOf]; omega⟩
        · have := H0.out.set (13 + k) (uw 0)
          rw [m.sp_cl hlt] at this
          exact this
        · have := HB.out.setCell (p := ⟨w.heap.size, 13 + k, none⟩) (Nat.le_refl _) (.int .u64 0)
          exact ⟨this.os, this.tape, this.output, this.size, this.block⟩
    · obtain rfl : k = 8 := by omega
      have HT := Lib.hid ht
      have H0 := Lib.hid h0
      have H1 := Lib.hid h1
      have HB := Lib.hid hb
      have HL := Lib.hid (r8Len_any m wr)
      rw [ht.len, ← HK0.out] at HL
      clear ht h0 h1 hb hlt
      go_wp2_with (first
        | (refine wpList_load_mid rfl _ _ rfl w.heap.size 0 rfl m.cl _ (ndR H0.out) Try.underlying27 rfl ndI ?_)
        | (refine HL.out.mono ?_; rintro e w3 ⟨rfl, hb3⟩; have HB3 := Lib.hid hb3; clear hb3))
      have hsz3 := HB3.out.size
      have HK00 := Lib.hid hk0
      clear hk0 hk8 hlen8
      have hlen8 := HK0.out ▸ n.len_le
      go_loopw [5] (fun i wq => ∃ (k : Nat) (m : Nd), k0 ≤ k ∧ k ≤ 8 ∧ i = .int .i64 (k : Int) ∧ NdAt wq w.heap.size m ∧ NdAt wq (w.heap.size + 1) zeroNd ∧ TrB n m k ∧ Below w.heap.size w wq ∧ w.heap.size + 2 ≤ wq.heap.size) (fun i _ => 8 - (intOf i).toNat)
      case atStart => exact ⟨k0, m, Nat.le_refl _, hlen8, rfl, H0.out.below HB3.out H0.out.lt, H1.out.below HB3.out H1.out.lt, ⟨HT.out.1, fun j hj => by rw [HT.out.2.1 j hj, if_neg (by have := HK0.out; omega)], fun j hj => by rw [HT.out.2.2 j hj]; simp only [hj, and_true]⟩, low_and HB.out HB3.out, by omega⟩
      case round =>
        rename World => wq
        obtain ⟨k, m2, hk0, hk8, rfl, h0, h1, ht, hb, hsz⟩ := hrel
        have H0 := Lib.hid h0
        have H1 := Lib.hid h1
        have HB := Lib.hid hb
        have HT := Lib.hid ht
        by_cases hlt : k < 8
        · have c13 := ndAt_ptr h0 hlt
          have f13 := h0.free (13 + k)
          have c5 : ∀ u, (wq.setCell ⟨w.heap.size, 13 + k, none⟩ u).cell? ⟨w.heap.size, 5 + k, none⟩ = some (.int .u64 (m2.key k)) := fun u => by
            rw [World.cell?_setCell_other _ _ _ _ (by simp)]
            exact ndAt_key h0 hlt
          have f5 := h0.free (5 + k)
          have HST := Lib.hid (ht.step hlt (by rw [← HK0.out]; exact hk0))
          rw [← HK0.out] at HST
          have hsp := H0.out.set (13 + k) (uw 0)
          rw [m2.sp_cl hlt] at hsp
          have HSP := Lib.hid hsp
          have HB2 := Lib.hid (hb.setCell (p := ⟨w.heap.size, 13 + k, none⟩) (Nat.le_refl _) (.int .u64 0))
          have H12 := Lib.hid (h1.other (p := ⟨w.heap.size, 13 + k, none⟩) (by dsimp only; omega) (.int .u64 0))
          clear h0 h1 ht hb hsp
          by_cases hg : k0 < k
          · have hd0 : decide ((k0 : Int) < (k : Int)) = true := by rw [decide_eq_true_eq]; omega
            have hd1 : decide (k0 < k) = true := by rw [decide_eq_true_eq]; omega
            rw [if_pos hg] at HST
            go_wp2
            refine ⟨⟨k + 1, (m2.sp k 0).sk k 0, by omega, by omega, by go_num, ?_, H12.out.other (p := ⟨w.heap.size, 5 + k, none⟩) (by dsimp only; omega) _, HST.out, ?_, by simpa using hsz⟩, by simp [intOf]; omega⟩
            · have := HSP.out.set (5 + k) (uw 0)
              rw [(m2.sp k 0).sk_cl hlt] at this
              exact this
            · have := HB2.out.setCell (p := ⟨w.heap.size, 5 + k, none⟩) (Nat.le_refl _) (.int .u64 0)
              exact ⟨this.os, this.tape, this.output, this.size, this.block⟩
          · have hd0 : decide ((k0 : Int) < (k : Int)) = false := by rw [decide_eq_false_iff_not]; omega
            have hd1 : decide (k0 < k) = false := by rw [decide_eq_false_iff_not]; omega
            rw [if_neg hg] at HST
            go_wp2
            refine ⟨⟨k + 1, m2.sp k 0, by omega, by omega, by go_num, HSP.out, H12.out, HST.out, ?_, by simpa using hsz⟩, by simp [intOf]; omega⟩
            have := HB2.out
            exact ⟨this.os, this.tape, this.output, this.size, this.block⟩
        · obtain rfl : k = 8 := by omega
          clear h0 h1 ht hb hlt
          go_wp2_with (first
            | (refine wpList_load_mid rfl _ _ rfl w.heap.size 0 rfl m2.cl _ (ndR H0.out) Try.underlying27 rfl ndI ?_)
            | (refine wpList_store_row rfl _ _ _ rfl (w.heap.size + 1) m2.cl rfl rfl H1.out rfl ndI (cl_one _) ?_))
          refine bodyPost_ret (results_node1 rfl _ _ (w.heap.size + 1) m2 rfl (row_setCells H1.out rfl)) rfl ⟨?_, setCells_low _ (by omega) HB.out⟩
          have : m2 = n.tr (k0 + 1) k0 := Nd.ext_of HT.out.1 (fun i hi => by
            rw [HT.out.2.1 i hi, n.tr_key _ _ hi]
            have := HK0.out
            by_cases h : i < k0 + 1
            · rw [if_pos h, if_neg (by omega)]
            · rw [if_neg h, if_pos (by omega)]) (fun i hi => by
            rw [HT.out.2.2 i hi, n.tr_ptr _ _ hi]
            have := HK0.out
            by_cases h : i < k0
            · rw [if_pos h, if_neg (by omega)]
            · rw [if_neg h, if_pos (by omega)])
          rw [this]
end Go.Proofs.Yteojhhfcfdkmdaa
/- The document's Find and Last: of any node, any key; without conditions. -/
namespace Go.Proofs.Yteojhhfcfdkmdaa
open Go.RowKit
set_option linter.unusedVariables false
theorem vp_full (n : Nd) : n.vpTo n.len = n.vp := rfl
/-- The first of these places with a key; below nought: none. -/
def fndL (n : Nd) (key : Int) (l : List Nat) : Int := match l.find? (fun p => n.key p == key) with | some p => (p : Int) | none => -1
theorem fnd_hit {n : Nd} {key : Int} {i : Nat} (hi : i < n.len) (ho : n.ok i = true) (hk : n.key i = key) (h : ∀ p ∈ n.vpTo i, n.key p ≠ key) : fndL n key n.vp = (i : Int) := by
  obtain ⟨r, hr⟩ := n.vpTo_pre (show i + 1 ≤ n.len from hi)
  unfold fndL
  rw [← vp_full, ← hr, n.vpTo_yes ho, List.find?_append, List.find?_append, List.find?_eq_none.2 (fun y hy => by simpa using h y hy)]
  simp [hk]
theorem fnd_none {n : Nd} {key : Int} (h : ∀ p ∈ n.vp, n.key p ≠ key) : fndL n key n.vp = -1 := by
  unfold fndL
  rw [List.find?_eq_none.2 (fun y hy => by simpa using h y hy)]
end Go.Proofs.Yteojhhfcfdkmdaa
/- slices.Contains of addresses; rise, unlike, May: of any node; without conditions. -/
namespace Go.Proofs.Yteojhhfcfdkmdaa
open Go.RowKit
set_option linter.unusedVariables false
/-- A slice of addresses that reads as a list. -/
def AdsAt (w : World) (v : Value) (l : List Int) : Prop :=
  ∃ A cap, v = .slice A l.length cap ∧ (0 < l.length → ∃ g o, A = some ⟨g, o, none⟩ ∧ ∀ i x, l[i]? = some x → w.cell? ⟨g, o + i, none⟩ = some (uw x))
set_option maxRecDepth 100000 in
set_option maxHeartbeats 1600000 in
theorem indexA_any {w : World} {g o cap : Nat} {l : List Int} (hc : ∀ i x, l[i]? = some x → w.cell? ⟨g, o + i, none⟩ = some (uw x)) (hl : l.length ≤ 1000) (x : Int) :
    Calls Try.prog 93 #[.slice (some ⟨g, o, none⟩) l.length cap, .int .u64 x] w fun e w' => (∃ r : Int, e = .returned (.int .i64 r) ∧ (0 ≤ r ↔ x ∈ l)) ∧ w' = w := by
  obtain ⟨n, hn⟩ : ∃ n, n = l.length := ⟨_, rfl⟩
  have HC := Lib.hid (fun k (hk : k < n) => hc k _ (show l[k]? = some (l.getD k 0) by rw [List.getD_eq_getElem?_getD, List.getElem?_eq_getElem (by omega)]; rfl))
  have HM := Lib.hid (fun k (hk : k < n) => (show l.getD k 0 ∈ l by rw [List.getD_eq_getElem?_getD, List.getElem?_eq_getElem (by omega)]; exact List.getElem_mem _))
  have HN := Lib.hid (fun (h : ∀ j, j < n → l.getD j 0 ≠ x) => (show ¬ x ∈ l by
    intro hx
    obtain ⟨j, hj, e⟩ := List.getElem_of_mem hx
    refine h j (by omega) ?_
    rw [List.getD_eq_getElem?_getD, List.getElem?_eq_getElem hj]
    exact e))
  rw [← hn] at hl ⊢
  clear hc hn
  go_enter Try.func93, Try.ntmps93
  go_wp2
  go_loopw [8] (fun i wr => ∃ k : Nat, k ≤ n ∧ i = .int .i64 (k : Int) ∧ (∀ j, j < k → l.getD j 0 ≠ x) ∧ wr = w) (fun i _ => n - (intOf i).toNat)
  case atStart => exact ⟨0, by omega, rfl, fun j hj => by omega, rfl⟩
  case round =>
    obtain ⟨k, hk, rfl, ht, rfl⟩ := hrel
    have HT := Lib.hid ht
    clear ht
    by_cases hlt : k < n
    · have c := HC.out k hlt
      obtain ⟨y, hy⟩ : ∃ y, y = l.getD k 0 := ⟨_, rfl⟩
      rw [← hy] at c
      have HYd := Lib.hid hy
      clear hy
      unfold uw at c
      obtain rfl | hne : x = y ∨ x ≠ y := by omega
      · go_wp2
        go_ret
        refine ⟨⟨(k : Int), rfl, fun _ => ?_, fun _ => by omega⟩, rfl⟩
        have := HM.out k hlt
        rwa [← HYd.out] at this
      · go_wp2
        refine ⟨⟨k + 1, by omega, by go_num, fun j hj => ?_, by trivial⟩, by simp [intOf]; omega⟩
        rcases Nat.lt_or_ge j k with h1 | h1
        · exact HT.out j h1
        · obtain rfl : j = k := by omega
          rw [← HYd.out]
          exact fun e => hne e.symm
    · obtain rfl : k = n := by omega
      go_wp2
      go_ret
      exact ⟨⟨-1, rfl, fun h => absurd h (by decide), fun h => absurd h (HN.out fun j hj => HT.out j hj)⟩, rfl⟩
theorem contains_any {w : World} {g o cap : Nat} {l : List Int} (hc : ∀ i x, l[i]? = some x → w.cell? ⟨g, o + i, none⟩ = some (uw x)) (hl : l.length ≤ 1000) (x : Int) :
    Calls Try.prog 92 #[.slice (some ⟨g, o, none⟩) l.length cap, .int .u64 x] w fun e w' => e = .returned (.bool (decide (x ∈ l))) ∧ w' = w := by
  have HI := Lib.hid (indexA_any (cap := cap) hc hl x)
  obtain ⟨b, hb⟩ : ∃ b, b = decide (x ∈ l) := ⟨_, rfl⟩
  rw [← hb]
  have HBd := Lib.hid hb
  clear hb hc
  generalize l.length = n at *
  go_enter Try.func92, Try.ntmps92
  go_wp2_with (go_at_call 93; refine HI.out.mono ?_; rintro e w' ⟨⟨r, rfl, hr⟩, rfl⟩)
  go_ret
  refine ⟨?_, rfl⟩
  rw [HBd.out]
  simp only [← hr]
  rfl
end Go.Proofs.Yteojhhfcfdkmdaa
/- rise, unlike: of any node and any list of entries, few; without conditions else. -/
namespace Go.Proofs.Yteojhhfcfdkmdaa
open Go.RowKit
set_option linter.unusedVariables false
/-- Do keys rise, from a least one on? -/
def riseB : Int → Bool → List (Int × Int) → Bool
  | _, _, [] => true
  | a, c, e :: t => if e.1 < a ∨ (e.1 = a ∧ c = false) then false else riseB e.1 false t
/-- The least key and whether it may be met itself, behind so many entries. -/
def riseS (a : Int) (c : Bool) (l : List (Int × Int)) (k : Nat) : Int × Bool := if k = 0 then (a, c) else ((l.getD (k - 1) (0, 0)).1, false)
theorem rise_drop (l : List (Int × Int)) : ∀ (k : Nat) (a : Int) (c : Bool), k < l.length →
    riseB a c (l.drop k) = if (l.getD k (0, 0)).1 < a ∨ ((l.getD k (0, 0)).1 = a ∧ c = false) then false else riseB (l.getD k (0, 0)).1 false (l.drop (k + 1)) := by
  intro k a c hk
  rw [List.drop_eq_getElem_cons hk, List.getD_eq_getElem?_getD, List.getElem?_eq_getElem hk]
  rfl
set_option maxRecDepth 100000 in
set_option maxHeartbeats 1600000 in
theorem nRise_any (n : Nd) {w : World} {v : Value} {l : List (Int × Int)} (h : EntAt w v l) (hl : l.length ≤ 1000) :
    Calls Try.prog 90 #[n.V, v] w fun e w' => e = .returned (.bool (riseB n.lo (decide (n.l = 0)) l)) ∧ Below w.heap.size w w' := by
  have hE := h.low (alloc_low w (.cells n.cl.toArray 27))
  obtain ⟨A, cap, rfl, _⟩ := h
  obtain ⟨A2, cap2, hv2, hA⟩ := hE
  cases hv2
  have r0 := Row.new w 27 n.cl.toArray
  have c0 : (w.alloc (.cells n.cl.toArray 27)).cell? ⟨w.heap.size, 0, none⟩ = some (.int .i64 n.l) := ndAt_at r0 0
  have c1 : (w.alloc (.cells n.cl.toArray 27)).cell? ⟨w.heap.size, 1, none⟩ = some (.int .u64 n.lo) := ndAt_at r0 1
  obtain ⟨m, hm⟩ : ∃ m, m = l.length := ⟨_, rfl⟩
  have HA := Lib.hid (fun (h0 : 0 < m) => (show ∃ g o, A = some ⟨g, o, none⟩ ∧ ∀ k, k < m → (w.alloc (.cells n.cl.toArray 27)).cell? ⟨g, o + k * 2, none⟩ = some (uw (l.getD k (0, 0)).1) ∧ (w.alloc (.cells n.cl.toArray 27)).cell? ⟨g, o + k * 2 + 1, none⟩ = some (uw (l.getD k (0, 0)).2) by
    obtain ⟨g, o, rfl, hc⟩ := hA (by omega)
    exact ⟨g, o, rfl, fun k hk => hc k _ (getD_ent (by omega))⟩))
  have HD := Lib.hid (fun k a c (hk : k < m) => rise_drop l k a c (by omega))
  have HE := Lib.hid (show l.drop m = [] by rw [hm]; exact List.drop_length)
  have hb0 := alloc_low w (.cells n.cl.toArray 27)
  obtain ⟨R, hR⟩ : ∃ R, R = riseB n.lo (decide (n.l = 0)) l := ⟨_, rfl⟩
  rw [← hR, ← hm]
  rw [← hm] at hl
  have HR := Lib.hid (show R = riseB n.lo (decide (n.l = 0)) (l.drop 0) by rw [hR]; rfl)
  clear hA hm r0 hR
  go_enter Try.func90, Try.ntmps90
  go_wp2_with fail
  go_quiet (fail)
  go_wp2_with fail
  obtain ⟨Wa, hWa⟩ : ∃ Wa, Wa = w.alloc (.cells n.cl.toArray 27) := ⟨_, rfl⟩
  rw [← hWa] at HA hb0
  rw [← hWa]
  have HB0 := Lib.hid hb0
  clear hWa hb0 c0 c1
  go_loopw [5, 6, 16] (fun u c i wr => ∃ (k : Nat) (a : Int) (b : Bool), k ≤ m ∧ u = .int .u64 a ∧ c = .bool b ∧ i = .int .i64 (k : Int) ∧ R = riseB a b (l.drop k) ∧ Below Wa.heap.size Wa wr) (fun _ _ i _ => m - (intOf i).toNat)
  case atStart => exact ⟨0, _, _, by omega, rfl, by simp; rfl, rfl, HR.out, ⟨rfl, rfl, rfl, Nat.le_refl _, fun _ _ => rfl⟩⟩
  case round =>
    obtain ⟨k, a, b, hk, rfl, rfl, rfl, hr, hb⟩ := hrel
    by_cases hlt : k < m
    · obtain ⟨g, o, hAe, hc⟩ := HA.out (by omega)
      obtain ⟨q1, q2⟩ := hc k hlt
      rw [HD.out k a b hlt] at hr
      have HRk := Lib.hid hr
      obtain ⟨e, he⟩ : ∃ e, e = l.getD k (0, 0) := ⟨_, rfl⟩
      rw [← he] at q1 q2 HRk
      obtain ⟨ek, ep⟩ := e
      dsimp only at q1 q2 HRk
      have p1 := (hb.cell (p := ⟨g, o + k * 2, none⟩) (Wa.block_lt_of_cell? _ q1)).trans q1
      have p2 := (hb.cell (p := ⟨g, o + k * 2 + 1, none⟩) (Wa.block_lt_of_cell? _ q2)).trans q2
      have HBk := Lib.hid hb
      have hkb : k < 1000 := by omega
      subst hAe
      unfold uw at p1 p2
      clear hr hb hc q1 q2 he
      obtain h1 | h1 : ek < a ∨ a ≤ ek := by omega
      · rw [if_pos (Or.inl h1)] at HRk
        go_wp2
        go_ret
        exact ⟨by rw [HRk.out]; rfl, low_and HB0.out (low_and HBk.out (alloc_low _ _))⟩
      · obtain h2 | h2 : ek = a ∨ ek ≠ a := by omega
        · subst h2
          cases b with
          | false =>
            rw [if_pos (Or.inr ⟨rfl, rfl⟩)] at HRk
            go_wp2
            go_ret
            exact ⟨by rw [HRk.out]; rfl, low_and HB0.out (low_and HBk.out (alloc_low _ _))⟩
          | true =>
            rw [if_neg (by simp)] at HRk
            go_wp2
            exact ⟨⟨k + 1, ek, false, by omega, rfl, rfl, by go_num, HRk.out, low_and HBk.out (alloc_low _ _)⟩, by simp [intOf]; omega⟩
        · rw [if_neg (by omega)] at HRk
          have hne : (ek == a) = false := by simpa using h2
          go_wp2
          exact ⟨⟨k + 1, ek, false, by omega, rfl, rfl, by go_num, HRk.out, low_and HBk.out (alloc_low _ _)⟩, by simp [intOf]; omega⟩
    · obtain rfl : k = m := by omega
      rw [HE.out] at hr
      have HRk := Lib.hid hr
      have HBk := Lib.hid hb
      clear hr hb
      go_wp2
      go_ret
      exact ⟨by rw [HRk.out]; rfl, low_and HB0.out HBk.out⟩
/-- Are a First and the pointers of entries all unlike? -/
def unlB (f : Int) (l : List (Int × Int)) : Bool := decide (f :: l.map (·.2)).Nodup
theorem unl_no {f : Int} {l : List (Int × Int)} {k : Nat} (hk : k < l.length) (h : (l.getD k (0, 0)).2 ∈ f :: (l.take k).map (·.2)) : unlB f l = false := by
  unfold unlB
  rw [decide_eq_false_iff_not]
  intro hn
  have hs : l = l.take k ++ l.getD k (0, 0) :: l.drop (k + 1) := by
    rw [List.getD_eq_getElem?_getD, List.getElem?_eq_getElem hk]
    exact (List.take_append_drop k l).symm.trans (by rw [List.drop_eq_getElem_cons hk]; rfl)
  rw [hs, List.map_append, List.map_cons, ← List.cons_append, List.nodup_append] at hn
  exact hn.2.2 _ h _ (by simp) rfl
theorem unl_step {f : Int} {l : List (Int × Int)} {k : Nat} (hk : k < l.length) (h0 : (f :: (l.take k).map (·.2)).Nodup) (h : ¬ (l.getD k (0, 0)).2 ∈ f :: (l.take k).map (·.2)) : (f :: (l.take (k + 1)).map (·.2)).Nodup := by
  have : l.take (k + 1) = l.take k ++ [l.getD k (0, 0)] := by
    rw [List.take_succ_eq_append_getElem hk, List.getD_eq_getElem?_getD, List.getElem?_eq_getElem hk]
    rfl
  rw [this, List.map_append, ← List.cons_append, List.nodup_append]
  refine ⟨h0, by simp, fun a ha b hb e => ?_⟩
  simp at hb
  subst hb e
  exact h ha
end Go.Proofs.Yteojhhfcfdkmdaa
/- Invalid: the first place of an entry that is not valid; of any node; without conditions. -/
namespace Go.Proofs.Yteojhhfcfdkmdaa
open Go.RowKit Go.Shelf
set_option linter.unusedVariables false
attribute [local go_sem] Oper.semAt_some

/-- The first place of an entry that is not valid. -/
def Nd.inv (n : Nd) : Int := match (List.range n.len).find? (fun i => !n.ok i) with | some i => (i : Int) | none => -1
theorem Nd.inv_at (n : Nd) {m : Nat} (hm : m < n.len) (hno : n.ok m = false) (hall : ∀ i, i < m → n.ok i = true) : n.inv = (m : Int) := by
  have : (List.range n.len).find? (fun i => !n.ok i) = some m := by
    rw [List.find?_range_eq_some]
    exact ⟨by simp [hno], by simpa using hm, fun j hj => by simp [hall j hj]⟩
  unfold Nd.inv
  rw [this]
theorem Nd.inv_none (n : Nd) (hall : ∀ i, i < n.len → n.ok i = true) : n.inv = -1 := by
  have : (List.range n.len).find? (fun i => !n.ok i) = none := by
    rw [List.find?_range_eq_none]
    exact fun j hj => by simp [hall j hj]
  unfold Nd.inv
  rw [this]
theorem Nd.vp_sorted (n : Nd) : n.vp.Pairwise (· < ·) := List.pairwise_lt_range.filter _
theorem Nd.mem_vp (n : Nd) {p : Nat} : p ∈ n.vp ↔ p < n.len ∧ n.ok p = true := by simp [Nd.vp, Nd.vpTo]
theorem inv_stop {n : Nd} {m p : Nat} (h : List.range m ++ [p] <+: n.vp) (hp : p ≠ m) : n.inv = (m : Int) := by
  obtain ⟨r, hr⟩ := h
  have hs := n.vp_sorted
  rw [← hr, List.append_assoc, List.pairwise_append] at hs
  obtain ⟨_, hs2, hs3⟩ := hs
  have hpv := (n.mem_vp (p := p)).1 (by rw [← hr]; simp)
  have hall : ∀ i, i < m → n.ok i = true := fun i hi => ((n.mem_vp (p := i)).1 (by rw [← hr]; simp [hi])).2
  have hpm : m < p := by
    by_cases e : p < m
    · exact absurd (hs3 p (by simpa using e) p (by simp)) (by omega)
    · omega
  refine n.inv_at (by omega) ?_ hall
  by_cases e : n.ok m = true
  · have hm : m ∈ n.vp := n.mem_vp.2 ⟨by omega, e⟩
    rw [← hr, List.append_assoc, List.mem_append] at hm
    rcases hm with hm | hm
    · simp at hm
    · rcases List.mem_cons.1 hm with hm | hm
      · omega
      · have := (List.pairwise_cons.1 hs2).1 m hm
        omega
  · simpa using e
theorem inv_done {n : Nd} {m : Nat} (h : n.vp = List.range m) : (m < n.len → n.inv = (m : Int)) ∧ (n.len ≤ m → n.inv = -1) := by
  have hm : ∀ i, i < m ↔ (i < n.len ∧ n.ok i = true) := fun i => by rw [← n.mem_vp, h]; simp
  constructor
  · intro hl
    refine n.inv_at hl ?_ fun i hi => ((hm i).1 hi).2
    by_cases e : n.ok m = true
    · exact absurd ((hm m).2 ⟨hl, e⟩) (by omega)
    · simpa using e
  · intro hl
    exact n.inv_none fun i hi => ((hm i).1 (by omega)).2
set_option maxRecDepth 100000 in
set_option maxHeartbeats 4000000 in
theorem nInv_any (n : Nd) (w : World) : Calls Try.prog 78 #[n.V] w fun e W' => e = .returned (.int .i64 n.inv) ∧ Below w.heap.size w W' := by
  obtain ⟨Wx, hWx⟩ : ∃ Wx, Wx = ((w.alloc (.cells n.cl.toArray 27)).alloc (.cells #[.int .i64 0] 3)).alloc (.cells #[.int .i64 0] 3) := ⟨_, rfl⟩
  have hsx : Wx.heap.size = w.heap.size + 3 := by rw [hWx]; simp
  have hbx : Below w.heap.size w Wx := by rw [hWx]; exact low_and (low_and (alloc_low _ _) (alloc_low _ _)) (alloc_low _ _)
  have r0 : NdAt Wx w.heap.size n := by rw [hWx]; exact ((Row.new _ _ _).alloc _).alloc _
  have r1 : Row Wx (w.heap.size + 1) 3 #[.int .i64 0] := by
    rw [hWx]
    have := Row.new (w.alloc (.cells n.cl.toArray 27)) 3 #[.int .i64 0]
    simp only [World.size_alloc] at this
    exact this.alloc _
  have r2 : Row Wx (w.heap.size + 1 + 1) 3 #[.int .i64 0] := by
    rw [hWx]
    have := Row.new ((w.alloc (.cells n.cl.toArray 27)).alloc (.cells #[.int .i64 0] 3)) 3 #[.int .i64 0]
    simpa only [World.size_alloc] using this
  have HWx := Lib.hid hWx
  have HR0 := Lib.hid r0
  clear hWx
  refine (callsIn_wide (n := 6)).1 ?_
  refine callsIn_of_wp_marks Try.func78 rfl trivial ?_ rfl
  simp only [Try.ntmps78, List.size_toArray, List.length_cons, List.length_nil, Nat.reduceAdd, Nat.reduceSub, Array.replicate_succ, Array.replicate_zero, List.push_toArray, List.append_toArray, List.nil_append, List.cons_append]
  gi_wp2_with (first | (rw [← HWx.out]; refine wpListIn_load_mid (fun _ => trivial) rfl _ _ rfl w.heap.size 0 rfl n.cl _ (ndR HR0.out) Try.underlying27 rfl ndI ?_) | (refine ⟨trivial, ?_⟩; gi_at_call 83; refine (callsIn_wide.2 (valid_any n _)).mono ?_; rintro e w' ⟨rfl, rfl⟩))
  obtain ⟨W0, hW0⟩ : ∃ W0, W0 = Wx.alloc (.cells n.cl.toArray 27) := ⟨_, rfl⟩
  have h4 : NdAt W0 (w.heap.size + 3) n := by
    rw [hW0]
    have := Row.new Wx 27 n.cl.toArray
    rwa [hsx] at this
  have hb0 : Below Wx.heap.size Wx W0 := by rw [hW0]; exact alloc_low _ _
  have hs0 : W0.heap.size = w.heap.size + 4 := by rw [hW0]; simp [hsx]
  have f0 := Row.below r0 hb0 r0.lt
  have f1 := Row.below r1 hb0 r1.lt
  have f2 := Row.below r2 hb0 r2.lt
  have hbW : Below w.heap.size w W0 := low_and hbx hb0
  rw [← hW0]
  have FB := Lib.hid hbW
  clear hW0 r1 r2 hb0 hbx HWx HR0 hbW hsx r0
  refine range_Q rfl (by omega) (gf := 87) (lb := #[.pointer (some ⟨w.heap.size + 3, 0, none⟩)]) rfl trivial (enters_of Try.func87 (by kernel_rfl) rfl) (bx := w.heap.size + 3) (by omega) (valid1_seq h4) (fun _ => rfl)
    (fun q pre W => w.heap.size + 4 ≤ q ∧ w.heap.size + 4 ≤ W.heap.size ∧ NdAt W w.heap.size n ∧ Row W (w.heap.size + 1) 3 #[.int .i64 0] ∧ Row W (w.heap.size + 1 + 1) 3 #[.int .i64 (pre.length : Int)] ∧ pre = List.range pre.length ∧ Below w.heap.size w W)
    (fun pre W => ∃ (m p : Nat), pre = List.range m ++ [p] ∧ p ≠ m ∧ W.cell? ⟨w.heap.size + 1, 0, none⟩ = some (.int .i64 (m : Int)) ∧ Below w.heap.size w W)
    (fun q s A B row hs hg hr => ⟨hs.1, Nat.le_trans hs.2.1 hg.size, hs.2.2.1.grown hg (fun e => by have := (hr _ e.symm).1; omega), hs.2.2.2.1.grown hg (fun e => by have := (hr _ e.symm).1; omega), hs.2.2.2.2.1.grown hg (fun e => by have := (hr _ e.symm).1; omega), hs.2.2.2.2.2.1, hs.2.2.2.2.2.2.grown hg hs.2.2.2.2.2.2.size (fun k e => by have := (hr k e).1; omega)⟩)
    (fun s A B row hs hg hr => by
      obtain ⟨m, p, a1, a2, a3, a4⟩ := hs
      exact ⟨m, p, a1, a2, cell_kept a3 hg (fun r e => (hr r e).2), a4.grown hg a4.size (fun k e => by have := (hr k e).1; omega)⟩)
    ⟨by omega, by omega, f0, f1, f2, rfl, FB.out⟩
    (fun x V => { tmps := #[n.V, .pointer (some ⟨w.heap.size, 0, none⟩), .pointer (some ⟨w.heap.size + 1, 0, none⟩), .pointer (some ⟨w.heap.size + 1 + 1, 0, none⟩), .int .i64 (x : Int), .agg n.cl.toArray, .func (.func 87) #[] #[.pointer (some ⟨w.heap.size + 3, 0, none⟩)], .int .i64 (x : Int), .agg #[.int .u64 (n.key x), .int .u64 (n.ptr x)], undef, undef, undef, undef, undef, undef, undef, undef, undef, undef, undef], defers := [] })
    (fun x V => V) (fun x V => Below.refl _ _) ?assign ?body ?done ?stop
  case assign =>
    intro l x W K hK
    dsimp only [enc8N]
    gi_wp2
    exact hK
  case body =>
    rintro l q r pre x V W hx8 ⟨hq4, hWs, g0, g1, g2, hpre, hB⟩ hqr hrV hsz hcells hlen
    obtain ⟨m, hm⟩ : ∃ m, m = pre.length := ⟨_, rfl⟩
    rw [← hm] at g2 hpre hlen
    have c1 := g1.cell 0
    have c2 := g2.cell 0
    have z1 := g1.free 0
    have z2 := g2.free 0
    simp only [List.getElem?_toArray, List.getElem?_cons_zero] at c1 c2
    have G0 := Lib.hid g0
    have G1 := Lib.hid g1
    have G2 := Lib.hid g2
    have HB := Lib.hid hB
    have HP := Lib.hid hpre
    have HM := Lib.hid hm
    clear g0 g1 g2 hB hpre hm hcells h4 f0 f1 f2
    obtain rfl | hne : x = m ∨ x ≠ m := by omega
    · gi_wp2
      refine ⟨KeepsOthers.setCell _ _ _, heap_setCell_other _ _ _ _ (by dsimp only; omega), fun o _ ho => (heap_setCell_other _ _ _ _ (by dsimp only; omega)).trans ho, W.heap.size, by simp, by omega, by simpa using hWs, G0.out.other (by dsimp only; omega) _, G1.out.other (by dsimp only; omega) _, ?_, ?_, HB.out.setCell (p := ⟨w.heap.size + 1 + 1, 0, none⟩) (by simp; omega) _⟩
      · have := G2.out.set 0 (.int .i64 ((x : Int) + 1))
        rw [List.length_append, List.length_singleton, ← HM.out]
        simpa using this
      · rw [List.length_append, List.length_singleton, ← HM.out, List.range_succ, ← HP.out]
    · have hne' : ((x : Int) != (m : Int)) = true := by simp; omega
      gi_wp2
      refine ⟨KeepsOthers.setCell _ _ _, m, x, by rw [HP.out], hne, ?_, HB.out.setCell (p := ⟨w.heap.size + 1, 0, none⟩) (by simp) _⟩
      exact (G1.out.set 0 (.int .i64 (m : Int))).cell 0
  case done =>
    rintro D q xs W hD hxs ⟨hq4, hWs, g0, g1, g2, hpre, hB⟩ hK
    obtain ⟨m, hm⟩ : ∃ m, m = xs.length := ⟨_, rfl⟩
    rw [← hm] at g2 hpre
    have HI := Lib.hid (inv_done (n := n) (m := m) (by rw [← hxs]; exact hpre))
    have HLn := Lib.hid (nlen_any n W)
    have c1 := g1.cell 0
    have c2 := g2.cell 0
    have z1 := g1.free 0
    have z2 := g2.free 0
    simp only [List.getElem?_toArray, List.getElem?_cons_zero] at c1 c2
    have G0 := Lib.hid g0
    have G1 := Lib.hid g1
    have HB := Lib.hid hB
    have hm8 : m ≤ 8 := by have := n.vp_length; rw [hm, hxs]; exact this
    have hl8 := n.len_le
    have z2' : ∀ p : LowBy W, p.W.cell? ⟨w.heap.size + 1 + 1, 0, none⟩ = some (.int .i64 (m : Int)) := fun p => p.cell c2
    have hR := Lib.hid (fun (w' : World) (h : ∃ p : LowBy W, w' = p.W) => (show w'.rangeAt w.heap.size 0 n.cl by obtain ⟨p, rfl⟩ := h; exact ndR (G0.out.below p.low G0.out.lt)))
    have hC := Lib.hid (fun (p : LowBy W) => Calls.low_of (nlen_any n p.W))
    clear g0 g1 g2 hB hpre hm hxs h4 f0 f1 f2
    gi_wp2
    refine wpIn_wide.2 ?_
    refine wp_region_quiet_low (by kernel_rfl) (by kernel_rfl) ?_
    repeat (first | go_big_quiet_skip | (go_big_quiet_want; first | (refine quiet_load_mid 27 _ rfl w.heap.size 0 rfl n.cl _ hR.out Try.underlying27 rfl ndI ?_; simp only [Act.put, List.setIfInBounds_toArray, List.set_cons_succ, List.set_cons_zero]; go_big_quiet_on) | (go_big_quiet_op; first | go_big_quiet_on | go_big_quiet_call ((go_at_call 60; with_reducible exact hC.out _)))))
    refine wpQuiet_nil ?_
    intro _ hw'
    obtain ⟨p, hw''⟩ := hw'
    subst hw''
    have r1 := G1.out.below p.low G1.out.lt
    have c2 := p.cell c2
    have c1 := r1.cell 0
    have z1 := r1.free 0
    have hKp : p.W.heap[D]? = some (.deferred (some [])) := (p.low.block _ (Array.getElem?_eq_some_iff.1 hK).1).trans hK
    have HBp := Lib.hid (HB.out.trans (p.low.mono (show w.heap.size ≤ W.heap.size by omega)))
    have R1 := Lib.hid r1
    simp only [List.getElem?_toArray, List.getElem?_cons_zero] at c1
    clear r1 hK z2' hR hC HLn z2
    generalize p.W = Wp at *
    obtain hlt | hge : (m : Int) < (n.len : Int) ∨ ¬ (m : Int) < (n.len : Int) := by omega
    · have HE := Lib.hid (HI.out.1 (by omega))
      gi_wp2
      have hK' := (KeepsOthers.setCell Wp ⟨w.heap.size + 1, 0, none⟩ (.int .i64 (m : Int))).same D _ hKp rfl
      refine ⟨by simp, .inl ⟨_, _, rfl, run_takeDeferred hK', ?_⟩⟩
      have h0 := cell_kept ((R1.out.set 0 (.int .i64 (m : Int))).cell 0) (grownBy_putObj' _ D (.deferred none)) (fun r e => by cases e; exact ⟨_, hK', rfl⟩)
      refine ⟨.int .i64 (m : Int), ?_, by rw [HE.out], (HBp.out.setCell (p := ⟨w.heap.size + 1, 0, none⟩) (by dsimp only; omega) _).trans (belowK_b (w := w) (Nat.le_refl _) _ D _ _ (by omega) hK' rfl rfl)⟩
      simp [results, Try.f78, go_sem, h0]
    · have HE := Lib.hid (HI.out.2 (by omega))
      gi_wp2
      have hK' := (KeepsOthers.setCell Wp ⟨w.heap.size + 1, 0, none⟩ (.int .i64 (-1))).same D _ hKp rfl
      refine ⟨by simp, .inl ⟨_, _, rfl, run_takeDeferred hK', ?_⟩⟩
      have h0 := cell_kept ((R1.out.set 0 (.int .i64 (-1))).cell 0) (grownBy_putObj' _ D (.deferred none)) (fun r e => by cases e; exact ⟨_, hK', rfl⟩)
      refine ⟨.int .i64 (-1), ?_, by rw [HE.out], (HBp.out.setCell (p := ⟨w.heap.size + 1, 0, none⟩) (by dsimp only; omega) _).trans (belowK_b (w := w) (Nat.le_refl _) _ D _ _ (by omega) hK' rfl rfl)⟩
      simp [results, Try.f78, go_sem, h0]
  case stop =>
    rintro D pre W hD hpre ⟨m, p, rfl, hne, hc, hB⟩ hK
    have HE := Lib.hid (inv_stop hpre hne)
    clear h4 f0 f1 f2
    gi_wp2
    refine ⟨by simp, .inl ⟨_, _, rfl, run_takeDeferred hK, ?_⟩⟩
    have hk0 := cell_kept hc (grownBy_putObj' _ D (.deferred none)) (fun r e => by cases e; exact ⟨_, hK, rfl⟩)
    refine ⟨.int .i64 (m : Int), ?_, by rw [HE.out], hB.trans (belowK_b (w := w) (Nat.le_refl _) W D _ _ (by omega) hK rfl rfl)⟩
    simp [results, Try.f78, go_sem, hk0]
end Go.Proofs.Yteojhhfcfdkmdaa
/- The document's Invalid: of any node; without conditions. -/
namespace Go.Proofs.Yteojhhfcfdkmdaa
open Go.RowKit
set_option linter.unusedVariables false
set_option maxRecDepth 100000 in
set_option maxHeartbeats 4000000 in
theorem r8Inv_any (n : Nd) (w : World) : Calls Try.prog 15 #[n.V] w fun e w' => e = .returned (.int .i64 n.inv) ∧ Below w.heap.size w w' := by
  have r0 := Row.new w 27 n.cl.toArray
  obtain ⟨Wa, hWa⟩ : ∃ Wa, Wa = w.alloc (.cells n.cl.toArray 27) := ⟨_, rfl⟩
  rw [← hWa] at r0
  have HB0 := Lib.hid (show Below w.heap.size w Wa by rw [hWa]; exact alloc_low _ _)
  have HRR := Lib.hid (fun W' (hb : Below Wa.heap.size Wa W') => (show NdAt W' w.heap.size n from r0.below hb r0.lt))
  have HWa := Lib.hid hWa
  have HL := Lib.hid (fun W' => r8Len_any n W')
  have hln := n.len_le
  have HIA := Lib.hid (fun m (hm : m < n.len) ho ha => n.inv_at (m := m) hm ho ha)
  have HIN := Lib.hid n.inv_none
  obtain ⟨F, hF⟩ : ∃ F, F = n.inv := ⟨_, rfl⟩
  rw [← hF] at HIA HIN
  rw [← hF]
  clear r0 hWa hF
  go_enter Try.func15, Try.ntmps15
  go_wp2_with fail
  rw [← HWa.out]
  go_loopw [3] (fun i wr => ∃ k : Nat, k ≤ n.len ∧ i = .int .i64 (k : Int) ∧ (∀ p, p < k → n.ok p = true) ∧ Below Wa.heap.size Wa wr) (fun i _ => n.len - (intOf i).toNat)
  case atStart => exact ⟨0, by omega, rfl, fun p hp => by omega, Below.refl _ _⟩
  case round =>
    rename World => wr
    obtain ⟨k, hk, rfl, hne, hb⟩ := hrel
    have HNE := Lib.hid hne
    clear hne
    by_cases hlt : k < n.len
    · have hk8 : (k : Int) < 8 := by omega
      have HI := Lib.hid (fun W' => r8Is_any n W' (i := k) (by omega))
      obtain ⟨ob, hob⟩ : ∃ ob, ob = n.ok k := ⟨_, rfl⟩
      rw [← hob] at HI
      have HOb := Lib.hid hob
      clear hob
      cases ob with
      | false =>
        have HFk := Lib.hid (HIA.out k hlt HOb.out.symm HNE.out)
        go_wp2_with (first
          | (refine wpList_load_mid rfl _ _ rfl w.heap.size 0 rfl n.cl _ (ndR (HRR.out _ (by assumption))) Try.underlying27 rfl ndI ?_)
          | (go_at_call 16; refine (HL.out _).mono ?_; rintro e w2 ⟨rfl, hb2⟩; have hb2 := low_and hb hb2)
          | (go_at_call 34; refine (HI.out _).mono ?_; rintro e w3 ⟨rfl, hb3⟩; have hb3 := low_and hb2 hb3))
        go_ret
        exact ⟨by rw [HFk.out]; rfl, low_and HB0.out hb3⟩
      | true =>
        go_wp2_with (first
          | (refine wpList_load_mid rfl _ _ rfl w.heap.size 0 rfl n.cl _ (ndR (HRR.out _ (by assumption))) Try.underlying27 rfl ndI ?_)
          | (go_at_call 16; refine (HL.out _).mono ?_; rintro e w2 ⟨rfl, hb2⟩; have hb2 := low_and hb hb2)
          | (go_at_call 34; refine (HI.out _).mono ?_; rintro e w3 ⟨rfl, hb3⟩; have hb3 := low_and hb2 hb3))
        refine ⟨⟨k + 1, by omega, by go_num, fun p hp => ?_, hb3⟩, by simp [intOf]; omega⟩
        rcases Nat.lt_or_eq_of_le (Nat.le_of_lt_succ hp) with h | rfl
        · exact HNE.out p h
        · exact HOb.out.symm
    · obtain rfl : k = n.len := by omega
      have HFk := Lib.hid (HIN.out HNE.out)
      go_wp2_with (first
        | (refine wpList_load_mid rfl _ _ rfl w.heap.size 0 rfl n.cl _ (ndR (HRR.out _ (by assumption))) Try.underlying27 rfl ndI ?_)
        | (go_at_call 16; refine (HL.out _).mono ?_; rintro e w2 ⟨rfl, hb2⟩; have hb2 := low_and hb hb2))
      go_ret
      exact ⟨by rw [HFk.out]; rfl, low_and HB0.out hb2⟩
end Go.Proofs.Yteojhhfcfdkmdaa
/- The document's Last: of any node, any key; without conditions. -/
namespace Go.Proofs.Yteojhhfcfdkmdaa
open Go.RowKit
set_option linter.unusedVariables false
end Go.Proofs.Yteojhhfcfdkmdaa
