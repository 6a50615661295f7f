/- Texts of this claim, packed: N8Act, N8Same, N8Eq, SnTr, N8RefF, N8May, N8Rise, N8Unl, N8MayN, N8Inv, N9P, N8RefI. -/
import Derived.Test.YtiefgmibgdidpaaGreatDoorPh26
import Derived.Test.YtiefgmibgdidpaaGreatDoorPh24
import Derived.Test.YtiefgmibgdidpaaGreatDoorPh23
import Derived.Test.YtiefgmibgdidpaaGreatDoorPh06
import Derived.Test.YtiefgmibgdidpaaGreatDoorPh21
import Derived.Laws.StructEq
import Derived.Laws.Rows
/- Active, Valid: a node's valid entries below a bound, in new memory; of any node, any bound; without conditions. -/
namespace Go.Proofs.YtiefgmibgdidpaaGreatDoor
open Go.RowKit Go.Shelf
set_option linter.unusedVariables false
attribute [local go_sem] Oper.semAt_some

theorem ownS_cells {w : World} {B s n g : Nat} {e : TypeId} {v : Value} {xs : List Value} (h : w.ownsRow B e s v n xs) (hg : v.ownBlock = some g) : ∃ cs t, w.heap[g]? = some (.cells cs t (0, 0)) := by
  rcases h.2 with ⟨rfl, _⟩ | ⟨g', cap, cur, rfl, _, hh, _⟩
  · cases hg
  · have : g' = g := by injection hg
    subst this
    exact ⟨_, _, hh⟩
theorem ownS_grown {w w' : World} {B s n : Nat} {e : TypeId} {v : Value} {xs : List Value} {row : Option Nat} (h : w.ownsRow B e s v n xs) (hg : w.grownBy w' row) (hr : ∀ q, row = some q → ∃ o : Obj, w.heap[q]? = some o ∧ o.isCells = false) : w'.ownsRow B e s v n xs := by
  refine ⟨h.1, ?_⟩
  rcases h.2 with h0 | ⟨g, cap, cur, rfl, hb, hh, hrest⟩
  · exact .inl h0
  · refine .inr ⟨g, cap, cur, rfl, hb, (hg.block g (Array.getElem?_eq_some_iff.1 hh).1 ?_).trans hh, hrest⟩
    intro e
    obtain ⟨o, ho, hc⟩ := hr g e.symm
    rw [hh] at ho
    cases ho
    cases hc
theorem ownS_from {w : World} {B s n : Nat} {e : TypeId} {v : Value} {xs : List Value} (h : w.ownsRow B e s v n xs) : ∀ k, v.ownBlock = some k → B ≤ k ∧ k < w.heap.size := by
  intro k hk
  rcases h.2 with ⟨rfl, _⟩ | ⟨g', cap, cur, rfl, hb, hh, _⟩
  · cases hk
  · have : g' = k := by injection hk
    subst this
    exact ⟨hb, (Array.getElem?_eq_some_iff.1 hh).1⟩
theorem ownS_set {w : World} {B s n : Nat} {e : TypeId} {v : Value} {xs : List Value} (h : w.ownsRow B e s v n xs) {p : Addr} (hne : ∀ g, v.ownBlock = some g → g ≠ p.block) (u : Value) : (w.setCell p u).ownsRow B e s v n xs := by
  refine ⟨h.1, ?_⟩
  rcases h.2 with h0 | ⟨g, cap, cur, rfl, hg, hh, hr⟩
  · exact .inl h0
  · exact .inr ⟨g, cap, cur, rfl, hg, (heap_setCell_other w p g u (hne g rfl)).trans hh, hr⟩
theorem ownS_mono {w : World} {B B' s n : Nat} {e : TypeId} {v : Value} {xs : List Value} (h : w.ownsRow B e s v n xs) (hb : B' ≤ B) : w.ownsRow B' e s v n xs := by
  refine ⟨h.1, ?_⟩
  rcases h.2 with h0 | ⟨g, cap, cur, rfl, hg, hr⟩
  · exact .inl h0
  · exact .inr ⟨g, cap, cur, rfl, Nat.le_trans hb hg, hr⟩
/-- Entries, as they lie. -/
def flatE (l : List (Int × Int)) : List Value := l.flatMap fun e => [uw e.1, uw e.2]
theorem flatE_snoc (l : List (Int × Int)) (e : Int × Int) : flatE (l ++ [e]) = flatE l ++ [uw e.1, uw e.2] := by simp [flatE]
theorem flatE_at : ∀ (l : List (Int × Int)) (i : Nat) (e : Int × Int), l[i]? = some e → (flatE l)[i * 2]? = some (uw e.1) ∧ (flatE l)[i * 2 + 1]? = some (uw e.2)
  | [], i, e, h => by simp at h
  | a :: t, 0, e, h => by
    simp only [List.getElem?_cons_zero, Option.some.injEq] at h
    subst h
    exact ⟨rfl, rfl⟩
  | a :: t, i + 1, e, h => by
    simp only [List.getElem?_cons_succ] at h
    have := flatE_at t i e h
    rw [show (i + 1) * 2 = i * 2 + 2 by omega]
    exact this
/-- The valid entries below a bound. -/
def Nd.ent (n : Nd) (p : Nat) : Int × Int := (n.key p, n.ptr p)
def Nd.inB (n : Nd) (high : Int) (has : Bool) (p : Nat) : Bool := !has || decide (n.key p < high)
def actL (n : Nd) (high : Int) (has : Bool) (l : List Nat) : List (Int × Int) := (l.filter (n.inB high has)).map n.ent
theorem actL_yes {n : Nd} {high : Int} {has : Bool} {l : List Nat} {x : Nat} (h : n.inB high has x = true) : actL n high has (l ++ [x]) = actL n high has l ++ [n.ent x] := by simp [actL, h]
theorem actL_no {n : Nd} {high : Int} {has : Bool} {l : List Nat} {x : Nat} (h : n.inB high has x = false) : actL n high has (l ++ [x]) = actL n high has l := by simp [actL, h]
theorem actL_len (n : Nd) (high : Int) (has : Bool) (l : List Nat) : (actL n high has l).length ≤ l.length := by
  unfold actL
  rw [List.length_map]
  exact List.length_filter_le _ _
def Nd.act (n : Nd) (high : Int) (has : Bool) : List (Int × Int) := actL n high has n.vp
/-- All valid entries. -/
def Nd.es (n : Nd) : List (Int × Int) := n.vp.map n.ent
def ActI (w : World) (n : Nd) (high : Int) (has : Bool) (q : Nat) (pre : List Nat) (W : World) : Prop :=
  w.heap.size + 5 ≤ q ∧ w.heap.size + 5 ≤ W.heap.size ∧ Row W (w.heap.size + 1) 27 #[.int .u64 high] ∧ Row W (w.heap.size + 1 + 1) 4 #[.bool has] ∧ Below w.heap.size w W ∧
  ∃ v, Row W (w.heap.size + 1 + 1 + 1) 85 #[v] ∧ W.ownsRow (w.heap.size + 5) 88 2 v (actL n high has pre).length (flatE (actL n high has pre)) ∧ ∀ g, v.ownBlock = some g → g < q
theorem infoEntry : (Tryz.prog.info? 88).map (fun i => (i.zero, i.size, i.bytes)) = some (some (.agg #[.int .u64 0, .int .u64 0]), 2, 16) := by kernel_rfl
set_option maxRecDepth 100000 in
set_option maxHeartbeats 4000000 in
theorem nActive_any (n : Nd) (high : Int) (has : Bool) (w : World) : Calls Tryz.prog 114 #[n.V, .int .u64 high, .bool has] w fun e W' =>
    (∃ v, e = .returned v ∧ W'.ownsRow w.heap.size 88 2 v (n.act high has).length (flatE (n.act high has))) ∧ Below w.heap.size w W' := by
  obtain ⟨i0, hi, hz0, hz1, hz2⟩ := info_parts infoEntry
  obtain ⟨Wx, hWx⟩ : ∃ Wx, Wx = (((w.alloc (.cells n.cl.toArray 35)).alloc (.cells #[.int .u64 high] 27)).alloc (.cells #[.bool has] 4)).alloc (.cells #[.slice none 0 0] 85) := ⟨_, rfl⟩
  have hsx : Wx.heap.size = w.heap.size + 4 := by rw [hWx]; simp
  have hbx : Below w.heap.size w Wx := by rw [hWx]; exact low_and (low_and (low_and (alloc_low _ _) (alloc_low _ _)) (alloc_low _ _)) (alloc_low _ _)
  have r0 : NdAt Wx w.heap.size n := by rw [hWx]; exact (((Row.new _ _ _).alloc _).alloc _).alloc _
  have r1 : Row Wx (w.heap.size + 1) 27 #[.int .u64 high] := by
    rw [hWx]
    have := Row.new (w.alloc (.cells n.cl.toArray 35)) 27 #[.int .u64 high]
    simp only [World.size_alloc] at this
    exact (this.alloc _).alloc _
  have r2 : Row Wx (w.heap.size + 1 + 1) 4 #[.bool has] := by
    rw [hWx]
    have := Row.new ((w.alloc (.cells n.cl.toArray 35)).alloc (.cells #[.int .u64 high] 27)) 4 #[.bool has]
    simp only [World.size_alloc] at this
    exact this.alloc _
  have r3 : Row Wx (w.heap.size + 1 + 1 + 1) 85 #[.slice none 0 0] := by
    rw [hWx]
    have := Row.new (((w.alloc (.cells n.cl.toArray 35)).alloc (.cells #[.int .u64 high] 27)).alloc (.cells #[.bool has] 4)) 85 #[.slice none 0 0]
    simpa only [World.size_alloc] using this
  have HWx := Lib.hid hWx
  have HR0 := Lib.hid r0
  clear hWx r0
  refine (callsIn_wide (n := 6)).1 ?_
  refine callsIn_of_wp_marks Tryz.func114 rfl trivial ?_ rfl
  simp only [Tryz.ntmps114, List.size_toArray, List.length_cons, List.length_nil, Nat.reduceAdd, Nat.reduceSub, Array.replicate_succ, Array.replicate_zero, List.push_toArray, List.append_toArray, List.nil_append, List.cons_append]
  gi_wp2_with (first | (rw [← HWx.out]; refine wpListIn_load_mid (fun _ => trivial) rfl _ _ rfl w.heap.size 0 rfl n.cl _ (ndR HR0.out) Tryz.underlying35 rfl ndI ?_) | (refine ⟨trivial, ?_⟩; gi_at_call 131; refine (callsIn_wide.2 (valid_any n _)).mono ?_; rintro e w' ⟨rfl, rfl⟩))
  obtain ⟨W0, hW0⟩ : ∃ W0, W0 = Wx.alloc (.cells n.cl.toArray 35) := ⟨_, rfl⟩
  have h4 : NdAt W0 (w.heap.size + 4) n := by
    rw [hW0]
    have := Row.new Wx 35 n.cl.toArray
    rwa [hsx] at this
  have hb0 : Below Wx.heap.size Wx W0 := by rw [hW0]; exact alloc_low _ _
  have hs0 : W0.heap.size = w.heap.size + 5 := by rw [hW0]; simp [hsx]
  have f1 := Row.below r1 hb0 r1.lt
  have f2 := Row.below r2 hb0 r2.lt
  have f3 := Row.below r3 hb0 r3.lt
  have hbW : Below w.heap.size w W0 := low_and hbx hb0
  rw [← hW0]
  have hI0 : ActI w n high has W0.heap.size [] W0 := ⟨by omega, by omega, f1, f2, hbW, _, f3, World.ownsRow_nil _ _ _ _, fun g hg => by cases hg⟩
  clear hW0 r1 r2 r3 hb0 hbx HWx HR0 hbW hsx f1 f2 f3
  refine range_Q rfl (by omega) (gf := 145) (lb := #[.pointer (some ⟨w.heap.size + 4, 0, none⟩)]) rfl trivial (enters_of Tryz.func145 (by kernel_rfl) rfl) (bx := w.heap.size + 4) (by omega) (valid1_seq h4) (fun _ => rfl)
    (ActI w n high has) (fun pre W => False)
    (fun q s A B row hs hg hr => by
      obtain ⟨h1, h2, h3, h4, h5, v, h6, h7, h8⟩ := hs
      exact ⟨h1, Nat.le_trans h2 hg.size, h3.grown hg (fun e => by have := (hr _ e.symm).1; omega), h4.grown hg (fun e => by have := (hr _ e.symm).1; omega), h5.grown hg h5.size (fun k e => by have := (hr k e).1; omega), v, h6.grown hg (fun e => by have := (hr _ e.symm).1; omega), ownS_grown h7 hg (fun k e => (hr k e).2), h8⟩)
    (fun s A B row hs hg hr => hs)
    hI0
    (fun x V => { tmps := #[n.V, .int .u64 high, .bool has, .pointer (some ⟨w.heap.size, 0, none⟩), .pointer (some ⟨w.heap.size + 1, 0, none⟩), .pointer (some ⟨w.heap.size + 1 + 1, 0, none⟩), .slice none 0 0, .pointer (some ⟨w.heap.size + 1 + 1 + 1, 0, none⟩), undef, .pointer (some ⟨V.heap.size, 0, none⟩), .agg n.cl.toArray, .func (.func 145) #[] #[.pointer (some ⟨w.heap.size + 4, 0, none⟩)], .int .i64 (x : Int), .agg #[.int .u64 (n.key x), .int .u64 (n.ptr x)], undef, undef, undef, undef, undef, undef, undef, undef, undef, undef, undef, undef, undef], defers := [] })
    (fun x V => V.alloc (.cells #[.int .u64 (n.key x), .int .u64 (n.ptr x)] 88)) (fun x V => alloc_low _ _) ?assign ?body ?done ?stop
  case assign =>
    intro l x W K hK
    dsimp only [enc8N]
    gi_wp2
    exact hK
  case body =>
    rintro l q r pre x V W hx8 ⟨hq4, hWs, g1, g2, hB, v, g3, hown, hob⟩ hqr hrV hsz hcells hlen
    have hE : Row W V.heap.size 88 #[.int .u64 (n.key x), .int .u64 (n.ptr x)] := hcells _ _ rfl (Row.new V 88 _)
    obtain ⟨vs, hvs⟩ : ∃ vs, vs = V.heap.size := ⟨_, rfl⟩
    rw [← hvs] at hE hrV
    simp only [World.size_alloc] at hsz
    rw [← hvs] at hsz
    rw [← hvs]
    have e0 := hE.cell 0
    have e1 := hE.cell 1
    simp only [List.getElem?_toArray, List.getElem?_cons_succ, List.getElem?_cons_zero] at e0 e1
    have c1 := g1.cell 0
    have c2 := g2.cell 0
    have c3 := g3.cell 0
    simp only [List.getElem?_toArray, List.getElem?_cons_zero] at c1 c2 c3
    have hyes := actL_yes (n := n) (high := high) (has := has) (l := pre) (x := x)
    have hno := actL_no (n := n) (high := high) (has := has) (l := pre) (x := x)
    have hin : n.inB high has x = (!has || decide (n.key x < high)) := rfl
    have hent : n.ent x = (n.key x, n.ptr x) := rfl
    obtain ⟨k, hk⟩ : ∃ k, k = n.key x := ⟨_, rfl⟩
    obtain ⟨y, hy⟩ : ∃ y, y = n.ptr x := ⟨_, rfl⟩
    rw [← hk, ← hy] at hE hent
    rw [← hk] at e0 hin
    rw [← hy] at e1
    rw [← hk, ← hy]
    obtain ⟨L, hL⟩ : ∃ L, L = actL n high has pre := ⟨_, rfl⟩
    rw [← hL] at hyes hno hown
    have hLl : L.length < 8 := by rw [hL]; exact Nat.lt_of_le_of_lt (actL_len _ _ _ _) hlen
    obtain ⟨m, hm⟩ : ∃ m, m = L.length := ⟨_, rfl⟩
    rw [← hm] at hown hLl
    have HY := Lib.hid hyes
    have HNo := Lib.hid hno
    have HIn := Lib.hid hin
    have HEnt := Lib.hid hent
    have HLd := Lib.hid hL
    have HMd := Lib.hid hm
    have G1 := Lib.hid g1
    have G2 := Lib.hid g2
    have G3 := Lib.hid g3
    have HB := Lib.hid hB
    have HOWN := Lib.hid hown
    have HOB := Lib.hid hob
    have a1 : m + 1 ≤ maxLen := by unfold maxLen; omega
    have a2 : (m + 1) * 16 ≤ 140737488355328 := by omega
    have hobn : ∀ g, v.ownBlock = some g → w.heap.size + 5 ≤ g := fun g hg => (ownS_from hown g hg).1
    have HOBN := Lib.hid hobn
    have HQW := Lib.hid (show q ≤ W.heap.size by omega)
    clear hvs hcells hE hk hy hB h4 hI0 hyes hno hent hL hm g1 g2 g3 hown hob hobn hsz hrV
    cases has with
    | false =>
      have HIN := Lib.hid (show n.inB high false x = true from rfl)
      gi_wp2_with (gi_at_builtin; refine wpListIn_append_own _ rfl _ _ 85 rfl (w.heap.size + 5) 88 i0 (.agg #[.int .u64 0, .int .u64 0]) 2 16 Tryz.underlying85 hi hz0 hz1 hz2 rfl (by decide) _ m _ rfl (HOWN.out.alloc _) ⟨W.heap.size, 0, none⟩ 1 1 [.int .u64 k, .int .u64 y] rfl rfl ?q1 ?q2 ?q3 ?q4 ?q5 ?_)
      case q1 =>
        have hr := Row.new W 88 #[.int .u64 k, .int .u64 y]
        intro j u hj
        rw [Addr.add_lit, hr.cell, Nat.zero_add]
        simpa using hj
      case q2 => simp [Value.oneCell']
      case q3 => exact a1
      case q4 => exact a2
      case q5 => simp; omega
      intro v' w1 hown' hgrow _
      obtain ⟨g', cap', rfl⟩ := ownsRow_succ hown'
      have r3 := (G3.out.alloc (.cells #[.int .u64 k, .int .u64 y] 88)).grown hgrow (fun e => by have := HOBN.out _ e.symm; omega)
      have cc := r3.cell 0
      have zz := r3.free 0
      have R3 := Lib.hid r3
      simp only [List.getElem?_toArray, List.getElem?_cons_zero] at cc
      clear r3
      gi_wp2
      have hsz1 := hgrow.size
      have hg' := ownS_from hown' g' rfl
      have hne : ∀ b, b < w.heap.size + 5 → some b ≠ v.ownBlock := fun b hb e => by have := HOBN.out _ e.symm; omega
      have hkeep : ∀ b, b < W.heap.size → some b ≠ v.ownBlock → b ≠ w.heap.size + 1 + 1 + 1 → (w1.setCell ⟨w.heap.size + 1 + 1 + 1, 0, none⟩ (.slice (some ⟨g', 0, none⟩) (m + 1) cap')).heap[b]? = W.heap[b]? := fun b hb hn hn' => by
        rw [heap_setCell_other _ _ _ _ hn', hgrow.block b (by simp; omega) hn]
        exact Below.heap_alloc W _ b hb
      simp only [World.size_alloc] at hsz1
      refine ⟨⟨by simp; omega, fun b o hb ho => ?_⟩, hkeep _ (by omega) (hne _ (by omega)) (by omega), fun o _ ho => ?_, w1.heap.size, by simp, by omega, by simp; omega, ?_, ?_, ?_, _, R3.out.set 0 _, ?_, fun g hg => ?_⟩
      · have hbl := (Array.getElem?_eq_some_iff.1 hb).1
        refine (hkeep b hbl (fun e => ?_) (fun e => ?_)).trans hb
        · obtain ⟨cs, t, h5⟩ := ownS_cells HOWN.out e.symm
          rw [h5] at hb
          cases hb
          cases ho
        · subst e
          rw [show W.heap[w.heap.size + 1 + 1 + 1]? = _ from G3.out] at hb
          cases hb
          cases ho
      · have hrl := (Array.getElem?_eq_some_iff.1 ho).1
        exact (hkeep r hrl (fun e => by have := HOB.out r e.symm; omega) (by omega)).trans ho
      · exact (hkeep _ G1.out.lt (hne _ (by omega)) (by omega)).trans G1.out
      · exact (hkeep _ G2.out.lt (hne _ (by omega)) (by omega)).trans G2.out
      · exact ((HB.out.alloc (by omega) _).grown hgrow (by simp; omega) (fun b hb => by have := HOBN.out b hb; omega)).setCell (p := ⟨w.heap.size + 1 + 1 + 1, 0, none⟩) (by dsimp only; omega) _
      · rw [HY.out HIN.out, HEnt.out, flatE_snoc, List.length_append, ← HMd.out]
        exact ownS_set hown' (p := ⟨w.heap.size + 1 + 1 + 1, 0, none⟩) (fun g hg => by cases hg; dsimp only; omega) _
      · cases hg
        exact hg'.2
    | true =>
      obtain hkh | hkh : k < high ∨ ¬ k < high := by omega
      · have HIN := Lib.hid (show n.inB high true x = true by rw [HIn.out]; simp [hkh])
        gi_wp2_with (gi_at_builtin; refine wpListIn_append_own _ rfl _ _ 85 rfl (w.heap.size + 5) 88 i0 (.agg #[.int .u64 0, .int .u64 0]) 2 16 Tryz.underlying85 hi hz0 hz1 hz2 rfl (by decide) _ m _ rfl (HOWN.out.alloc _) ⟨W.heap.size, 0, none⟩ 1 1 [.int .u64 k, .int .u64 y] rfl rfl ?q1 ?q2 ?q3 ?q4 ?q5 ?_)
        case q1 =>
          have hr := Row.new W 88 #[.int .u64 k, .int .u64 y]
          intro j u hj
          rw [Addr.add_lit, hr.cell, Nat.zero_add]
          simpa using hj
        case q2 => simp [Value.oneCell']
        case q3 => exact a1
        case q4 => exact a2
        case q5 => simp; omega
        intro v' w1 hown' hgrow _
        obtain ⟨g', cap', rfl⟩ := ownsRow_succ hown'
        have r3 := (G3.out.alloc (.cells #[.int .u64 k, .int .u64 y] 88)).grown hgrow (fun e => by have := HOBN.out _ e.symm; omega)
        have cc := r3.cell 0
        have zz := r3.free 0
        have R3 := Lib.hid r3
        simp only [List.getElem?_toArray, List.getElem?_cons_zero] at cc
        clear r3
        gi_wp2
        have hsz1 := hgrow.size
        have hg' := ownS_from hown' g' rfl
        have hne : ∀ b, b < w.heap.size + 5 → some b ≠ v.ownBlock := fun b hb e => by have := HOBN.out _ e.symm; omega
        have hkeep : ∀ b, b < W.heap.size → some b ≠ v.ownBlock → b ≠ w.heap.size + 1 + 1 + 1 → (w1.setCell ⟨w.heap.size + 1 + 1 + 1, 0, none⟩ (.slice (some ⟨g', 0, none⟩) (m + 1) cap')).heap[b]? = W.heap[b]? := fun b hb hn hn' => by
          rw [heap_setCell_other _ _ _ _ hn', hgrow.block b (by simp; omega) hn]
          exact Below.heap_alloc W _ b hb
        simp only [World.size_alloc] at hsz1
        refine ⟨⟨by simp; omega, fun b o hb ho => ?_⟩, hkeep _ (by omega) (hne _ (by omega)) (by omega), fun o _ ho => ?_, w1.heap.size, by simp, by omega, by simp; omega, ?_, ?_, ?_, _, R3.out.set 0 _, ?_, fun g hg => ?_⟩
        · have hbl := (Array.getElem?_eq_some_iff.1 hb).1
          refine (hkeep b hbl (fun e => ?_) (fun e => ?_)).trans hb
          · obtain ⟨cs, t, h5⟩ := ownS_cells HOWN.out e.symm
            rw [h5] at hb
            cases hb
            cases ho
          · subst e
            rw [show W.heap[w.heap.size + 1 + 1 + 1]? = _ from G3.out] at hb
            cases hb
            cases ho
        · have hrl := (Array.getElem?_eq_some_iff.1 ho).1
          exact (hkeep r hrl (fun e => by have := HOB.out r e.symm; omega) (by omega)).trans ho
        · exact (hkeep _ G1.out.lt (hne _ (by omega)) (by omega)).trans G1.out
        · exact (hkeep _ G2.out.lt (hne _ (by omega)) (by omega)).trans G2.out
        · exact ((HB.out.alloc (by omega) _).grown hgrow (by simp; omega) (fun b hb => by have := HOBN.out b hb; omega)).setCell (p := ⟨w.heap.size + 1 + 1 + 1, 0, none⟩) (by dsimp only; omega) _
        · rw [HY.out HIN.out, HEnt.out, flatE_snoc, List.length_append, ← HMd.out]
          exact ownS_set hown' (p := ⟨w.heap.size + 1 + 1 + 1, 0, none⟩) (fun g hg => by cases hg; dsimp only; omega) _
        · cases hg
          exact hg'.2
      · have HIN := Lib.hid (show n.inB high true x = false by rw [HIn.out]; simp; omega)
        gi_wp2
        refine ⟨KeepsOthers.refl _, rfl, fun o _ ho => ho, q, HQW.out, hq4, hWs, G1.out, G2.out, HB.out, v, G3.out, ?_, HOB.out⟩
        rw [HNo.out HIN.out, ← HMd.out]
        exact HOWN.out
  case done =>
    rintro D q xs W hD rfl ⟨hq4, hWs, g1, g2, hB, v, g3, hown, hob⟩ hK
    have c3 := g3.cell 0
    simp only [List.getElem?_toArray, List.getElem?_cons_zero] at c3
    have HOWN := Lib.hid (show W.ownsRow (w.heap.size + 5) 88 2 v (n.act high has).length (flatE (n.act high has)) from hown)
    have HB := Lib.hid hB
    clear hown g1 g2 g3 hob h4 hI0 hB
    gi_wp2
    refine ⟨by simp, .inl ⟨_, _, rfl, run_takeDeferred hK, ?_⟩⟩
    exact ⟨_, results_tmp rfl _ _ _, ⟨v, rfl, ownS_mono (ownS_grown HOWN.out (grownBy_putObj' W D (.deferred none)) (fun q e => by cases e; exact ⟨_, hK, rfl⟩)) (by omega)⟩, HB.out.trans (belowK_b (w := w) (Nat.le_refl _) W D _ _ (by omega) hK rfl rfl)⟩
  case stop => exact fun _ _ _ _ _ h => h.elim
end Go.Proofs.YtiefgmibgdidpaaGreatDoor
/- Lists of entries, as they lie; the document's Same; of any two lists; no conditions but on memory. -/
namespace Go.Proofs.YtiefgmibgdidpaaGreatDoor
open Go.RowKit
set_option linter.unusedVariables false
/-- A slice of entries that reads as a list. -/
def EntAt (w : World) (v : Value) (l : List (Int × Int)) : Prop :=
  ∃ A cap, v = .slice A l.length cap ∧ (0 < l.length → ∃ g o, A = some ⟨g, o, none⟩ ∧ ∀ i e, l[i]? = some e → w.cell? ⟨g, o + i * 2, none⟩ = some (uw e.1) ∧ w.cell? ⟨g, o + i * 2 + 1, none⟩ = some (uw e.2))
theorem EntAt.low {w w' : World} {v : Value} {l : List (Int × Int)} (h : EntAt w v l) (hb : Below w.heap.size w w') : EntAt w' v l := by
  obtain ⟨A, cap, rfl, h⟩ := h
  refine ⟨A, cap, rfl, fun h0 => ?_⟩
  obtain ⟨g, o, rfl, hc⟩ := h h0
  refine ⟨g, o, rfl, fun i e he => ?_⟩
  obtain ⟨c1, c2⟩ := hc i e he
  exact ⟨(hb.cell (p := ⟨g, o + i * 2, none⟩) (w.block_lt_of_cell? _ c1)).trans c1, (hb.cell (p := ⟨g, o + i * 2 + 1, none⟩) (w.block_lt_of_cell? _ c2)).trans c2⟩
end Go.Proofs.YtiefgmibgdidpaaGreatDoor
/- A node is equal to itself, and so are twenty-four words; no conditions. -/
namespace Go.Proofs.YtiefgmibgdidpaaGreatDoor
open Go.RowKit
set_option linter.unusedVariables false
set_option linter.unusedSimpArgs false
theorem infU : (Tryz.prog.info? 27).map (fun i => (i.zero, i.size, i.bytes)) = some (some (.int .u64 0), 1, 8) := by kernel_rfl
theorem infA : (Tryz.prog.info? 28).map (fun i => (i.zero, i.size, i.bytes)) = some (some (.int .u64 0), 1, 8) := by kernel_rfl
theorem celU : Tryz.prog.cellsOf 27 = 1 := by kernel_rfl
theorem celA : Tryz.prog.cellsOf 28 = 1 := by kernel_rfl
theorem plnU : Tryz.prog.plainKey 27 = true := by kernel_rfl
theorem plnA : Tryz.prog.plainKey 28 = true := by kernel_rfl
theorem itemsG (dd : Nat) {e : TypeId} (he : Tryz.prog.plainKey e = true) (hu : Tryz.prog.underlying e = some (.int .u64)) (xs : Array Value) (w : World) : ∀ is : List Nat, (∀ i ∈ is, ∃ x, xs[i]? = some (.int .u64 x)) → (Op.eqItems (dd + 1) e 1 xs xs is).run Tryz.prog w = .ok true w
  | [], _ => by simp [Op.eqItems]
  | i :: is, h => by
    obtain ⟨x, hx⟩ := h i (by simp)
    have hp := run_part_plain (P := Tryz.prog) w he (xs := xs) (off := i) hx
    have hq := run_equalIn_int (P := Tryz.prog) w dd e .u64 .u64 x x hu
    simp only [beq_self_eq_true] at hq
    have hi := itemsG dd he hu xs w is (fun j hj => h j (by simp [hj]))
    simp only [Op.eqItems, Sem.run_bind, Nat.mul_one, hp, Result.andThen_ok, hq, Bool.not_true, Bool.false_eq_true, if_false, hi]
theorem eqArr (dd : Nat) {t e : TypeId} {n : Nat} (ht : Tryz.prog.underlying t = some (.array n e)) (hi : (Tryz.prog.info? e).map (fun i => (i.zero, i.size, i.bytes)) = some (some (.int .u64 0), 1, 8)) (hc : Tryz.prog.cellsOf e = 1) (he : Tryz.prog.plainKey e = true) (hu : Tryz.prog.underlying e = some (.int .u64))
    (xs : Array Value) (h : ∀ i, i < n → ∃ x, xs[i]? = some (.int .u64 x)) (w : World) : (Op.equalIn (dd + 2) t (.agg xs) (.agg xs)).run Tryz.prog w = .ok true w := by
  obtain ⟨i0, hi0, hz0, hz1, hz2⟩ := info_parts hi
  rw [run_equalIn_array (P := Tryz.prog) w (dd + 1) xs xs ht hi0, hc]
  exact itemsG dd he hu xs w _ (fun i hi => h i (List.mem_range.1 hi))
theorem eqK (n : Nd) (w : World) : (Op.equalIn 9999 32 (.agg (List.take 8 (List.drop 5 n.cl)).toArray) (.agg (List.take 8 (List.drop 5 n.cl)).toArray)).run Tryz.prog w = .ok true w :=
  eqArr 9997 Tryz.underlying32 infU celU plnU Tryz.underlying27 _ (fun i hi => by rcases lt8 hi with rfl | rfl | rfl | rfl | rfl | rfl | rfl | rfl <;> exact ⟨_, rfl⟩) w
theorem eqP (n : Nd) (w : World) : (Op.equalIn 9999 33 (.agg (List.take 8 (List.drop 13 n.cl)).toArray) (.agg (List.take 8 (List.drop 13 n.cl)).toArray)).run Tryz.prog w = .ok true w :=
  eqArr 9997 Tryz.underlying33 infA celA plnA Tryz.underlying28 _ (fun i hi => by rcases lt8 hi with rfl | rfl | rfl | rfl | rfl | rfl | rfl | rfl <;> exact ⟨_, rfl⟩) w
set_option maxRecDepth 100000 in
theorem eqNd (n : Nd) (w : World) : (Op.equalIn 10000 35 n.V n.V).run Tryz.prog w = .ok true w := by
  have hS : Tryz.prog.underlying 35 = some (.struct (Tryz.prog.fieldsOf 35)) := by kernel_rfl
  have hp : Tryz.prog.stoodInHeld 35 = false := by kernel_rfl
  have g0 : n.cl[0]? = some (.int .i64 n.l) := rfl
  have g1 : n.cl[1]? = some (.int .u64 n.lo) := rfl
  have g2 : n.cl[2]? = some (.int .u64 n.nx) := rfl
  have g3 : n.cl[3]? = some (.int .u64 n.ct) := rfl
  have g4 : n.cl[4]? = some (.int .u64 n.fi) := rfl
  have e0 := fun W => run_equalIn_int (P := Tryz.prog) W 9998 3 .i64 .i64 n.l n.l Tryz.underlying3
  have e1 := fun W (x : Int) => run_equalIn_int (P := Tryz.prog) W 9998 27 .u64 .u64 x x Tryz.underlying27
  have e2 := fun W (x : Int) => run_equalIn_int (P := Tryz.prog) W 9998 28 .u64 .u64 x x Tryz.underlying28
  have e3 := fun W => eqK n W
  have e4 := fun W => eqP n W
  unfold Nd.V
  rw [show (10000 : Nat) = 9999 + 1 from rfl, run_equalIn_agg w 9999 35 _ _ hS hp]
  simp only [Program.fieldsOf, Tryz.underlying35]
  go_simp
/-- A node's words, as integers. -/
def wi (n : Nd) : List Int := if isLv n = true then [5495893775785918464 + n.l, n.lo, n.nx, n.ct, n.fi, 0, 0, 0, n.k0, n.p0, n.k1, n.p1, n.k2, n.p2, n.k3, n.p3, n.k4, n.p4, n.k5, n.p5, n.k6, n.p6, n.k7, n.p7]
  else [0, 0, 0, 0, 0, 0, 0, 0, 0, 0, 0, 0, 0, 0, 0, 0, 0, 0, 0, 0, 0, 0, 0, 0]
theorem wi_len (n : Nd) : (wi n).length = 24 := by unfold wi; split <;> rfl
theorem wi_words (n : Nd) : wordsL n = (wi n).map uw := by unfold wordsL wi; split <;> rfl
theorem wi_of (n : Nd) : (0 ≤ wAt (wi n) 0 ∧ wAt (wi n) 0 < 18446744073709551616) ∧ ofR (wi n) = if isLv n = true then (n, 0) else (zeroNd, 11) := by
  by_cases h : isLv n = true
  · have hb : 0 ≤ n.l ∧ n.l ≤ 15 := by simpa [isLv] using h
    have e : wi n = [5495893775785918464 + n.l, n.lo, n.nx, n.ct, n.fi, 0, 0, 0, n.k0, n.p0, n.k1, n.p1, n.k2, n.p2, n.k3, n.p3, n.k4, n.p4, n.k5, n.p5, n.k6, n.p6, n.k7, n.p7] := by unfold wi; rw [if_pos h]
    have e0 : wAt (wi n) 0 = 5495893775785918464 + n.l := by rw [e]; rfl
    refine ⟨by rw [e0]; omega, ?_⟩
    unfold ofR
    rw [e0, if_pos (by omega), if_pos h, show 5495893775785918464 + n.l - 5495893775785918464 = n.l by omega, e]
    cases n
    simp [ofN, Nd.put, wAt]
  · have e : wi n = [0, 0, 0, 0, 0, 0, 0, 0, 0, 0, 0, 0, 0, 0, 0, 0, 0, 0, 0, 0, 0, 0, 0, 0] := by unfold wi; rw [if_neg h]
    have e0 : wAt (wi n) 0 = 0 := by rw [e]; rfl
    refine ⟨by rw [e0]; omega, ?_⟩
    unfold ofR
    rw [e0, if_neg (by omega), if_neg h]
end Go.Proofs.YtiefgmibgdidpaaGreatDoor
/- A node without what stands behind its entries: Trim of the document, and of the law; no conditions. -/
namespace Go.Proofs.YtiefgmibgdidpaaGreatDoor
open Go.RowKit
set_option linter.unusedVariables false
attribute [local go_sem] Oper.semAt_some
/-- A node that has the first a keys and the first b pointers, noughts behind. -/
def Nd.tr (n : Nd) (a b : Nat) : Nd := ⟨n.l, n.lo, n.nx, n.ct, n.fi, if 0 < a then n.k0 else 0, if 1 < a then n.k1 else 0, if 2 < a then n.k2 else 0, if 3 < a then n.k3 else 0, if 4 < a then n.k4 else 0, if 5 < a then n.k5 else 0, if 6 < a then n.k6 else 0, if 7 < a then n.k7 else 0, if 0 < b then n.p0 else 0, if 1 < b then n.p1 else 0, if 2 < b then n.p2 else 0, if 3 < b then n.p3 else 0, if 4 < b then n.p4 else 0, if 5 < b then n.p5 else 0, if 6 < b then n.p6 else 0, if 7 < b then n.p7 else 0⟩
theorem Nd.tr_key (n : Nd) (a b : Nat) {i : Nat} (hi : i < 8) : (n.tr a b).key i = if i < a then n.key i else 0 := by
  rcases lt8 hi with rfl | rfl | rfl | rfl | rfl | rfl | rfl | rfl <;> rfl
theorem Nd.tr_ptr (n : Nd) (a b : Nat) {i : Nat} (hi : i < 8) : (n.tr a b).ptr i = if i < b then n.ptr i else 0 := by
  rcases lt8 hi with rfl | rfl | rfl | rfl | rfl | rfl | rfl | rfl <;> rfl
/-- The words ahead of the entries. -/
def Nd.hd (n : Nd) : Int × Int × Int × Int × Int := (n.l, n.lo, n.nx, n.ct, n.fi)
theorem Nd.ext_of {n m : Nd} (h : n.hd = m.hd) (hk : ∀ i, i < 8 → n.key i = m.key i) (hp : ∀ i, i < 8 → n.ptr i = m.ptr i) : n = m := by
  obtain ⟨l, lo, nx, ct, fi, k0, k1, k2, k3, k4, k5, k6, k7, p0, p1, p2, p3, p4, p5, p6, p7⟩ := n
  obtain ⟨l', lo', nx', ct', fi', k0', k1', k2', k3', k4', k5', k6', k7', p0', p1', p2', p3', p4', p5', p6', p7'⟩ := m
  simp only [Nd.hd, Prod.mk.injEq] at h
  obtain ⟨rfl, rfl, rfl, rfl, rfl⟩ := h
  have a0 : k0 = k0' := hk 0 (by omega)
  have a1 : k1 = k1' := hk 1 (by omega)
  have a2 : k2 = k2' := hk 2 (by omega)
  have a3 : k3 = k3' := hk 3 (by omega)
  have a4 : k4 = k4' := hk 4 (by omega)
  have a5 : k5 = k5' := hk 5 (by omega)
  have a6 : k6 = k6' := hk 6 (by omega)
  have a7 : k7 = k7' := hk 7 (by omega)
  have b0 : p0 = p0' := hp 0 (by omega)
  have b1 : p1 = p1' := hp 1 (by omega)
  have b2 : p2 = p2' := hp 2 (by omega)
  have b3 : p3 = p3' := hp 3 (by omega)
  have b4 : p4 = p4' := hp 4 (by omega)
  have b5 : p5 = p5' := hp 5 (by omega)
  have b6 : p6 = p6' := hp 6 (by omega)
  have b7 : p7 = p7' := hp 7 (by omega)
  subst a0 a1 a2 a3 a4 a5 a6 a7 b0 b1 b2 b3 b4 b5 b6 b7
  rfl
/-- A key put. -/
def Nd.sk (n : Nd) (k : Nat) (v : Int) : Nd := match k with
  | 0 => { n with k0 := v } | 1 => { n with k1 := v } | 2 => { n with k2 := v } | 3 => { n with k3 := v } | 4 => { n with k4 := v } | 5 => { n with k5 := v } | 6 => { n with k6 := v } | _ => { n with k7 := v }
/-- A pointer put. -/
def Nd.sp (n : Nd) (k : Nat) (v : Int) : Nd := match k with
  | 0 => { n with p0 := v } | 1 => { n with p1 := v } | 2 => { n with p2 := v } | 3 => { n with p3 := v } | 4 => { n with p4 := v } | 5 => { n with p5 := v } | 6 => { n with p6 := v } | _ => { n with p7 := v }
theorem Nd.sk_hd (n : Nd) {k : Nat} (hk : k < 8) (v : Int) : (n.sk k v).hd = n.hd := by
  rcases lt8 hk with rfl | rfl | rfl | rfl | rfl | rfl | rfl | rfl <;> rfl
theorem Nd.sp_hd (n : Nd) {k : Nat} (hk : k < 8) (v : Int) : (n.sp k v).hd = n.hd := by
  rcases lt8 hk with rfl | rfl | rfl | rfl | rfl | rfl | rfl | rfl <;> rfl
theorem Nd.sk_key (n : Nd) {k i : Nat} (hk : k < 8) (hi : i < 8) (v : Int) : (n.sk k v).key i = if i = k then v else n.key i := by
  rcases lt8 hk with rfl | rfl | rfl | rfl | rfl | rfl | rfl | rfl <;> rcases lt8 hi with rfl | rfl | rfl | rfl | rfl | rfl | rfl | rfl <;> rfl
theorem Nd.sk_ptr (n : Nd) {k i : Nat} (hk : k < 8) (v : Int) : (n.sk k v).ptr i = n.ptr i := by
  rcases lt8 hk with rfl | rfl | rfl | rfl | rfl | rfl | rfl | rfl <;> rfl
theorem Nd.sp_ptr (n : Nd) {k i : Nat} (hk : k < 8) (hi : i < 8) (v : Int) : (n.sp k v).ptr i = if i = k then v else n.ptr i := by
  rcases lt8 hk with rfl | rfl | rfl | rfl | rfl | rfl | rfl | rfl <;> rcases lt8 hi with rfl | rfl | rfl | rfl | rfl | rfl | rfl | rfl <;> rfl
theorem Nd.sp_key (n : Nd) {k i : Nat} (hk : k < 8) (v : Int) : (n.sp k v).key i = n.key i := by
  rcases lt8 hk with rfl | rfl | rfl | rfl | rfl | rfl | rfl | rfl <;> rfl
/-- What a trim's loop has done: of the keys from a place on, and of the pointers. -/
def TrK (n m : Nd) (i : Nat) : Prop := m.hd = n.hd ∧ (∀ j, j < 8 → m.ptr j = n.ptr j) ∧ ∀ j, j < 8 → m.key j = if n.len ≤ j ∧ j < i then 0 else n.key j
def TrP (n m : Nd) (i : Nat) : Prop := m.hd = n.hd ∧ (∀ j, j < 8 → m.key j = n.key j) ∧ ∀ j, j < 8 → m.ptr j = if n.len ≤ j ∧ j < i then 0 else n.ptr j
def TrB (n m : Nd) (i : Nat) : Prop := m.hd = n.hd ∧ (∀ j, j < 8 → m.key j = if n.len < j ∧ j < i then 0 else n.key j) ∧ ∀ j, j < 8 → m.ptr j = if n.len ≤ j then 0 else n.ptr j
theorem TrK.step {n m : Nd} {i : Nat} (h : TrK n m i) (hi : i < 8) (hl : n.len ≤ i) : TrK n (m.sk i 0) (i + 1) := by
  refine ⟨(m.sk_hd hi 0).trans h.1, fun j hj => (m.sk_ptr hi 0).trans (h.2.1 j hj), fun j hj => ?_⟩
  rw [m.sk_key hi hj, h.2.2 j hj]
  by_cases e : j = i
  · subst e; rw [if_pos rfl, if_pos ⟨hl, by omega⟩]
  · rw [if_neg e]
    by_cases h1 : n.len ≤ j ∧ j < i
    · rw [if_pos h1, if_pos ⟨h1.1, by omega⟩]
    · rw [if_neg h1, if_neg (by omega)]
theorem TrP.step {n m : Nd} {i : Nat} (h : TrP n m i) (hi : i < 8) (hl : n.len ≤ i) : TrP n (m.sp i 0) (i + 1) := by
  refine ⟨(m.sp_hd hi 0).trans h.1, fun j hj => (m.sp_key hi 0).trans (h.2.1 j hj), fun j hj => ?_⟩
  rw [m.sp_ptr hi hj, h.2.2 j hj]
  by_cases e : j = i
  · subst e; rw [if_pos rfl, if_pos ⟨hl, by omega⟩]
  · rw [if_neg e]
    by_cases h1 : n.len ≤ j ∧ j < i
    · rw [if_pos h1, if_pos ⟨h1.1, by omega⟩]
    · rw [if_neg h1, if_neg (by omega)]
theorem TrB.step {n m : Nd} {i : Nat} (h : TrB n m i) (hi : i < 8) (hl : n.len ≤ i) : TrB n (if n.len < i then (m.sp i 0).sk i 0 else m.sp i 0) (i + 1) := by
  have hp : ∀ j, j < 8 → (m.sp i 0).ptr j = if n.len ≤ j then 0 else n.ptr j := fun j hj => by
    rw [m.sp_ptr hi hj, h.2.2 j hj]
    by_cases e : j = i
    · subst e; rw [if_pos rfl, if_pos hl]
    · rw [if_neg e]
  by_cases hlt : n.len < i
  · rw [if_pos hlt]
    refine ⟨((m.sp i 0).sk_hd hi 0).trans ((m.sp_hd hi 0).trans h.1), fun j hj => ?_, fun j hj => ((m.sp i 0).sk_ptr hi 0).trans (hp j hj)⟩
    rw [(m.sp i 0).sk_key hi hj, m.sp_key hi, h.2.1 j hj]
    by_cases e : j = i
    · subst e; rw [if_pos rfl, if_pos ⟨hlt, by omega⟩]
    · rw [if_neg e]
      by_cases h1 : n.len < j ∧ j < i
      · rw [if_pos h1, if_pos ⟨h1.1, by omega⟩]
      · rw [if_neg h1, if_neg (by omega)]
  · rw [if_neg hlt]
    refine ⟨(m.sp_hd hi 0).trans h.1, fun j hj => ?_, hp⟩
    rw [m.sp_key hi, h.2.1 j hj]
    by_cases h1 : n.len < j ∧ j < i
    · omega
    · rw [if_neg h1, if_neg (by omega)]
theorem TrP.len {n m : Nd} {i : Nat} (h : TrP n m i) : m.len = n.len := by
  refine m.len_eq n.len_le (fun j hj => ?_) (fun h8 => ?_)
  · have := n.len_le
    rw [h.2.2 j (by omega), if_neg (by omega)]
    exact n.len_before hj
  · rw [h.2.2 _ h8]
    split
    · rfl
    · exact n.len_at h8
theorem TrP.zero {n m : Nd} {i : Nat} (h : TrP n m i) (hi : i < 8) (hl : n.len < i) : m.ptr (i - 1) = 0 := by rw [h.2.2 _ (by omega), if_pos (by omega)]
end Go.Proofs.YtiefgmibgdidpaaGreatDoor
/- The document's Find and Last: of any node, any key; without conditions. -/
namespace Go.Proofs.YtiefgmibgdidpaaGreatDoor
open Go.RowKit
set_option linter.unusedVariables false
end Go.Proofs.YtiefgmibgdidpaaGreatDoor
/- slices.Contains of addresses; rise, unlike, May: of any node; without conditions. -/
namespace Go.Proofs.YtiefgmibgdidpaaGreatDoor
open Go.RowKit
set_option linter.unusedVariables false
end Go.Proofs.YtiefgmibgdidpaaGreatDoor
/- rise, unlike: of any node and any list of entries, few; without conditions else. -/
namespace Go.Proofs.YtiefgmibgdidpaaGreatDoor
open Go.RowKit
set_option linter.unusedVariables false
/-- Do keys rise, from a least one on? -/
def riseB : Int → Bool → List (Int × Int) → Bool
  | _, _, [] => true
  | a, c, e :: t => if e.1 < a ∨ (e.1 = a ∧ c = false) then false else riseB e.1 false t
/-- Are a First and the pointers of entries all unlike? -/
def unlB (f : Int) (l : List (Int × Int)) : Bool := decide (f :: l.map (·.2)).Nodup
end Go.Proofs.YtiefgmibgdidpaaGreatDoor
/- unlike: are a node's First and the pointers of entries all unlike; of any node, few entries; without conditions else. -/
namespace Go.Proofs.YtiefgmibgdidpaaGreatDoor
open Go.RowKit
set_option linter.unusedVariables false
end Go.Proofs.YtiefgmibgdidpaaGreatDoor
/- May: may a node be, by any bound; of any node; without conditions. -/
namespace Go.Proofs.YtiefgmibgdidpaaGreatDoor
open Go.RowKit
set_option linter.unusedVariables false
/-- May a node be? -/
def Nd.may (n : Nd) (high : Int) (has : Bool) : Bool :=
  (decide (0 ≤ n.l) && decide (n.l ≤ 15)) && (n.fi != 0) && !(has && decide (high ≤ n.lo)) && decide (n.len ≤ n.es.length + 1) && riseB n.lo (decide (n.l = 0)) n.es && unlB n.fi n.es
end Go.Proofs.YtiefgmibgdidpaaGreatDoor
/- Invalid: the first place of an entry that is not valid; of any node; without conditions. -/
namespace Go.Proofs.YtiefgmibgdidpaaGreatDoor
open Go.RowKit Go.Shelf
set_option linter.unusedVariables false
attribute [local go_sem] Oper.semAt_some

/-- The first place of an entry that is not valid. -/
def Nd.inv (n : Nd) : Int := match (List.range n.len).find? (fun i => !n.ok i) with | some i => (i : Int) | none => -1
theorem Nd.inv_at (n : Nd) {m : Nat} (hm : m < n.len) (hno : n.ok m = false) (hall : ∀ i, i < m → n.ok i = true) : n.inv = (m : Int) := by
  have : (List.range n.len).find? (fun i => !n.ok i) = some m := by
    rw [List.find?_range_eq_some]
    exact ⟨by simp [hno], by simpa using hm, fun j hj => by simp [hall j hj]⟩
  unfold Nd.inv
  rw [this]
theorem Nd.inv_none (n : Nd) (hall : ∀ i, i < n.len → n.ok i = true) : n.inv = -1 := by
  have : (List.range n.len).find? (fun i => !n.ok i) = none := by
    rw [List.find?_range_eq_none]
    exact fun j hj => by simp [hall j hj]
  unfold Nd.inv
  rw [this]
theorem Nd.vp_sorted (n : Nd) : n.vp.Pairwise (· < ·) := List.pairwise_lt_range.filter _
theorem Nd.mem_vp (n : Nd) {p : Nat} : p ∈ n.vp ↔ p < n.len ∧ n.ok p = true := by simp [Nd.vp, Nd.vpTo]
theorem inv_stop {n : Nd} {m p : Nat} (h : List.range m ++ [p] <+: n.vp) (hp : p ≠ m) : n.inv = (m : Int) := by
  obtain ⟨r, hr⟩ := h
  have hs := n.vp_sorted
  rw [← hr, List.append_assoc, List.pairwise_append] at hs
  obtain ⟨_, hs2, hs3⟩ := hs
  have hpv := (n.mem_vp (p := p)).1 (by rw [← hr]; simp)
  have hall : ∀ i, i < m → n.ok i = true := fun i hi => ((n.mem_vp (p := i)).1 (by rw [← hr]; simp [hi])).2
  have hpm : m < p := by
    by_cases e : p < m
    · exact absurd (hs3 p (by simpa using e) p (by simp)) (by omega)
    · omega
  refine n.inv_at (by omega) ?_ hall
  by_cases e : n.ok m = true
  · have hm : m ∈ n.vp := n.mem_vp.2 ⟨by omega, e⟩
    rw [← hr, List.append_assoc, List.mem_append] at hm
    rcases hm with hm | hm
    · simp at hm
    · rcases List.mem_cons.1 hm with hm | hm
      · omega
      · have := (List.pairwise_cons.1 hs2).1 m hm
        omega
  · simpa using e
theorem inv_done {n : Nd} {m : Nat} (h : n.vp = List.range m) : (m < n.len → n.inv = (m : Int)) ∧ (n.len ≤ m → n.inv = -1) := by
  have hm : ∀ i, i < m ↔ (i < n.len ∧ n.ok i = true) := fun i => by rw [← n.mem_vp, h]; simp
  constructor
  · intro hl
    refine n.inv_at hl ?_ fun i hi => ((hm i).1 hi).2
    by_cases e : n.ok m = true
    · exact absurd ((hm m).2 ⟨hl, e⟩) (by omega)
    · simpa using e
  · intro hl
    exact n.inv_none fun i hi => ((hm i).1 (by omega)).2
set_option maxRecDepth 100000 in
set_option maxHeartbeats 4000000 in
theorem nInv_any (n : Nd) (w : World) : Calls Tryz.prog 111 #[n.V] w fun e W' => e = .returned (.int .i64 n.inv) ∧ Below w.heap.size w W' := by
  obtain ⟨Wx, hWx⟩ : ∃ Wx, Wx = ((w.alloc (.cells n.cl.toArray 35)).alloc (.cells #[.int .i64 0] 3)).alloc (.cells #[.int .i64 0] 3) := ⟨_, rfl⟩
  have hsx : Wx.heap.size = w.heap.size + 3 := by rw [hWx]; simp
  have hbx : Below w.heap.size w Wx := by rw [hWx]; exact low_and (low_and (alloc_low _ _) (alloc_low _ _)) (alloc_low _ _)
  have r0 : NdAt Wx w.heap.size n := by rw [hWx]; exact ((Row.new _ _ _).alloc _).alloc _
  have r1 : Row Wx (w.heap.size + 1) 3 #[.int .i64 0] := by
    rw [hWx]
    have := Row.new (w.alloc (.cells n.cl.toArray 35)) 3 #[.int .i64 0]
    simp only [World.size_alloc] at this
    exact this.alloc _
  have r2 : Row Wx (w.heap.size + 1 + 1) 3 #[.int .i64 0] := by
    rw [hWx]
    have := Row.new ((w.alloc (.cells n.cl.toArray 35)).alloc (.cells #[.int .i64 0] 3)) 3 #[.int .i64 0]
    simpa only [World.size_alloc] using this
  have HWx := Lib.hid hWx
  have HR0 := Lib.hid r0
  clear hWx
  refine (callsIn_wide (n := 6)).1 ?_
  refine callsIn_of_wp_marks Tryz.func111 rfl trivial ?_ rfl
  simp only [Tryz.ntmps111, List.size_toArray, List.length_cons, List.length_nil, Nat.reduceAdd, Nat.reduceSub, Array.replicate_succ, Array.replicate_zero, List.push_toArray, List.append_toArray, List.nil_append, List.cons_append]
  gi_wp2_with (first | (rw [← HWx.out]; refine wpListIn_load_mid (fun _ => trivial) rfl _ _ rfl w.heap.size 0 rfl n.cl _ (ndR HR0.out) Tryz.underlying35 rfl ndI ?_) | (refine ⟨trivial, ?_⟩; gi_at_call 131; refine (callsIn_wide.2 (valid_any n _)).mono ?_; rintro e w' ⟨rfl, rfl⟩))
  obtain ⟨W0, hW0⟩ : ∃ W0, W0 = Wx.alloc (.cells n.cl.toArray 35) := ⟨_, rfl⟩
  have h4 : NdAt W0 (w.heap.size + 3) n := by
    rw [hW0]
    have := Row.new Wx 35 n.cl.toArray
    rwa [hsx] at this
  have hb0 : Below Wx.heap.size Wx W0 := by rw [hW0]; exact alloc_low _ _
  have hs0 : W0.heap.size = w.heap.size + 4 := by rw [hW0]; simp [hsx]
  have f0 := Row.below r0 hb0 r0.lt
  have f1 := Row.below r1 hb0 r1.lt
  have f2 := Row.below r2 hb0 r2.lt
  have hbW : Below w.heap.size w W0 := low_and hbx hb0
  rw [← hW0]
  have FB := Lib.hid hbW
  clear hW0 r1 r2 hb0 hbx HWx HR0 hbW hsx r0
  refine range_Q rfl (by omega) (gf := 145) (lb := #[.pointer (some ⟨w.heap.size + 3, 0, none⟩)]) rfl trivial (enters_of Tryz.func145 (by kernel_rfl) rfl) (bx := w.heap.size + 3) (by omega) (valid1_seq h4) (fun _ => rfl)
    (fun q pre W => w.heap.size + 4 ≤ q ∧ w.heap.size + 4 ≤ W.heap.size ∧ NdAt W w.heap.size n ∧ Row W (w.heap.size + 1) 3 #[.int .i64 0] ∧ Row W (w.heap.size + 1 + 1) 3 #[.int .i64 (pre.length : Int)] ∧ pre = List.range pre.length ∧ Below w.heap.size w W)
    (fun pre W => ∃ (m p : Nat), pre = List.range m ++ [p] ∧ p ≠ m ∧ W.cell? ⟨w.heap.size + 1, 0, none⟩ = some (.int .i64 (m : Int)) ∧ Below w.heap.size w W)
    (fun q s A B row hs hg hr => ⟨hs.1, Nat.le_trans hs.2.1 hg.size, hs.2.2.1.grown hg (fun e => by have := (hr _ e.symm).1; omega), hs.2.2.2.1.grown hg (fun e => by have := (hr _ e.symm).1; omega), hs.2.2.2.2.1.grown hg (fun e => by have := (hr _ e.symm).1; omega), hs.2.2.2.2.2.1, hs.2.2.2.2.2.2.grown hg hs.2.2.2.2.2.2.size (fun k e => by have := (hr k e).1; omega)⟩)
    (fun s A B row hs hg hr => by
      obtain ⟨m, p, a1, a2, a3, a4⟩ := hs
      exact ⟨m, p, a1, a2, cell_kept a3 hg (fun r e => (hr r e).2), a4.grown hg a4.size (fun k e => by have := (hr k e).1; omega)⟩)
    ⟨by omega, by omega, f0, f1, f2, rfl, FB.out⟩
    (fun x V => { tmps := #[n.V, .pointer (some ⟨w.heap.size, 0, none⟩), .pointer (some ⟨w.heap.size + 1, 0, none⟩), .pointer (some ⟨w.heap.size + 1 + 1, 0, none⟩), .int .i64 (x : Int), .agg n.cl.toArray, .func (.func 145) #[] #[.pointer (some ⟨w.heap.size + 3, 0, none⟩)], .int .i64 (x : Int), .agg #[.int .u64 (n.key x), .int .u64 (n.ptr x)], undef, undef, undef, undef, undef, undef, undef, undef, undef, undef, undef], defers := [] })
    (fun x V => V) (fun x V => Below.refl _ _) ?assign ?body ?done ?stop
  case assign =>
    intro l x W K hK
    dsimp only [enc8N]
    gi_wp2
    exact hK
  case body =>
    rintro l q r pre x V W hx8 ⟨hq4, hWs, g0, g1, g2, hpre, hB⟩ hqr hrV hsz hcells hlen
    obtain ⟨m, hm⟩ : ∃ m, m = pre.length := ⟨_, rfl⟩
    rw [← hm] at g2 hpre hlen
    have c1 := g1.cell 0
    have c2 := g2.cell 0
    have z1 := g1.free 0
    have z2 := g2.free 0
    simp only [List.getElem?_toArray, List.getElem?_cons_zero] at c1 c2
    have G0 := Lib.hid g0
    have G1 := Lib.hid g1
    have G2 := Lib.hid g2
    have HB := Lib.hid hB
    have HP := Lib.hid hpre
    have HM := Lib.hid hm
    clear g0 g1 g2 hB hpre hm hcells h4 f0 f1 f2
    obtain rfl | hne : x = m ∨ x ≠ m := by omega
    · gi_wp2
      refine ⟨KeepsOthers.setCell _ _ _, heap_setCell_other _ _ _ _ (by dsimp only; omega), fun o _ ho => (heap_setCell_other _ _ _ _ (by dsimp only; omega)).trans ho, W.heap.size, by simp, by omega, by simpa using hWs, G0.out.other (by dsimp only; omega) _, G1.out.other (by dsimp only; omega) _, ?_, ?_, HB.out.setCell (p := ⟨w.heap.size + 1 + 1, 0, none⟩) (by simp; omega) _⟩
      · have := G2.out.set 0 (.int .i64 ((x : Int) + 1))
        rw [List.length_append, List.length_singleton, ← HM.out]
        simpa using this
      · rw [List.length_append, List.length_singleton, ← HM.out, List.range_succ, ← HP.out]
    · have hne' : ((x : Int) != (m : Int)) = true := by simp; omega
      gi_wp2
      refine ⟨KeepsOthers.setCell _ _ _, m, x, by rw [HP.out], hne, ?_, HB.out.setCell (p := ⟨w.heap.size + 1, 0, none⟩) (by simp) _⟩
      exact (G1.out.set 0 (.int .i64 (m : Int))).cell 0
  case done =>
    rintro D q xs W hD hxs ⟨hq4, hWs, g0, g1, g2, hpre, hB⟩ hK
    obtain ⟨m, hm⟩ : ∃ m, m = xs.length := ⟨_, rfl⟩
    rw [← hm] at g2 hpre
    have HI := Lib.hid (inv_done (n := n) (m := m) (by rw [← hxs]; exact hpre))
    have HLn := Lib.hid (nlen_any n W)
    have c1 := g1.cell 0
    have c2 := g2.cell 0
    have z1 := g1.free 0
    have z2 := g2.free 0
    simp only [List.getElem?_toArray, List.getElem?_cons_zero] at c1 c2
    have G0 := Lib.hid g0
    have G1 := Lib.hid g1
    have HB := Lib.hid hB
    have hm8 : m ≤ 8 := by have := n.vp_length; rw [hm, hxs]; exact this
    have hl8 := n.len_le
    have z2' : ∀ p : LowBy W, p.W.cell? ⟨w.heap.size + 1 + 1, 0, none⟩ = some (.int .i64 (m : Int)) := fun p => p.cell c2
    have hR := Lib.hid (fun (w' : World) (h : ∃ p : LowBy W, w' = p.W) => (show w'.rangeAt w.heap.size 0 n.cl by obtain ⟨p, rfl⟩ := h; exact ndR (G0.out.below p.low G0.out.lt)))
    have hC := Lib.hid (fun (p : LowBy W) => Calls.low_of (nlen_any n p.W))
    clear g0 g1 g2 hB hpre hm hxs h4 f0 f1 f2
    gi_wp2
    refine wpIn_wide.2 ?_
    refine wp_region_quiet_low (by kernel_rfl) (by kernel_rfl) ?_
    repeat (first | go_big_quiet_skip | (go_big_quiet_want; first | (refine quiet_load_mid 35 _ rfl w.heap.size 0 rfl n.cl _ hR.out Tryz.underlying35 rfl ndI ?_; simp only [Act.put, List.setIfInBounds_toArray, List.set_cons_succ, List.set_cons_zero]; go_big_quiet_on) | (go_big_quiet_op; first | go_big_quiet_on | go_big_quiet_call ((go_at_call 115; with_reducible exact hC.out _)))))
    refine wpQuiet_nil ?_
    intro _ hw'
    obtain ⟨p, hw''⟩ := hw'
    subst hw''
    have r1 := G1.out.below p.low G1.out.lt
    have c2 := p.cell c2
    have c1 := r1.cell 0
    have z1 := r1.free 0
    have hKp : p.W.heap[D]? = some (.deferred (some [])) := (p.low.block _ (Array.getElem?_eq_some_iff.1 hK).1).trans hK
    have HBp := Lib.hid (HB.out.trans (p.low.mono (show w.heap.size ≤ W.heap.size by omega)))
    have R1 := Lib.hid r1
    simp only [List.getElem?_toArray, List.getElem?_cons_zero] at c1
    clear r1 hK z2' hR hC HLn z2
    generalize p.W = Wp at *
    obtain hlt | hge : (m : Int) < (n.len : Int) ∨ ¬ (m : Int) < (n.len : Int) := by omega
    · have HE := Lib.hid (HI.out.1 (by omega))
      gi_wp2
      have hK' := (KeepsOthers.setCell Wp ⟨w.heap.size + 1, 0, none⟩ (.int .i64 (m : Int))).same D _ hKp rfl
      refine ⟨by simp, .inl ⟨_, _, rfl, run_takeDeferred hK', ?_⟩⟩
      have h0 := cell_kept ((R1.out.set 0 (.int .i64 (m : Int))).cell 0) (grownBy_putObj' _ D (.deferred none)) (fun r e => by cases e; exact ⟨_, hK', rfl⟩)
      refine ⟨.int .i64 (m : Int), ?_, by rw [HE.out], (HBp.out.setCell (p := ⟨w.heap.size + 1, 0, none⟩) (by dsimp only; omega) _).trans (belowK_b (w := w) (Nat.le_refl _) _ D _ _ (by omega) hK' rfl rfl)⟩
      simp [results, Tryz.f111, go_sem, h0]
    · have HE := Lib.hid (HI.out.2 (by omega))
      gi_wp2
      have hK' := (KeepsOthers.setCell Wp ⟨w.heap.size + 1, 0, none⟩ (.int .i64 (-1))).same D _ hKp rfl
      refine ⟨by simp, .inl ⟨_, _, rfl, run_takeDeferred hK', ?_⟩⟩
      have h0 := cell_kept ((R1.out.set 0 (.int .i64 (-1))).cell 0) (grownBy_putObj' _ D (.deferred none)) (fun r e => by cases e; exact ⟨_, hK', rfl⟩)
      refine ⟨.int .i64 (-1), ?_, by rw [HE.out], (HBp.out.setCell (p := ⟨w.heap.size + 1, 0, none⟩) (by dsimp only; omega) _).trans (belowK_b (w := w) (Nat.le_refl _) _ D _ _ (by omega) hK' rfl rfl)⟩
      simp [results, Tryz.f111, go_sem, h0]
  case stop =>
    rintro D pre W hD hpre ⟨m, p, rfl, hne, hc, hB⟩ hK
    have HE := Lib.hid (inv_stop hpre hne)
    clear h4 f0 f1 f2
    gi_wp2
    refine ⟨by simp, .inl ⟨_, _, rfl, run_takeDeferred hK, ?_⟩⟩
    have hk0 := cell_kept hc (grownBy_putObj' _ D (.deferred none)) (fun r e => by cases e; exact ⟨_, hK, rfl⟩)
    refine ⟨.int .i64 (m : Int), ?_, by rw [HE.out], hB.trans (belowK_b (w := w) (Nat.le_refl _) W D _ _ (by omega) hK rfl rfl)⟩
    simp [results, Tryz.f111, go_sem, hk0]
end Go.Proofs.YtiefgmibgdidpaaGreatDoor
/- Nodes as lists of places; what single stores do to them; plain facts, without conditions. -/
namespace Go.Proofs.YtiefgmibgdidpaaGreatDoor
open Go.RowKit
set_option linter.unusedVariables false
def ll : List (Int × Int) → Nat
  | [] => 0
  | e :: t => if e.2 = 0 then 0 else ll t + 1
def vl : Int → List (Int × Int) → List (Int × Int)
  | _, [] => []
  | a, e :: t => if e.2 = 0 then [] else if e.2 = a then vl e.2 t else e :: vl e.2 t
/-- The pointer ahead of a place of a list. -/
def ahL (a : Int) (l : List (Int × Int)) (i : Nat) : Int := if i = 0 then a else (l.getD (i - 1) (0, 0)).2
theorem ll_le : ∀ l : List (Int × Int), ll l ≤ l.length
  | [] => Nat.le_refl _
  | e :: t => by
    unfold ll
    have := ll_le t
    split <;> simp <;> omega
theorem ll_before : ∀ (l : List (Int × Int)) (i : Nat), i < ll l → (l.getD i (0, 0)).2 ≠ 0
  | [], i, h => by simp [ll] at h
  | e :: t, i, h => by
    unfold ll at h
    split at h
    · omega
    · cases i with
      | zero => simpa using by assumption
      | succ i => simpa using ll_before t i (by omega)
theorem ll_at : ∀ (l : List (Int × Int)), ll l < l.length → (l.getD (ll l) (0, 0)).2 = 0
  | [], h => by simp at h
  | e :: t, h => by
    unfold ll at h ⊢
    split
    · simpa using by assumption
    · rename_i hne
      rw [if_neg hne] at h
      simpa using ll_at t (by simpa using h)
theorem vl_range : ∀ (l : List (Int × Int)) (a : Int), vl a l = ((List.range (ll l)).filter (fun i => (l.getD i (0, 0)).2 != ahL a l i)).map (fun i => l.getD i (0, 0))
  | [], a => rfl
  | e :: t, a => by
    unfold vl ll
    by_cases h0 : e.2 = 0
    · rw [if_pos h0, if_pos h0]; rfl
    · rw [if_neg h0, if_neg h0, List.range_succ_eq_map, List.filter_cons]
      have hs : ((List.map Nat.succ (List.range (ll t))).filter (fun i => ((e :: t).getD i (0, 0)).2 != ahL a (e :: t) i)).map (fun i => (e :: t).getD i (0, 0)) = vl e.2 t := by
        rw [vl_range t e.2, List.filter_map, List.map_map]
        have : ((fun i => ((e :: t).getD i (0, 0)).2 != ahL a (e :: t) i) ∘ Nat.succ) = (fun i => (t.getD i (0, 0)).2 != ahL e.2 t i) := by
          funext i
          simp only [Function.comp]
          cases i with
          | zero => simp [ahL]
          | succ i => simp [ahL]
        rw [this]
        rfl
      by_cases h1 : e.2 = a
      · rw [if_pos h1, if_neg (by simp [ahL, h1])]
        exact hs.symm
      · rw [if_neg h1, if_pos (by simp [ahL, h1]), List.map_cons, hs]
        rfl
/-- A beginning of a node's places is its entries: none is nought, and behind them is the end. -/
def Zok (Z : List (Int × Int)) : Prop := Z = [] ∨ ∃ k t, Z = (k, 0) :: t
def lastP (a : Int) (l : List (Int × Int)) : Int := match l.getLast? with | some e => e.2 | none => a
theorem lastP_nil (a : Int) : lastP a [] = a := rfl
theorem lastP_cons (a : Int) (e : Int × Int) (t : List (Int × Int)) : lastP a (e :: t) = lastP e.2 t := by
  cases t with
  | nil => rfl
  | cons b t => unfold lastP; rw [List.getLast?_cons_cons]; simp [List.getLast?_cons]
/-- No pointer is nought, none is as the one ahead. -/
def Good : Int → List (Int × Int) → Prop
  | _, [] => True
  | a, e :: t => e.2 ≠ 0 ∧ e.2 ≠ a ∧ Good e.2 t
theorem vl_z {Z : List (Int × Int)} (h : Zok Z) (a : Int) : vl a Z = [] ∧ ll Z = 0 := by
  rcases h with rfl | ⟨k, t, rfl⟩ <;> simp [vl, ll]
theorem vl_good {l Z : List (Int × Int)} (hz : Zok Z) : ∀ a, Good a l → vl a (l ++ Z) = l ∧ ll (l ++ Z) = l.length := by
  induction l with
  | nil => intro a _; simpa using vl_z hz a
  | cons e t ih =>
    intro a h
    obtain ⟨h0, h1, h2⟩ := h
    obtain ⟨i1, i2⟩ := ih e.2 h2
    simp [vl, ll, h0, h1, i1, i2]
/-- With one that is not valid between them. -/
theorem vl_gap {A B Z : List (Int × Int)} {x : Int} (hz : Zok Z) : ∀ a, a ≠ 0 → Good a (A ++ B) → vl a (A ++ (x, lastP a A) :: (B ++ Z)) = A ++ B ∧ ll (A ++ (x, lastP a A) :: (B ++ Z)) = A.length + B.length + 1 := by
  induction A with
  | nil =>
    intro a ha h
    obtain ⟨i1, i2⟩ := vl_good hz a h
    simp only [List.nil_append] at i1 i2
    simp only [List.nil_append, lastP_nil, vl, ll, ha, if_false, if_true, i1, i2]
    simp
  | cons e t ih =>
    intro a ha h
    obtain ⟨h0, h1, h2⟩ := h
    obtain ⟨i1, i2⟩ := ih e.2 h0 h2
    simp only [List.cons_append, lastP_cons, vl, ll, h0, h1, if_false, i1, i2, List.length_cons]
    refine ⟨trivial, by omega⟩
/-- A node's places. -/
def Nd.sl (n : Nd) : List (Int × Int) := [(n.k0, n.p0), (n.k1, n.p1), (n.k2, n.p2), (n.k3, n.p3), (n.k4, n.p4), (n.k5, n.p5), (n.k6, n.p6), (n.k7, n.p7)]
theorem Nd.sl_at (n : Nd) {i : Nat} (hi : i < 8) : n.sl.getD i (0, 0) = n.ent i := by
  rcases lt8 hi with rfl | rfl | rfl | rfl | rfl | rfl | rfl | rfl <;> rfl
theorem Nd.len_ll (n : Nd) : n.len = ll n.sl := by
  have h8 : ll n.sl ≤ 8 := ll_le n.sl
  refine n.len_eq h8 (fun i hi => ?_) (fun h => ?_)
  · have := ll_before n.sl i hi
    rw [n.sl_at (by omega)] at this
    exact this
  · have := ll_at n.sl h
    rw [n.sl_at h] at this
    exact this
theorem Nd.ok_sl (n : Nd) {i : Nat} (hi : i < 8) : n.ok i = ((n.sl.getD i (0, 0)).2 != ahL n.fi n.sl i) := by
  unfold Nd.ok Nd.ahd ahL
  rw [n.sl_at hi]
  cases i with
  | zero => rfl
  | succ i => rw [if_neg (by omega), if_neg (by omega), Nat.add_sub_cancel, n.sl_at (show i < 8 by omega)]; rfl
theorem Nd.es_vl (n : Nd) : n.es = vl n.fi n.sl := by
  rw [vl_range, ← n.len_ll]
  unfold Nd.es Nd.vp Nd.vpTo
  have h8 := n.len_le
  rw [List.filter_congr (fun i hi => n.ok_sl (i := i) (by rw [List.mem_range] at hi; omega))]
  apply List.map_congr_left
  intro i hi
  rw [List.mem_filter, List.mem_range] at hi
  exact (n.sl_at (by omega)).symm
/-- A node that is whole: its entries, and what stands behind them. -/
structure SW (n : Nd) (E Z : List (Int × Int)) : Prop where
  sl : n.sl = E ++ Z
  z : Zok Z
  good : Good n.fi E
theorem SW.es {n : Nd} {E Z : List (Int × Int)} (h : SW n E Z) : n.es = E := by rw [n.es_vl, h.sl]; exact (vl_good h.z _ h.good).1
theorem SW.len {n : Nd} {E Z : List (Int × Int)} (h : SW n E Z) : n.len = E.length := by rw [n.len_ll, h.sl]; exact (vl_good h.z _ h.good).2
/-- A node with one entry that is not valid. -/
structure SG (n : Nd) (A B Z : List (Int × Int)) (x : Int) : Prop where
  sl : n.sl = A ++ (x, lastP n.fi A) :: (B ++ Z)
  z : Zok Z
  good : Good n.fi (A ++ B)
  fi : n.fi ≠ 0
theorem SG.es {n : Nd} {A B Z : List (Int × Int)} {x : Int} (h : SG n A B Z x) : n.es = A ++ B := by rw [n.es_vl, h.sl]; exact (vl_gap h.z _ h.fi h.good).1
theorem SG.len {n : Nd} {A B Z : List (Int × Int)} {x : Int} (h : SG n A B Z x) : n.len = A.length + B.length + 1 := by rw [n.len_ll, h.sl]; exact (vl_gap h.z _ h.fi h.good).2
/-- A list whose first places are all valid. -/
theorem good_of : ∀ (l : List (Int × Int)) (a : Int), (∀ i, i < ll l → (l.getD i (0, 0)).2 ≠ ahL a l i) → ∃ E Z, l = E ++ Z ∧ Zok Z ∧ Good a E
  | [], a, _ => ⟨[], [], rfl, Or.inl rfl, trivial⟩
  | e :: t, a, h => by
    by_cases h0 : e.2 = 0
    · refine ⟨[], e :: t, rfl, Or.inr ⟨e.1, t, ?_⟩, trivial⟩
      rw [← h0]
    · have hll : ll (e :: t) = ll t + 1 := by rw [ll, if_neg h0]
      obtain ⟨E, Z, h1, h2, h3⟩ := good_of t e.2 (fun i hi => by
        have := h (i + 1) (by omega)
        cases i with
        | zero => simpa [ahL] using this
        | succ i => simpa [ahL] using this)
      refine ⟨e :: E, Z, by rw [h1]; rfl, h2, h0, ?_, h3⟩
      have := h 0 (by omega)
      simpa [ahL] using this
theorem Nd.inv_neg (n : Nd) (h : n.inv = -1) : ∀ i, i < n.len → n.ok i = true := by
  intro i hi
  unfold Nd.inv at h
  split at h
  · rename_i j hj
    omega
  · rename_i hn
    rw [List.find?_range_eq_none] at hn
    simpa using hn i hi
theorem Nd.whole (n : Nd) (h : n.inv = -1) : ∃ E Z, SW n E Z := by
  have h8 := n.len_le
  obtain ⟨E, Z, h1, h2, h3⟩ := good_of n.sl n.fi (fun i hi => by
    rw [← n.len_ll] at hi
    have := n.inv_neg h i hi
    rw [n.ok_sl (by omega)] at this
    simpa using this)
  exact ⟨E, Z, h1, h2, h3⟩
def Nd.setK (n : Nd) (i : Nat) (x : Int) : Nd := match i with
  | 0 => { n with k0 := x } | 1 => { n with k1 := x } | 2 => { n with k2 := x } | 3 => { n with k3 := x } | 4 => { n with k4 := x } | 5 => { n with k5 := x } | 6 => { n with k6 := x } | _ => { n with k7 := x }
def Nd.setP (n : Nd) (i : Nat) (x : Int) : Nd := match i with
  | 0 => { n with p0 := x } | 1 => { n with p1 := x } | 2 => { n with p2 := x } | 3 => { n with p3 := x } | 4 => { n with p4 := x } | 5 => { n with p5 := x } | 6 => { n with p6 := x } | _ => { n with p7 := x }
/-- A node behind a store. -/
def ap (base : Int) (n : Nd) (s : Int × Int) : Option Nd :=
  if s.1 = base + 8 then some { n with lo := s.2 } else if s.1 = base + 16 then some { n with nx := s.2 } else if s.1 = base + 24 then some { n with ct := s.2 } else if s.1 = base + 32 then some { n with fi := s.2 }
  else if 64 ≤ s.1 - base ∧ s.1 - base < 192 ∧ (s.1 - base) % 8 = 0 then (if (s.1 - base) % 16 = 0 then some (n.setK ((s.1 - base - 64) / 16).toNat s.2) else some (n.setP ((s.1 - base - 64) / 16).toNat s.2)) else none
/-- Stores one behind the other; of each node on the way something is true. -/
def Steps (base : Int) (P : Nd → Prop) : Nd → List (Int × Int) → Nd → Prop
  | n, [], m => P n ∧ m = n
  | n, s :: l, m => P n ∧ ∃ n', ap base n s = some n' ∧ Steps base P n' l m
theorem Steps.append {base : Int} {P : Nd → Prop} : ∀ {l1 : List (Int × Int)} {n m k : Nd} {l2 : List (Int × Int)}, Steps base P n l1 m → Steps base P m l2 k → Steps base P n (l1 ++ l2) k
  | [], n, m, k, l2, h1, h2 => by obtain ⟨_, rfl⟩ := h1; exact h2
  | s :: l1, n, m, k, l2, h1, h2 => by
    obtain ⟨hp, n', ha, h1⟩ := h1
    exact ⟨hp, n', ha, Steps.append h1 h2⟩
theorem Steps.first {base : Int} {P : Nd → Prop} {l : List (Int × Int)} {n m : Nd} (h : Steps base P n l m) : P n := by cases l <;> exact h.1
theorem Steps.last {base : Int} {P : Nd → Prop} : ∀ {l : List (Int × Int)} {n m : Nd}, Steps base P n l m → P m
  | [], n, m, h => by obtain ⟨h, rfl⟩ := h; exact h
  | s :: l, n, m, h => by obtain ⟨_, n', _, h⟩ := h; exact h.last
theorem Steps.mono {base : Int} {P P' : Nd → Prop} (hP : ∀ n, P n → P' n) : ∀ {l : List (Int × Int)} {n m : Nd}, Steps base P n l m → Steps base P' n l m
  | [], n, m, h => ⟨hP _ h.1, h.2⟩
  | s :: l, n, m, h => ⟨hP _ h.1, by obtain ⟨_, n', ha, h⟩ := h; exact ⟨n', ha, Steps.mono hP h⟩⟩
/-- What a change leaves. -/
structure Kept (n m : Nd) : Prop where
  l : m.l = n.l
  lo : m.lo = n.lo
  fi : m.fi = n.fi
theorem Kept.refl (n : Nd) : Kept n n := ⟨rfl, rfl, rfl⟩
theorem Kept.trans {a b c : Nd} (h : Kept a b) (k : Kept b c) : Kept a c := ⟨k.l.trans h.l, k.lo.trans h.lo, k.fi.trans h.fi⟩
/-- What a node must be besides its places, with these entries. -/
structure Fit (n : Nd) (E : List (Int × Int)) : Prop where
  lv : 0 ≤ n.l ∧ n.l ≤ 15
  fi : n.fi ≠ 0
  rise : riseB n.lo (decide (n.l = 0)) E = true
  unl : unlB n.fi E = true
theorem Fit.kept {n m : Nd} {E : List (Int × Int)} (h : Fit n E) (k : Kept n m) : Fit m E := by
  obtain ⟨a, b, c, d⟩ := h
  obtain ⟨k1, k2, k3⟩ := k
  exact ⟨by rw [k1]; exact a, by rw [k3]; exact b, by rw [k2, k1]; exact c, by rw [k3]; exact d⟩
theorem Fit.may {n : Nd} {E : List (Int × Int)} (h : Fit n E) (he : n.es = E) (hl : n.len ≤ E.length + 1) : n.may 0 false = true := by
  unfold Nd.may
  rw [he]
  simp [h.lv.1, h.lv.2, h.fi, h.rise, h.unl, hl]
/-- A node that may be, and has just these entries. -/
def Has (E : List (Int × Int)) (n : Nd) : Prop := n.may 0 false = true ∧ n.es = E
theorem SW.has {n : Nd} {E Z : List (Int × Int)} (h : SW n E Z) (f : Fit n E) : Has E n := ⟨f.may h.es (by rw [h.len]; omega), h.es⟩
theorem SG.has {n : Nd} {A B Z : List (Int × Int)} {x : Int} (h : SG n A B Z x) (f : Fit n (A ++ B)) : Has (A ++ B) n := ⟨f.may h.es (by rw [h.len]; simp), h.es⟩
theorem unlB_iff (f : Int) (l : List (Int × Int)) : unlB f l = true ↔ (f :: l.map (·.2)).Nodup := by simp [unlB]
theorem good_of_unl {a : Int} : ∀ {l : List (Int × Int)}, (a :: l.map (·.2)).Nodup → (∀ e ∈ l, e.2 ≠ 0) → Good a l
  | [], _, _ => trivial
  | e :: t, h, hz => by
    rw [List.map_cons, List.nodup_cons, List.mem_cons] at h
    exact ⟨hz e (by simp), fun hh => h.1 (Or.inl hh.symm), good_of_unl h.2 (fun x hx => hz x (by simp [hx]))⟩
theorem Fit.good {n : Nd} {E : List (Int × Int)} (h : Fit n E) (hz : ∀ e ∈ E, e.2 ≠ 0) : Good n.fi E := good_of_unl ((unlB_iff _ _).1 h.unl) hz
end Go.Proofs.YtiefgmibgdidpaaGreatDoor
/- The document's Invalid: of any node; without conditions. -/
namespace Go.Proofs.YtiefgmibgdidpaaGreatDoor
open Go.RowKit
set_option linter.unusedVariables false
end Go.Proofs.YtiefgmibgdidpaaGreatDoor
