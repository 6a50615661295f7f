/- Texts of this claim, packed: N8Act, N8Inv, N8RefF, N8RefI, N8RefL. -/
import Derived.Test.YtbadlmicbbjkaaaPe05
import Derived.Test.YtbadlmicbbjkaaaPe09
/- Active, Valid: a node's valid entries below a bound, in new memory; of any node, any bound; without conditions. -/
namespace Go.Proofs.Ytbadlmicbbjkaaa
open Go.RowKit Go.Shelf
set_option linter.unusedVariables false
attribute [local go_sem] Oper.semAt_some

theorem ownS_cells {w : World} {B s n g : Nat} {e : TypeId} {v : Value} {xs : List Value} (h : w.ownsRow B e s v n xs) (hg : v.ownBlock = some g) : ∃ cs t, w.heap[g]? = some (.cells cs t (0, 0)) := by
  rcases h.2 with ⟨rfl, _⟩ | ⟨g', cap, cur, rfl, _, hh, _⟩
  · cases hg
  · have : g' = g := by injection hg
    subst this
    exact ⟨_, _, hh⟩
theorem ownS_grown {w w' : World} {B s n : Nat} {e : TypeId} {v : Value} {xs : List Value} {row : Option Nat} (h : w.ownsRow B e s v n xs) (hg : w.grownBy w' row) (hr : ∀ q, row = some q → ∃ o : Obj, w.heap[q]? = some o ∧ o.isCells = false) : w'.ownsRow B e s v n xs := by
  refine ⟨h.1, ?_⟩
  rcases h.2 with h0 | ⟨g, cap, cur, rfl, hb, hh, hrest⟩
  · exact .inl h0
  · refine .inr ⟨g, cap, cur, rfl, hb, (hg.block g (Array.getElem?_eq_some_iff.1 hh).1 ?_).trans hh, hrest⟩
    intro e
    obtain ⟨o, ho, hc⟩ := hr g e.symm
    rw [hh] at ho
    cases ho
    cases hc
theorem ownS_from {w : World} {B s n : Nat} {e : TypeId} {v : Value} {xs : List Value} (h : w.ownsRow B e s v n xs) : ∀ k, v.ownBlock = some k → B ≤ k ∧ k < w.heap.size := by
  intro k hk
  rcases h.2 with ⟨rfl, _⟩ | ⟨g', cap, cur, rfl, hb, hh, _⟩
  · cases hk
  · have : g' = k := by injection hk
    subst this
    exact ⟨hb, (Array.getElem?_eq_some_iff.1 hh).1⟩
theorem ownS_set {w : World} {B s n : Nat} {e : TypeId} {v : Value} {xs : List Value} (h : w.ownsRow B e s v n xs) {p : Addr} (hne : ∀ g, v.ownBlock = some g → g ≠ p.block) (u : Value) : (w.setCell p u).ownsRow B e s v n xs := by
  refine ⟨h.1, ?_⟩
  rcases h.2 with h0 | ⟨g, cap, cur, rfl, hg, hh, hr⟩
  · exact .inl h0
  · exact .inr ⟨g, cap, cur, rfl, hg, (heap_setCell_other w p g u (hne g rfl)).trans hh, hr⟩
theorem ownS_mono {w : World} {B B' s n : Nat} {e : TypeId} {v : Value} {xs : List Value} (h : w.ownsRow B e s v n xs) (hb : B' ≤ B) : w.ownsRow B' e s v n xs := by
  refine ⟨h.1, ?_⟩
  rcases h.2 with h0 | ⟨g, cap, cur, rfl, hg, hr⟩
  · exact .inl h0
  · exact .inr ⟨g, cap, cur, rfl, Nat.le_trans hb hg, hr⟩
theorem ownS_low {w w' : World} {B s n : Nat} {e : TypeId} {v : Value} {xs : List Value} (h : w.ownsRow B e s v n xs) (hb : Below w.heap.size w w') : w'.ownsRow B e s v n xs := ownS_grown h (low_grown hb) (fun q e => by cases e)
/-- Entries, as they lie. -/
def flatE (l : List (Int × Int)) : List Value := l.flatMap fun e => [uw e.1, uw e.2]
theorem flatE_len (l : List (Int × Int)) : (flatE l).length = 2 * l.length := by
  induction l with
  | nil => rfl
  | cons a t ih =>
    have : flatE (a :: t) = uw a.1 :: uw a.2 :: flatE t := rfl
    rw [this, List.length_cons, List.length_cons, List.length_cons, ih]
    omega
theorem flatE_snoc (l : List (Int × Int)) (e : Int × Int) : flatE (l ++ [e]) = flatE l ++ [uw e.1, uw e.2] := by simp [flatE]
theorem flatE_at : ∀ (l : List (Int × Int)) (i : Nat) (e : Int × Int), l[i]? = some e → (flatE l)[i * 2]? = some (uw e.1) ∧ (flatE l)[i * 2 + 1]? = some (uw e.2)
  | [], i, e, h => by simp at h
  | a :: t, 0, e, h => by
    simp only [List.getElem?_cons_zero, Option.some.injEq] at h
    subst h
    exact ⟨rfl, rfl⟩
  | a :: t, i + 1, e, h => by
    simp only [List.getElem?_cons_succ] at h
    have := flatE_at t i e h
    rw [show (i + 1) * 2 = i * 2 + 2 by omega]
    exact this
/-- The valid entries below a bound. -/
def Nd.ent (n : Nd) (p : Nat) : Int × Int := (n.key p, n.ptr p)
def Nd.inB (n : Nd) (high : Int) (has : Bool) (p : Nat) : Bool := !has || decide (n.key p < high)
def actL (n : Nd) (high : Int) (has : Bool) (l : List Nat) : List (Int × Int) := (l.filter (n.inB high has)).map n.ent
theorem actL_yes {n : Nd} {high : Int} {has : Bool} {l : List Nat} {x : Nat} (h : n.inB high has x = true) : actL n high has (l ++ [x]) = actL n high has l ++ [n.ent x] := by simp [actL, h]
theorem actL_no {n : Nd} {high : Int} {has : Bool} {l : List Nat} {x : Nat} (h : n.inB high has x = false) : actL n high has (l ++ [x]) = actL n high has l := by simp [actL, h]
theorem actL_len (n : Nd) (high : Int) (has : Bool) (l : List Nat) : (actL n high has l).length ≤ l.length := by
  unfold actL
  rw [List.length_map]
  exact List.length_filter_le _ _
def Nd.act (n : Nd) (high : Int) (has : Bool) : List (Int × Int) := actL n high has n.vp
/-- All valid entries. -/
def Nd.es (n : Nd) : List (Int × Int) := n.vp.map n.ent
theorem act_all (n : Nd) (high : Int) : n.act high false = n.es := by
  unfold Nd.act actL Nd.es
  congr 1
  exact List.filter_eq_self.2 fun p _ => rfl
theorem Nd.es_len (n : Nd) : n.es.length ≤ 8 := by unfold Nd.es; rw [List.length_map]; exact n.vp_length
theorem Nd.act_len (n : Nd) (high : Int) (has : Bool) : (n.act high has).length ≤ 8 := Nat.le_trans (actL_len _ _ _ _) n.vp_length
def ActI (w : World) (n : Nd) (high : Int) (has : Bool) (q : Nat) (pre : List Nat) (W : World) : Prop :=
  w.heap.size + 5 ≤ q ∧ w.heap.size + 5 ≤ W.heap.size ∧ Row W (w.heap.size + 1) 22 #[.int .u64 high] ∧ Row W (w.heap.size + 1 + 1) 4 #[.bool has] ∧ Below w.heap.size w W ∧
  ∃ v, Row W (w.heap.size + 1 + 1 + 1) 39 #[v] ∧ W.ownsRow (w.heap.size + 5) 67 2 v (actL n high has pre).length (flatE (actL n high has pre)) ∧ ∀ g, v.ownBlock = some g → g < q
theorem infoEntry : (Try.prog.info? 67).map (fun i => (i.zero, i.size, i.bytes)) = some (some (.agg #[.int .u64 0, .int .u64 0]), 2, 16) := by kernel_rfl
set_option maxRecDepth 100000 in
set_option maxHeartbeats 4000000 in
theorem nActive_any (n : Nd) (high : Int) (has : Bool) (w : World) : Calls Try.prog 50 #[n.V, .int .u64 high, .bool has] w fun e W' =>
    (∃ v, e = .returned v ∧ W'.ownsRow w.heap.size 67 2 v (n.act high has).length (flatE (n.act high has))) ∧ Below w.heap.size w W' := by
  obtain ⟨i0, hi, hz0, hz1, hz2⟩ := info_parts infoEntry
  obtain ⟨Wx, hWx⟩ : ∃ Wx, Wx = (((w.alloc (.cells n.cl.toArray 27)).alloc (.cells #[.int .u64 high] 22)).alloc (.cells #[.bool has] 4)).alloc (.cells #[.slice none 0 0] 39) := ⟨_, rfl⟩
  have hsx : Wx.heap.size = w.heap.size + 4 := by rw [hWx]; simp
  have hbx : Below w.heap.size w Wx := by rw [hWx]; exact low_and (low_and (low_and (alloc_low _ _) (alloc_low _ _)) (alloc_low _ _)) (alloc_low _ _)
  have r0 : NdAt Wx w.heap.size n := by rw [hWx]; exact (((Row.new _ _ _).alloc _).alloc _).alloc _
  have r1 : Row Wx (w.heap.size + 1) 22 #[.int .u64 high] := by
    rw [hWx]
    have := Row.new (w.alloc (.cells n.cl.toArray 27)) 22 #[.int .u64 high]
    simp only [World.size_alloc] at this
    exact (this.alloc _).alloc _
  have r2 : Row Wx (w.heap.size + 1 + 1) 4 #[.bool has] := by
    rw [hWx]
    have := Row.new ((w.alloc (.cells n.cl.toArray 27)).alloc (.cells #[.int .u64 high] 22)) 4 #[.bool has]
    simp only [World.size_alloc] at this
    exact this.alloc _
  have r3 : Row Wx (w.heap.size + 1 + 1 + 1) 39 #[.slice none 0 0] := by
    rw [hWx]
    have := Row.new (((w.alloc (.cells n.cl.toArray 27)).alloc (.cells #[.int .u64 high] 22)).alloc (.cells #[.bool has] 4)) 39 #[.slice none 0 0]
    simpa only [World.size_alloc] using this
  have HWx := Lib.hid hWx
  have HR0 := Lib.hid r0
  clear hWx r0
  refine (callsIn_wide (n := 6)).1 ?_
  refine callsIn_of_wp_marks Try.func50 rfl trivial ?_ rfl
  simp only [Try.ntmps50, List.size_toArray, List.length_cons, List.length_nil, Nat.reduceAdd, Nat.reduceSub, Array.replicate_succ, Array.replicate_zero, List.push_toArray, List.append_toArray, List.nil_append, List.cons_append]
  gi_wp2_with (first | (rw [← HWx.out]; refine wpListIn_load_mid (fun _ => trivial) rfl _ _ rfl w.heap.size 0 rfl n.cl _ (ndR HR0.out) Try.underlying27 rfl ndI ?_) | (refine ⟨trivial, ?_⟩; gi_at_call 48; refine (callsIn_wide.2 (valid_any n _)).mono ?_; rintro e w' ⟨rfl, rfl⟩))
  obtain ⟨W0, hW0⟩ : ∃ W0, W0 = Wx.alloc (.cells n.cl.toArray 27) := ⟨_, rfl⟩
  have h4 : NdAt W0 (w.heap.size + 4) n := by
    rw [hW0]
    have := Row.new Wx 27 n.cl.toArray
    rwa [hsx] at this
  have hb0 : Below Wx.heap.size Wx W0 := by rw [hW0]; exact alloc_low _ _
  have hs0 : W0.heap.size = w.heap.size + 5 := by rw [hW0]; simp [hsx]
  have f1 := Row.below r1 hb0 r1.lt
  have f2 := Row.below r2 hb0 r2.lt
  have f3 := Row.below r3 hb0 r3.lt
  have hbW : Below w.heap.size w W0 := low_and hbx hb0
  rw [← hW0]
  have hI0 : ActI w n high has W0.heap.size [] W0 := ⟨by omega, by omega, f1, f2, hbW, _, f3, World.ownsRow_nil _ _ _ _, fun g hg => by cases hg⟩
  clear hW0 r1 r2 r3 hb0 hbx HWx HR0 hbW hsx f1 f2 f3
  refine range_Q rfl (by omega) (gf := 68) (lb := #[.pointer (some ⟨w.heap.size + 4, 0, none⟩)]) rfl trivial (enters_of Try.func68 (by kernel_rfl) rfl) (bx := w.heap.size + 4) (by omega) (valid1_seq h4) (fun _ => rfl)
    (ActI w n high has) (fun pre W => False)
    (fun q s A B row hs hg hr => by
      obtain ⟨h1, h2, h3, h4, h5, v, h6, h7, h8⟩ := hs
      exact ⟨h1, Nat.le_trans h2 hg.size, h3.grown hg (fun e => by have := (hr _ e.symm).1; omega), h4.grown hg (fun e => by have := (hr _ e.symm).1; omega), h5.grown hg h5.size (fun k e => by have := (hr k e).1; omega), v, h6.grown hg (fun e => by have := (hr _ e.symm).1; omega), ownS_grown h7 hg (fun k e => (hr k e).2), h8⟩)
    (fun s A B row hs hg hr => hs)
    hI0
    (fun x V => { tmps := #[n.V, .int .u64 high, .bool has, .pointer (some ⟨w.heap.size, 0, none⟩), .pointer (some ⟨w.heap.size + 1, 0, none⟩), .pointer (some ⟨w.heap.size + 1 + 1, 0, none⟩), .slice none 0 0, .pointer (some ⟨w.heap.size + 1 + 1 + 1, 0, none⟩), undef, .pointer (some ⟨V.heap.size, 0, none⟩), .agg n.cl.toArray, .func (.func 68) #[] #[.pointer (some ⟨w.heap.size + 4, 0, none⟩)], .int .i64 (x : Int), .agg #[.int .u64 (n.key x), .int .u64 (n.ptr x)], undef, undef, undef, undef, undef, undef, undef, undef, undef, undef, undef, undef, undef], defers := [] })
    (fun x V => V.alloc (.cells #[.int .u64 (n.key x), .int .u64 (n.ptr x)] 67)) (fun x V => alloc_low _ _) ?assign ?body ?done ?stop
  case assign =>
    intro l x W K hK
    dsimp only [enc8N]
    gi_wp2
    exact hK
  case body =>
    rintro l q r pre x V W hx8 ⟨hq4, hWs, g1, g2, hB, v, g3, hown, hob⟩ hqr hrV hsz hcells hlen
    have hE : Row W V.heap.size 67 #[.int .u64 (n.key x), .int .u64 (n.ptr x)] := hcells _ _ rfl (Row.new V 67 _)
    obtain ⟨vs, hvs⟩ : ∃ vs, vs = V.heap.size := ⟨_, rfl⟩
    rw [← hvs] at hE hrV
    simp only [World.size_alloc] at hsz
    rw [← hvs] at hsz
    rw [← hvs]
    have e0 := hE.cell 0
    have e1 := hE.cell 1
    simp only [List.getElem?_toArray, List.getElem?_cons_succ, List.getElem?_cons_zero] at e0 e1
    have c1 := g1.cell 0
    have c2 := g2.cell 0
    have c3 := g3.cell 0
    simp only [List.getElem?_toArray, List.getElem?_cons_zero] at c1 c2 c3
    have hyes := actL_yes (n := n) (high := high) (has := has) (l := pre) (x := x)
    have hno := actL_no (n := n) (high := high) (has := has) (l := pre) (x := x)
    have hin : n.inB high has x = (!has || decide (n.key x < high)) := rfl
    have hent : n.ent x = (n.key x, n.ptr x) := rfl
    obtain ⟨k, hk⟩ : ∃ k, k = n.key x := ⟨_, rfl⟩
    obtain ⟨y, hy⟩ : ∃ y, y = n.ptr x := ⟨_, rfl⟩
    rw [← hk, ← hy] at hE hent
    rw [← hk] at e0 hin
    rw [← hy] at e1
    rw [← hk, ← hy]
    obtain ⟨L, hL⟩ : ∃ L, L = actL n high has pre := ⟨_, rfl⟩
    rw [← hL] at hyes hno hown
    have hLl : L.length < 8 := by rw [hL]; exact Nat.lt_of_le_of_lt (actL_len _ _ _ _) hlen
    obtain ⟨m, hm⟩ : ∃ m, m = L.length := ⟨_, rfl⟩
    rw [← hm] at hown hLl
    have HY := Lib.hid hyes
    have HNo := Lib.hid hno
    have HIn := Lib.hid hin
    have HEnt := Lib.hid hent
    have HLd := Lib.hid hL
    have HMd := Lib.hid hm
    have G1 := Lib.hid g1
    have G2 := Lib.hid g2
    have G3 := Lib.hid g3
    have HB := Lib.hid hB
    have HOWN := Lib.hid hown
    have HOB := Lib.hid hob
    have a1 : m + 1 ≤ maxLen := by unfold maxLen; omega
    have a2 : (m + 1) * 16 ≤ 140737488355328 := by omega
    have hobn : ∀ g, v.ownBlock = some g → w.heap.size + 5 ≤ g := fun g hg => (ownS_from hown g hg).1
    have HOBN := Lib.hid hobn
    have HQW := Lib.hid (show q ≤ W.heap.size by omega)
    clear hvs hcells hE hk hy hB h4 hI0 hyes hno hent hL hm g1 g2 g3 hown hob hobn hsz hrV
    cases has with
    | false =>
      have HIN := Lib.hid (show n.inB high false x = true from rfl)
      gi_wp2_with (gi_at_builtin; refine wpListIn_append_own _ rfl _ _ 39 rfl (w.heap.size + 5) 67 i0 (.agg #[.int .u64 0, .int .u64 0]) 2 16 Try.underlying39 hi hz0 hz1 hz2 rfl (by decide) _ m _ rfl (HOWN.out.alloc _) ⟨W.heap.size, 0, none⟩ 1 1 [.int .u64 k, .int .u64 y] rfl rfl ?q1 ?q2 ?q3 ?q4 ?q5 ?_)
      case q1 =>
        have hr := Row.new W 67 #[.int .u64 k, .int .u64 y]
        intro j u hj
        rw [Addr.add_lit, hr.cell, Nat.zero_add]
        simpa using hj
      case q2 => simp [Value.oneCell']
      case q3 => exact a1
      case q4 => exact a2
      case q5 => simp; omega
      intro v' w1 hown' hgrow _
      obtain ⟨g', cap', rfl⟩ := ownsRow_succ hown'
      have r3 := (G3.out.alloc (.cells #[.int .u64 k, .int .u64 y] 67)).grown hgrow (fun e => by have := HOBN.out _ e.symm; omega)
      have cc := r3.cell 0
      have zz := r3.free 0
      have R3 := Lib.hid r3
      simp only [List.getElem?_toArray, List.getElem?_cons_zero] at cc
      clear r3
      gi_wp2
      have hsz1 := hgrow.size
      have hg' := ownS_from hown' g' rfl
      have hne : ∀ b, b < w.heap.size + 5 → some b ≠ v.ownBlock := fun b hb e => by have := HOBN.out _ e.symm; omega
      have hkeep : ∀ b, b < W.heap.size → some b ≠ v.ownBlock → b ≠ w.heap.size + 1 + 1 + 1 → (w1.setCell ⟨w.heap.size + 1 + 1 + 1, 0, none⟩ (.slice (some ⟨g', 0, none⟩) (m + 1) cap')).heap[b]? = W.heap[b]? := fun b hb hn hn' => by
        rw [heap_setCell_other _ _ _ _ hn', hgrow.block b (by simp; omega) hn]
        exact Below.heap_alloc W _ b hb
      simp only [World.size_alloc] at hsz1
      refine ⟨⟨by simp; omega, fun b o hb ho => ?_⟩, hkeep _ (by omega) (hne _ (by omega)) (by omega), fun o _ ho => ?_, w1.heap.size, by simp, by omega, by simp; omega, ?_, ?_, ?_, _, R3.out.set 0 _, ?_, fun g hg => ?_⟩
      · have hbl := (Array.getElem?_eq_some_iff.1 hb).1
        refine (hkeep b hbl (fun e => ?_) (fun e => ?_)).trans hb
        · obtain ⟨cs, t, h5⟩ := ownS_cells HOWN.out e.symm
          rw [h5] at hb
          cases hb
          cases ho
        · subst e
          rw [show W.heap[w.heap.size + 1 + 1 + 1]? = _ from G3.out] at hb
          cases hb
          cases ho
      · have hrl := (Array.getElem?_eq_some_iff.1 ho).1
        exact (hkeep r hrl (fun e => by have := HOB.out r e.symm; omega) (by omega)).trans ho
      · exact (hkeep _ G1.out.lt (hne _ (by omega)) (by omega)).trans G1.out
      · exact (hkeep _ G2.out.lt (hne _ (by omega)) (by omega)).trans G2.out
      · exact ((HB.out.alloc (by omega) _).grown hgrow (by simp; omega) (fun b hb => by have := HOBN.out b hb; omega)).setCell (p := ⟨w.heap.size + 1 + 1 + 1, 0, none⟩) (by dsimp only; omega) _
      · rw [HY.out HIN.out, HEnt.out, flatE_snoc, List.length_append, ← HMd.out]
        exact ownS_set hown' (p := ⟨w.heap.size + 1 + 1 + 1, 0, none⟩) (fun g hg => by cases hg; dsimp only; omega) _
      · cases hg
        exact hg'.2
    | true =>
      obtain hkh | hkh : k < high ∨ ¬ k < high := by omega
      · have HIN := Lib.hid (show n.inB high true x = true by rw [HIn.out]; simp [hkh])
        gi_wp2_with (gi_at_builtin; refine wpListIn_append_own _ rfl _ _ 39 rfl (w.heap.size + 5) 67 i0 (.agg #[.int .u64 0, .int .u64 0]) 2 16 Try.underlying39 hi hz0 hz1 hz2 rfl (by decide) _ m _ rfl (HOWN.out.alloc _) ⟨W.heap.size, 0, none⟩ 1 1 [.int .u64 k, .int .u64 y] rfl rfl ?q1 ?q2 ?q3 ?q4 ?q5 ?_)
        case q1 =>
          have hr := Row.new W 67 #[.int .u64 k, .int .u64 y]
          intro j u hj
          rw [Addr.add_lit, hr.cell, Nat.zero_add]
          simpa using hj
        case q2 => simp [Value.oneCell']
        case q3 => exact a1
        case q4 => exact a2
        case q5 => simp; omega
        intro v' w1 hown' hgrow _
        obtain ⟨g', cap', rfl⟩ := ownsRow_succ hown'
        have r3 := (G3.out.alloc (.cells #[.int .u64 k, .int .u64 y] 67)).grown hgrow (fun e => by have := HOBN.out _ e.symm; omega)
        have cc := r3.cell 0
        have zz := r3.free 0
        have R3 := Lib.hid r3
        simp only [List.getElem?_toArray, List.getElem?_cons_zero] at cc
        clear r3
        gi_wp2
        have hsz1 := hgrow.size
        have hg' := ownS_from hown' g' rfl
        have hne : ∀ b, b < w.heap.size + 5 → some b ≠ v.ownBlock := fun b hb e => by have := HOBN.out _ e.symm; omega
        have hkeep : ∀ b, b < W.heap.size → some b ≠ v.ownBlock → b ≠ w.heap.size + 1 + 1 + 1 → (w1.setCell ⟨w.heap.size + 1 + 1 + 1, 0, none⟩ (.slice (some ⟨g', 0, none⟩) (m + 1) cap')).heap[b]? = W.heap[b]? := fun b hb hn hn' => by
          rw [heap_setCell_other _ _ _ _ hn', hgrow.block b (by simp; omega) hn]
          exact Below.heap_alloc W _ b hb
        simp only [World.size_alloc] at hsz1
        refine ⟨⟨by simp; omega, fun b o hb ho => ?_⟩, hkeep _ (by omega) (hne _ (by omega)) (by omega), fun o _ ho => ?_, w1.heap.size, by simp, by omega, by simp; omega, ?_, ?_, ?_, _, R3.out.set 0 _, ?_, fun g hg => ?_⟩
        · have hbl := (Array.getElem?_eq_some_iff.1 hb).1
          refine (hkeep b hbl (fun e => ?_) (fun e => ?_)).trans hb
          · obtain ⟨cs, t, h5⟩ := ownS_cells HOWN.out e.symm
            rw [h5] at hb
            cases hb
            cases ho
          · subst e
            rw [show W.heap[w.heap.size + 1 + 1 + 1]? = _ from G3.out] at hb
            cases hb
            cases ho
        · have hrl := (Array.getElem?_eq_some_iff.1 ho).1
          exact (hkeep r hrl (fun e => by have := HOB.out r e.symm; omega) (by omega)).trans ho
        · exact (hkeep _ G1.out.lt (hne _ (by omega)) (by omega)).trans G1.out
        · exact (hkeep _ G2.out.lt (hne _ (by omega)) (by omega)).trans G2.out
        · exact ((HB.out.alloc (by omega) _).grown hgrow (by simp; omega) (fun b hb => by have := HOBN.out b hb; omega)).setCell (p := ⟨w.heap.size + 1 + 1 + 1, 0, none⟩) (by dsimp only; omega) _
        · rw [HY.out HIN.out, HEnt.out, flatE_snoc, List.length_append, ← HMd.out]
          exact ownS_set hown' (p := ⟨w.heap.size + 1 + 1 + 1, 0, none⟩) (fun g hg => by cases hg; dsimp only; omega) _
        · cases hg
          exact hg'.2
      · have HIN := Lib.hid (show n.inB high true x = false by rw [HIn.out]; simp; omega)
        gi_wp2
        refine ⟨KeepsOthers.refl _, rfl, fun o _ ho => ho, q, HQW.out, hq4, hWs, G1.out, G2.out, HB.out, v, G3.out, ?_, HOB.out⟩
        rw [HNo.out HIN.out, ← HMd.out]
        exact HOWN.out
  case done =>
    rintro D q xs W hD rfl ⟨hq4, hWs, g1, g2, hB, v, g3, hown, hob⟩ hK
    have c3 := g3.cell 0
    simp only [List.getElem?_toArray, List.getElem?_cons_zero] at c3
    have HOWN := Lib.hid (show W.ownsRow (w.heap.size + 5) 67 2 v (n.act high has).length (flatE (n.act high has)) from hown)
    have HB := Lib.hid hB
    clear hown g1 g2 g3 hob h4 hI0 hB
    gi_wp2
    refine ⟨by simp, .inl ⟨_, _, rfl, run_takeDeferred hK, ?_⟩⟩
    exact ⟨_, results_tmp rfl _ _ _, ⟨v, rfl, ownS_mono (ownS_grown HOWN.out (grownBy_putObj' W D (.deferred none)) (fun q e => by cases e; exact ⟨_, hK, rfl⟩)) (by omega)⟩, HB.out.trans (belowK_b (w := w) (Nat.le_refl _) W D _ _ (by omega) hK rfl rfl)⟩
  case stop => exact fun _ _ _ _ _ h => h.elim
set_option maxRecDepth 100000 in
set_option maxHeartbeats 1600000 in
theorem nValid_any (n : Nd) (w : World) : Calls Try.prog 23 #[n.V] w fun e W' => (∃ v, e = .returned v ∧ W'.ownsRow w.heap.size 67 2 v n.es.length (flatE n.es)) ∧ Below w.heap.size w W' := by
  have R0 := Lib.hid (Row.new w 27 n.cl.toArray)
  have HA := nActive_any n 0 false (w.alloc (.cells n.cl.toArray 27))
  rw [act_all] at HA
  have HA := Lib.hid HA
  go_enter Try.func23, Try.ntmps23
  go_wp2_with (first | (refine wpList_load_mid rfl _ _ rfl w.heap.size 0 rfl n.cl _ (ndR R0.out) Try.underlying27 rfl ndI ?_) | (go_at_call 50; refine HA.out.mono ?_; rintro e w' ⟨⟨v, rfl, ho⟩, hb⟩))
  go_ret
  exact ⟨⟨v, rfl, ownS_mono ho (by simp)⟩, low_and (alloc_low _ _) hb⟩
end Go.Proofs.Ytbadlmicbbjkaaa
/- Invalid: the first place of an entry that is not valid; of any node; without conditions. -/
namespace Go.Proofs.Ytbadlmicbbjkaaa
open Go.RowKit Go.Shelf
set_option linter.unusedVariables false
attribute [local go_sem] Oper.semAt_some

/-- The first place of an entry that is not valid. -/
def Nd.inv (n : Nd) : Int := match (List.range n.len).find? (fun i => !n.ok i) with | some i => (i : Int) | none => -1
theorem Nd.inv_at (n : Nd) {m : Nat} (hm : m < n.len) (hno : n.ok m = false) (hall : ∀ i, i < m → n.ok i = true) : n.inv = (m : Int) := by
  have : (List.range n.len).find? (fun i => !n.ok i) = some m := by
    rw [List.find?_range_eq_some]
    exact ⟨by simp [hno], by simpa using hm, fun j hj => by simp [hall j hj]⟩
  unfold Nd.inv
  rw [this]
theorem Nd.inv_none (n : Nd) (hall : ∀ i, i < n.len → n.ok i = true) : n.inv = -1 := by
  have : (List.range n.len).find? (fun i => !n.ok i) = none := by
    rw [List.find?_range_eq_none]
    exact fun j hj => by simp [hall j hj]
  unfold Nd.inv
  rw [this]
theorem Nd.vp_sorted (n : Nd) : n.vp.Pairwise (· < ·) := List.pairwise_lt_range.filter _
theorem Nd.mem_vp (n : Nd) {p : Nat} : p ∈ n.vp ↔ p < n.len ∧ n.ok p = true := by simp [Nd.vp, Nd.vpTo]
theorem inv_stop {n : Nd} {m p : Nat} (h : List.range m ++ [p] <+: n.vp) (hp : p ≠ m) : n.inv = (m : Int) := by
  obtain ⟨r, hr⟩ := h
  have hs := n.vp_sorted
  rw [← hr, List.append_assoc, List.pairwise_append] at hs
  obtain ⟨_, hs2, hs3⟩ := hs
  have hpv := (n.mem_vp (p := p)).1 (by rw [← hr]; simp)
  have hall : ∀ i, i < m → n.ok i = true := fun i hi => ((n.mem_vp (p := i)).1 (by rw [← hr]; simp [hi])).2
  have hpm : m < p := by
    by_cases e : p < m
    · exact absurd (hs3 p (by simpa using e) p (by simp)) (by omega)
    · omega
  refine n.inv_at (by omega) ?_ hall
  by_cases e : n.ok m = true
  · have hm : m ∈ n.vp := n.mem_vp.2 ⟨by omega, e⟩
    rw [← hr, List.append_assoc, List.mem_append] at hm
    rcases hm with hm | hm
    · simp at hm
    · rcases List.mem_cons.1 hm with hm | hm
      · omega
      · have := (List.pairwise_cons.1 hs2).1 m hm
        omega
  · simpa using e
theorem inv_done {n : Nd} {m : Nat} (h : n.vp = List.range m) : (m < n.len → n.inv = (m : Int)) ∧ (n.len ≤ m → n.inv = -1) := by
  have hm : ∀ i, i < m ↔ (i < n.len ∧ n.ok i = true) := fun i => by rw [← n.mem_vp, h]; simp
  constructor
  · intro hl
    refine n.inv_at hl ?_ fun i hi => ((hm i).1 hi).2
    by_cases e : n.ok m = true
    · exact absurd ((hm m).2 ⟨hl, e⟩) (by omega)
    · simpa using e
  · intro hl
    exact n.inv_none fun i hi => ((hm i).1 (by omega)).2
set_option maxRecDepth 100000 in
set_option maxHeartbeats 4000000 in
theorem nInv_any (n : Nd) (w : World) : Calls Try.prog 22 #[n.V] w fun e W' => e = .returned (.int .i64 n.inv) ∧ Below w.heap.size w W' := by
  obtain ⟨Wx, hWx⟩ : ∃ Wx, Wx = ((w.alloc (.cells n.cl.toArray 27)).alloc (.cells #[.int .i64 0] 3)).alloc (.cells #[.int .i64 0] 3) := ⟨_, rfl⟩
  have hsx : Wx.heap.size = w.heap.size + 3 := by rw [hWx]; simp
  have hbx : Below w.heap.size w Wx := by rw [hWx]; exact low_and (low_and (alloc_low _ _) (alloc_low _ _)) (alloc_low _ _)
  have r0 : NdAt Wx w.heap.size n := by rw [hWx]; exact ((Row.new _ _ _).alloc _).alloc _
  have r1 : Row Wx (w.heap.size + 1) 3 #[.int .i64 0] := by
    rw [hWx]
    have := Row.new (w.alloc (.cells n.cl.toArray 27)) 3 #[.int .i64 0]
    simp only [World.size_alloc] at this
    exact this.alloc _
  have r2 : Row Wx (w.heap.size + 1 + 1) 3 #[.int .i64 0] := by
    rw [hWx]
    have := Row.new ((w.alloc (.cells n.cl.toArray 27)).alloc (.cells #[.int .i64 0] 3)) 3 #[.int .i64 0]
    simpa only [World.size_alloc] using this
  have HWx := Lib.hid hWx
  have HR0 := Lib.hid r0
  clear hWx
  refine (callsIn_wide (n := 6)).1 ?_
  refine callsIn_of_wp_marks Try.func22 rfl trivial ?_ rfl
  simp only [Try.ntmps22, List.size_toArray, List.length_cons, List.length_nil, Nat.reduceAdd, Nat.reduceSub, Array.replicate_succ, Array.replicate_zero, List.push_toArray, List.append_toArray, List.nil_append, List.cons_append]
  gi_wp2_with (first | (rw [← HWx.out]; refine wpListIn_load_mid (fun _ => trivial) rfl _ _ rfl w.heap.size 0 rfl n.cl _ (ndR HR0.out) Try.underlying27 rfl ndI ?_) | (refine ⟨trivial, ?_⟩; gi_at_call 48; refine (callsIn_wide.2 (valid_any n _)).mono ?_; rintro e w' ⟨rfl, rfl⟩))
  obtain ⟨W0, hW0⟩ : ∃ W0, W0 = Wx.alloc (.cells n.cl.toArray 27) := ⟨_, rfl⟩
  have h4 : NdAt W0 (w.heap.size + 3) n := by
    rw [hW0]
    have := Row.new Wx 27 n.cl.toArray
    rwa [hsx] at this
  have hb0 : Below Wx.heap.size Wx W0 := by rw [hW0]; exact alloc_low _ _
  have hs0 : W0.heap.size = w.heap.size + 4 := by rw [hW0]; simp [hsx]
  have f0 := Row.below r0 hb0 r0.lt
  have f1 := Row.below r1 hb0 r1.lt
  have f2 := Row.below r2 hb0 r2.lt
  have hbW : Below w.heap.size w W0 := low_and hbx hb0
  rw [← hW0]
  have FB := Lib.hid hbW
  clear hW0 r1 r2 hb0 hbx HWx HR0 hbW hsx r0
  refine range_Q rfl (by omega) (gf := 68) (lb := #[.pointer (some ⟨w.heap.size + 3, 0, none⟩)]) rfl trivial (enters_of Try.func68 (by kernel_rfl) rfl) (bx := w.heap.size + 3) (by omega) (valid1_seq h4) (fun _ => rfl)
    (fun q pre W => w.heap.size + 4 ≤ q ∧ w.heap.size + 4 ≤ W.heap.size ∧ NdAt W w.heap.size n ∧ Row W (w.heap.size + 1) 3 #[.int .i64 0] ∧ Row W (w.heap.size + 1 + 1) 3 #[.int .i64 (pre.length : Int)] ∧ pre = List.range pre.length ∧ Below w.heap.size w W)
    (fun pre W => ∃ (m p : Nat), pre = List.range m ++ [p] ∧ p ≠ m ∧ W.cell? ⟨w.heap.size + 1, 0, none⟩ = some (.int .i64 (m : Int)) ∧ Below w.heap.size w W)
    (fun q s A B row hs hg hr => ⟨hs.1, Nat.le_trans hs.2.1 hg.size, hs.2.2.1.grown hg (fun e => by have := (hr _ e.symm).1; omega), hs.2.2.2.1.grown hg (fun e => by have := (hr _ e.symm).1; omega), hs.2.2.2.2.1.grown hg (fun e => by have := (hr _ e.symm).1; omega), hs.2.2.2.2.2.1, hs.2.2.2.2.2.2.grown hg hs.2.2.2.2.2.2.size (fun k e => by have := (hr k e).1; omega)⟩)
    (fun s A B row hs hg hr => by
      obtain ⟨m, p, a1, a2, a3, a4⟩ := hs
      exact ⟨m, p, a1, a2, cell_kept a3 hg (fun r e => (hr r e).2), a4.grown hg a4.size (fun k e => by have := (hr k e).1; omega)⟩)
    ⟨by omega, by omega, f0, f1, f2, rfl, FB.out⟩
    (fun x V => { tmps := #[n.V, .pointer (some ⟨w.heap.size, 0, none⟩), .pointer (some ⟨w.heap.size + 1, 0, none⟩), .pointer (some ⟨w.heap.size + 1 + 1, 0, none⟩), .int .i64 (x : Int), .agg n.cl.toArray, .func (.func 68) #[] #[.pointer (some ⟨w.heap.size + 3, 0, none⟩)], .int .i64 (x : Int), .agg #[.int .u64 (n.key x), .int .u64 (n.ptr x)], undef, undef, undef, undef, undef, undef, undef, undef, undef, undef, undef], defers := [] })
    (fun x V => V) (fun x V => Below.refl _ _) ?assign ?body ?done ?stop
  case assign =>
    intro l x W K hK
    dsimp only [enc8N]
    gi_wp2
    exact hK
  case body =>
    rintro l q r pre x V W hx8 ⟨hq4, hWs, g0, g1, g2, hpre, hB⟩ hqr hrV hsz hcells hlen
    obtain ⟨m, hm⟩ : ∃ m, m = pre.length := ⟨_, rfl⟩
    rw [← hm] at g2 hpre hlen
    have c1 := g1.cell 0
    have c2 := g2.cell 0
    have z1 := g1.free 0
    have z2 := g2.free 0
    simp only [List.getElem?_toArray, List.getElem?_cons_zero] at c1 c2
    have G0 := Lib.hid g0
    have G1 := Lib.hid g1
    have G2 := Lib.hid g2
    have HB := Lib.hid hB
    have HP := Lib.hid hpre
    have HM := Lib.hid hm
    clear g0 g1 g2 hB hpre hm hcells h4 f0 f1 f2
    obtain rfl | hne : x = m ∨ x ≠ m := by omega
    · gi_wp2
      refine ⟨KeepsOthers.setCell _ _ _, heap_setCell_other _ _ _ _ (by dsimp only; omega), fun o _ ho => (heap_setCell_other _ _ _ _ (by dsimp only; omega)).trans ho, W.heap.size, by simp, by omega, by simpa using hWs, G0.out.other (by dsimp only; omega) _, G1.out.other (by dsimp only; omega) _, ?_, ?_, HB.out.setCell (p := ⟨w.heap.size + 1 + 1, 0, none⟩) (by simp; omega) _⟩
      · have := G2.out.set 0 (.int .i64 ((x : Int) + 1))
        rw [List.length_append, List.length_singleton, ← HM.out]
        simpa using this
      · rw [List.length_append, List.length_singleton, ← HM.out, List.range_succ, ← HP.out]
    · have hne' : ((x : Int) != (m : Int)) = true := by simp; omega
      gi_wp2
      refine ⟨KeepsOthers.setCell _ _ _, m, x, by rw [HP.out], hne, ?_, HB.out.setCell (p := ⟨w.heap.size + 1, 0, none⟩) (by simp) _⟩
      exact (G1.out.set 0 (.int .i64 (m : Int))).cell 0
  case done =>
    rintro D q xs W hD hxs ⟨hq4, hWs, g0, g1, g2, hpre, hB⟩ hK
    obtain ⟨m, hm⟩ : ∃ m, m = xs.length := ⟨_, rfl⟩
    rw [← hm] at g2 hpre
    have HI := Lib.hid (inv_done (n := n) (m := m) (by rw [← hxs]; exact hpre))
    have HLn := Lib.hid (len_any n W)
    have c1 := g1.cell 0
    have c2 := g2.cell 0
    have z1 := g1.free 0
    have z2 := g2.free 0
    simp only [List.getElem?_toArray, List.getElem?_cons_zero] at c1 c2
    have G0 := Lib.hid g0
    have G1 := Lib.hid g1
    have HB := Lib.hid hB
    have hm8 : m ≤ 8 := by have := n.vp_length; rw [hm, hxs]; exact this
    have hl8 := n.len_le
    have z2' : ∀ p : LowBy W, p.W.cell? ⟨w.heap.size + 1 + 1, 0, none⟩ = some (.int .i64 (m : Int)) := fun p => p.cell c2
    have hR := Lib.hid (fun (w' : World) (h : ∃ p : LowBy W, w' = p.W) => (show w'.rangeAt w.heap.size 0 n.cl by obtain ⟨p, rfl⟩ := h; exact ndR (G0.out.below p.low G0.out.lt)))
    have hC := Lib.hid (fun (p : LowBy W) => Calls.low_of (len_any n p.W))
    clear g0 g1 g2 hB hpre hm hxs h4 f0 f1 f2
    gi_wp2
    refine wpIn_wide.2 ?_
    refine wp_region_quiet_low (by kernel_rfl) (by kernel_rfl) ?_
    repeat (first | go_big_quiet_skip | (go_big_quiet_want; first | (refine quiet_load_mid 27 _ rfl w.heap.size 0 rfl n.cl _ hR.out Try.underlying27 rfl ndI ?_; simp only [Act.put, List.setIfInBounds_toArray, List.set_cons_succ, List.set_cons_zero]; go_big_quiet_on) | (go_big_quiet_op; first | go_big_quiet_on | go_big_quiet_call ((go_at_call 49; with_reducible exact hC.out _)))))
    refine wpQuiet_nil ?_
    intro _ hw'
    obtain ⟨p, hw''⟩ := hw'
    subst hw''
    have r1 := G1.out.below p.low G1.out.lt
    have c2 := p.cell c2
    have c1 := r1.cell 0
    have z1 := r1.free 0
    have hKp : p.W.heap[D]? = some (.deferred (some [])) := (p.low.block _ (Array.getElem?_eq_some_iff.1 hK).1).trans hK
    have HBp := Lib.hid (HB.out.trans (p.low.mono (show w.heap.size ≤ W.heap.size by omega)))
    have R1 := Lib.hid r1
    simp only [List.getElem?_toArray, List.getElem?_cons_zero] at c1
    clear r1 hK z2' hR hC HLn z2
    generalize p.W = Wp at *
    obtain hlt | hge : (m : Int) < (n.len : Int) ∨ ¬ (m : Int) < (n.len : Int) := by omega
    · have HE := Lib.hid (HI.out.1 (by omega))
      gi_wp2
      have hK' := (KeepsOthers.setCell Wp ⟨w.heap.size + 1, 0, none⟩ (.int .i64 (m : Int))).same D _ hKp rfl
      refine ⟨by simp, .inl ⟨_, _, rfl, run_takeDeferred hK', ?_⟩⟩
      have h0 := cell_kept ((R1.out.set 0 (.int .i64 (m : Int))).cell 0) (grownBy_putObj' _ D (.deferred none)) (fun r e => by cases e; exact ⟨_, hK', rfl⟩)
      refine ⟨.int .i64 (m : Int), ?_, by rw [HE.out], (HBp.out.setCell (p := ⟨w.heap.size + 1, 0, none⟩) (by dsimp only; omega) _).trans (belowK_b (w := w) (Nat.le_refl _) _ D _ _ (by omega) hK' rfl rfl)⟩
      simp [results, Try.f22, go_sem, h0]
    · have HE := Lib.hid (HI.out.2 (by omega))
      gi_wp2
      have hK' := (KeepsOthers.setCell Wp ⟨w.heap.size + 1, 0, none⟩ (.int .i64 (-1))).same D _ hKp rfl
      refine ⟨by simp, .inl ⟨_, _, rfl, run_takeDeferred hK', ?_⟩⟩
      have h0 := cell_kept ((R1.out.set 0 (.int .i64 (-1))).cell 0) (grownBy_putObj' _ D (.deferred none)) (fun r e => by cases e; exact ⟨_, hK', rfl⟩)
      refine ⟨.int .i64 (-1), ?_, by rw [HE.out], (HBp.out.setCell (p := ⟨w.heap.size + 1, 0, none⟩) (by dsimp only; omega) _).trans (belowK_b (w := w) (Nat.le_refl _) _ D _ _ (by omega) hK' rfl rfl)⟩
      simp [results, Try.f22, go_sem, h0]
  case stop =>
    rintro D pre W hD hpre ⟨m, p, rfl, hne, hc, hB⟩ hK
    have HE := Lib.hid (inv_stop hpre hne)
    clear h4 f0 f1 f2
    gi_wp2
    refine ⟨by simp, .inl ⟨_, _, rfl, run_takeDeferred hK, ?_⟩⟩
    have hk0 := cell_kept hc (grownBy_putObj' _ D (.deferred none)) (fun r e => by cases e; exact ⟨_, hK, rfl⟩)
    refine ⟨.int .i64 (m : Int), ?_, by rw [HE.out], hB.trans (belowK_b (w := w) (Nat.le_refl _) W D _ _ (by omega) hK rfl rfl)⟩
    simp [results, Try.f22, go_sem, hk0]
end Go.Proofs.Ytbadlmicbbjkaaa
/- The document's Find and Last: of any node, any key; without conditions. -/
namespace Go.Proofs.Ytbadlmicbbjkaaa
open Go.RowKit
set_option linter.unusedVariables false
theorem vp_full (n : Nd) : n.vpTo n.len = n.vp := rfl
/-- The first of these places with a key; below nought: none. -/
def fndL (n : Nd) (key : Int) (l : List Nat) : Int := match l.find? (fun p => n.key p == key) with | some p => (p : Int) | none => -1
theorem fnd_hit {n : Nd} {key : Int} {i : Nat} (hi : i < n.len) (ho : n.ok i = true) (hk : n.key i = key) (h : ∀ p ∈ n.vpTo i, n.key p ≠ key) : fndL n key n.vp = (i : Int) := by
  obtain ⟨r, hr⟩ := n.vpTo_pre (show i + 1 ≤ n.len from hi)
  unfold fndL
  rw [← vp_full, ← hr, n.vpTo_yes ho, List.find?_append, List.find?_append, List.find?_eq_none.2 (fun y hy => by simpa using h y hy)]
  simp [hk]
theorem fnd_none {n : Nd} {key : Int} (h : ∀ p ∈ n.vp, n.key p ≠ key) : fndL n key n.vp = -1 := by
  unfold fndL
  rw [List.find?_eq_none.2 (fun y hy => by simpa using h y hy)]
set_option maxRecDepth 100000 in
set_option maxHeartbeats 4000000 in
theorem r8Find_any (n : Nd) (key : Int) (w : World) : Calls Try.prog 62 #[n.V, .int .u64 key] w fun e w' => e = .returned (.int .i64 (fndL n key n.vp)) ∧ Below w.heap.size w w' := by
  have r0 := Row.new w 27 n.cl.toArray
  obtain ⟨Wa, hWa⟩ : ∃ Wa, Wa = w.alloc (.cells n.cl.toArray 27) := ⟨_, rfl⟩
  rw [← hWa] at r0
  have HB0 := Lib.hid (show Below w.heap.size w Wa by rw [hWa]; exact alloc_low _ _)
  have HRR := Lib.hid (fun W' (hb : Below Wa.heap.size Wa W') => (show NdAt W' w.heap.size n from r0.below hb r0.lt))
  have HWa := Lib.hid hWa
  have HL := Lib.hid (fun W' => r8Len_any n W')
  have hln := n.len_le
  obtain ⟨F, hF⟩ : ∃ F, F = fndL n key n.vp := ⟨_, rfl⟩
  rw [← hF]
  have HF := Lib.hid hF
  clear r0 hWa hF
  go_enter Try.func62, Try.ntmps62
  go_wp2_with fail
  rw [← HWa.out]
  go_loopw [5] (fun i wr => ∃ k : Nat, k ≤ n.len ∧ i = .int .i64 (k : Int) ∧ (∀ p ∈ n.vpTo k, n.key p ≠ key) ∧ Below Wa.heap.size Wa wr) (fun i _ => n.len - (intOf i).toNat)
  case atStart => exact ⟨0, by omega, rfl, by simp [Nd.vpTo_zero], Below.refl _ _⟩
  case round =>
    rename World => wr
    obtain ⟨k, hk, rfl, hne, hb⟩ := hrel
    have HNE := Lib.hid hne
    have HBW := Lib.hid (low_and HB0.out hb)
    clear hne
    by_cases hlt : k < n.len
    · have hk8 : (k : Int) < 8 := by omega
      have HI := Lib.hid (fun W' => r8Is_any n W' (i := k) (by omega))
      have HKy := Lib.hid (fun W' (hb : Below Wa.heap.size Wa W') => ndAt_key (HRR.out W' hb) (i := k) (by omega))
      have HSt := Lib.hid (n.vpTo_succ k)
      obtain ⟨y, hy⟩ : ∃ y, y = n.key k := ⟨_, rfl⟩
      rw [← hy] at HKy
      have HY := Lib.hid hy
      obtain ⟨ob, hob⟩ : ∃ ob, ob = n.ok k := ⟨_, rfl⟩
      rw [← hob] at HI HSt
      have HOb := Lib.hid hob
      clear hy hob
      cases ob with
      | false =>
        go_wp2_with (first
          | (refine wpList_load_mid rfl _ _ rfl w.heap.size 0 rfl n.cl _ (ndR (HRR.out _ (by assumption))) Try.underlying27 rfl ndI ?_)
          | (go_at_call 39; refine (HL.out _).mono ?_; rintro e w2 ⟨rfl, hb2⟩; have hb2 := low_and hb hb2)
          | (go_at_call 41; refine (HI.out _).mono ?_; rintro e w3 ⟨rfl, hb3⟩; have hb3 := low_and hb2 hb3))
        exact ⟨⟨k + 1, by omega, by go_num, by rw [HSt.out]; simpa using HNE.out, hb3⟩, by simp [intOf]; omega⟩
      | true =>
        obtain hyk | hyk : y = key ∨ y ≠ key := by omega
        · subst hyk
          go_wp2_with (first
            | (refine wpList_load_mid rfl _ _ rfl w.heap.size 0 rfl n.cl _ (ndR (HRR.out _ (by assumption))) Try.underlying27 rfl ndI ?_)
            | (go_at_call 39; refine (HL.out _).mono ?_; rintro e w2 ⟨rfl, hb2⟩; have hb2 := low_and hb hb2)
            | (go_at_call 41; refine (HI.out _).mono ?_; rintro e w3 ⟨rfl, hb3⟩; have hb3 := low_and hb2 hb3; have ck := HKy.out _ hb3))
          go_ret
          exact ⟨by rw [HF.out, fnd_hit hlt HOb.out.symm HY.out.symm HNE.out]; rfl, low_and HB0.out hb3⟩
        · have hyb : (y == key) = false := by simpa using hyk
          go_wp2_with (first
            | (refine wpList_load_mid rfl _ _ rfl w.heap.size 0 rfl n.cl _ (ndR (HRR.out _ (by assumption))) Try.underlying27 rfl ndI ?_)
            | (go_at_call 39; refine (HL.out _).mono ?_; rintro e w2 ⟨rfl, hb2⟩; have hb2 := low_and hb hb2)
            | (go_at_call 41; refine (HI.out _).mono ?_; rintro e w3 ⟨rfl, hb3⟩; have hb3 := low_and hb2 hb3; have ck := HKy.out _ hb3))
          refine ⟨⟨k + 1, by omega, by go_num, ?_, hb3⟩, by simp [intOf]; omega⟩
          rw [HSt.out]
          intro p hp
          rcases List.mem_append.1 hp with h | h
          · exact HNE.out p h
          · simp at h
            subst h
            rw [← HY.out]
            exact hyk
    · obtain rfl : k = n.len := by omega
      go_wp2_with (first
        | (refine wpList_load_mid rfl _ _ rfl w.heap.size 0 rfl n.cl _ (ndR (HRR.out _ (by assumption))) Try.underlying27 rfl ndI ?_)
        | (go_at_call 39; refine (HL.out _).mono ?_; rintro e w2 ⟨rfl, hb2⟩; have hb2 := low_and hb hb2))
      go_ret
      exact ⟨by rw [HF.out, fnd_none HNE.out]; rfl, low_and HB0.out hb2⟩
end Go.Proofs.Ytbadlmicbbjkaaa
/- The document's Invalid: of any node; without conditions. -/
namespace Go.Proofs.Ytbadlmicbbjkaaa
open Go.RowKit
set_option linter.unusedVariables false
set_option maxRecDepth 100000 in
set_option maxHeartbeats 4000000 in
theorem r8Inv_any (n : Nd) (w : World) : Calls Try.prog 18 #[n.V] w fun e w' => e = .returned (.int .i64 n.inv) ∧ Below w.heap.size w w' := by
  have r0 := Row.new w 27 n.cl.toArray
  obtain ⟨Wa, hWa⟩ : ∃ Wa, Wa = w.alloc (.cells n.cl.toArray 27) := ⟨_, rfl⟩
  rw [← hWa] at r0
  have HB0 := Lib.hid (show Below w.heap.size w Wa by rw [hWa]; exact alloc_low _ _)
  have HRR := Lib.hid (fun W' (hb : Below Wa.heap.size Wa W') => (show NdAt W' w.heap.size n from r0.below hb r0.lt))
  have HWa := Lib.hid hWa
  have HL := Lib.hid (fun W' => r8Len_any n W')
  have hln := n.len_le
  have HIA := Lib.hid (fun m (hm : m < n.len) ho ha => n.inv_at (m := m) hm ho ha)
  have HIN := Lib.hid n.inv_none
  obtain ⟨F, hF⟩ : ∃ F, F = n.inv := ⟨_, rfl⟩
  rw [← hF] at HIA HIN
  rw [← hF]
  clear r0 hWa hF
  go_enter Try.func18, Try.ntmps18
  go_wp2_with fail
  rw [← HWa.out]
  go_loopw [3] (fun i wr => ∃ k : Nat, k ≤ n.len ∧ i = .int .i64 (k : Int) ∧ (∀ p, p < k → n.ok p = true) ∧ Below Wa.heap.size Wa wr) (fun i _ => n.len - (intOf i).toNat)
  case atStart => exact ⟨0, by omega, rfl, fun p hp => by omega, Below.refl _ _⟩
  case round =>
    rename World => wr
    obtain ⟨k, hk, rfl, hne, hb⟩ := hrel
    have HNE := Lib.hid hne
    clear hne
    by_cases hlt : k < n.len
    · have hk8 : (k : Int) < 8 := by omega
      have HI := Lib.hid (fun W' => r8Is_any n W' (i := k) (by omega))
      obtain ⟨ob, hob⟩ : ∃ ob, ob = n.ok k := ⟨_, rfl⟩
      rw [← hob] at HI
      have HOb := Lib.hid hob
      clear hob
      cases ob with
      | false =>
        have HFk := Lib.hid (HIA.out k hlt HOb.out.symm HNE.out)
        go_wp2_with (first
          | (refine wpList_load_mid rfl _ _ rfl w.heap.size 0 rfl n.cl _ (ndR (HRR.out _ (by assumption))) Try.underlying27 rfl ndI ?_)
          | (go_at_call 39; refine (HL.out _).mono ?_; rintro e w2 ⟨rfl, hb2⟩; have hb2 := low_and hb hb2)
          | (go_at_call 41; refine (HI.out _).mono ?_; rintro e w3 ⟨rfl, hb3⟩; have hb3 := low_and hb2 hb3))
        go_ret
        exact ⟨by rw [HFk.out]; rfl, low_and HB0.out hb3⟩
      | true =>
        go_wp2_with (first
          | (refine wpList_load_mid rfl _ _ rfl w.heap.size 0 rfl n.cl _ (ndR (HRR.out _ (by assumption))) Try.underlying27 rfl ndI ?_)
          | (go_at_call 39; refine (HL.out _).mono ?_; rintro e w2 ⟨rfl, hb2⟩; have hb2 := low_and hb hb2)
          | (go_at_call 41; refine (HI.out _).mono ?_; rintro e w3 ⟨rfl, hb3⟩; have hb3 := low_and hb2 hb3))
        refine ⟨⟨k + 1, by omega, by go_num, fun p hp => ?_, hb3⟩, by simp [intOf]; omega⟩
        rcases Nat.lt_or_eq_of_le (Nat.le_of_lt_succ hp) with h | rfl
        · exact HNE.out p h
        · exact HOb.out.symm
    · obtain rfl : k = n.len := by omega
      have HFk := Lib.hid (HIN.out HNE.out)
      go_wp2_with (first
        | (refine wpList_load_mid rfl _ _ rfl w.heap.size 0 rfl n.cl _ (ndR (HRR.out _ (by assumption))) Try.underlying27 rfl ndI ?_)
        | (go_at_call 39; refine (HL.out _).mono ?_; rintro e w2 ⟨rfl, hb2⟩; have hb2 := low_and hb hb2))
      go_ret
      exact ⟨by rw [HFk.out]; rfl, low_and HB0.out hb2⟩
end Go.Proofs.Ytbadlmicbbjkaaa
/- The document's Last: of any node, any key; without conditions. -/
namespace Go.Proofs.Ytbadlmicbbjkaaa
open Go.RowKit
set_option linter.unusedVariables false
set_option maxRecDepth 100000 in
set_option maxHeartbeats 4000000 in
theorem r8Last_any (n : Nd) (key : Int) (w : World) : Calls Try.prog 63 #[n.V, .int .u64 key] w fun e w' => e = .returned (.int .i64 ((n.at key : Int) - 1)) ∧ Below w.heap.size w w' := by
  have r0 := Row.new w 27 n.cl.toArray
  obtain ⟨Wa, hWa⟩ : ∃ Wa, Wa = w.alloc (.cells n.cl.toArray 27) := ⟨_, rfl⟩
  rw [← hWa] at r0
  have HB0 := Lib.hid (show Below w.heap.size w Wa by rw [hWa]; exact alloc_low _ _)
  have HRR := Lib.hid (fun W' (hb : Below Wa.heap.size Wa W') => (show NdAt W' w.heap.size n from r0.below hb r0.lt))
  have HWa := Lib.hid hWa
  have HL := Lib.hid (fun W' => r8Len_any n W')
  have hln := n.len_le
  clear r0 hWa
  go_enter Try.func63, Try.ntmps63
  go_wp2_with fail
  rw [← HWa.out]
  go_loopw [5, 6] (fun u i wr => ∃ (k : Nat) (a : Int), k ≤ n.len ∧ i = .int .i64 (k : Int) ∧ u = .int .i64 a ∧ a = (atL n key (n.vpTo k) : Int) - 1 ∧ Below Wa.heap.size Wa wr) (fun _ i _ => n.len - (intOf i).toNat)
  case atStart => exact ⟨0, -1, by omega, rfl, rfl, rfl, Below.refl _ _⟩
  case round =>
    rename World => wr
    obtain ⟨k, a, hk, rfl, rfl, ha, hb⟩ := hrel
    have HAa := Lib.hid ha
    clear ha
    by_cases hlt : k < n.len
    · have hk8 : (k : Int) < 8 := by omega
      have HI := Lib.hid (fun W' => r8Is_any n W' (i := k) (by omega))
      have HKy := Lib.hid (fun W' (hb : Below Wa.heap.size Wa W') => ndAt_key (HRR.out W' hb) (i := k) (by omega))
      have HSt := Lib.hid (n.vpTo_succ k)
      have HSn := Lib.hid (atL_snoc n key (n.vpTo k) k)
      obtain ⟨y, hy⟩ : ∃ y, y = n.key k := ⟨_, rfl⟩
      rw [← hy] at HKy HSn
      obtain ⟨ob, hob⟩ : ∃ ob, ob = n.ok k := ⟨_, rfl⟩
      rw [← hob] at HI HSt
      clear hy hob
      cases ob with
      | false =>
        go_wp2_with (first | (refine wpList_load_mid rfl _ _ rfl w.heap.size 0 rfl n.cl _ (ndR (HRR.out _ (by assumption))) Try.underlying27 rfl ndI ?_) | (go_at_call 39; refine (HL.out _).mono ?_; rintro e w2 ⟨rfl, hb2⟩; have hb2 := low_and hb hb2) | (go_at_call 41; refine (HI.out _).mono ?_; rintro e w3 ⟨rfl, hb3⟩; have hb3 := low_and hb2 hb3; have ck := HKy.out _ hb3))
        exact ⟨⟨k + 1, a, by omega, by go_num, rfl, by rw [HSt.out, HAa.out]; simp, hb3⟩, by simp [intOf]; omega⟩
      | true =>
        obtain hyk | hyk : y ≤ key ∨ ¬ y ≤ key := by omega
        · go_wp2_with (first | (refine wpList_load_mid rfl _ _ rfl w.heap.size 0 rfl n.cl _ (ndR (HRR.out _ (by assumption))) Try.underlying27 rfl ndI ?_) | (go_at_call 39; refine (HL.out _).mono ?_; rintro e w2 ⟨rfl, hb2⟩; have hb2 := low_and hb hb2) | (go_at_call 41; refine (HI.out _).mono ?_; rintro e w3 ⟨rfl, hb3⟩; have hb3 := low_and hb2 hb3; have ck := HKy.out _ hb3))
          exact ⟨⟨k + 1, (k : Int), by omega, by go_num, rfl, by rw [HSt.out, if_pos trivial, HSn.out, if_pos hyk]; omega, hb3⟩, by simp [intOf]; omega⟩
        · go_wp2_with (first | (refine wpList_load_mid rfl _ _ rfl w.heap.size 0 rfl n.cl _ (ndR (HRR.out _ (by assumption))) Try.underlying27 rfl ndI ?_) | (go_at_call 39; refine (HL.out _).mono ?_; rintro e w2 ⟨rfl, hb2⟩; have hb2 := low_and hb hb2) | (go_at_call 41; refine (HI.out _).mono ?_; rintro e w3 ⟨rfl, hb3⟩; have hb3 := low_and hb2 hb3; have ck := HKy.out _ hb3))
          exact ⟨⟨k + 1, a, by omega, by go_num, rfl, by rw [HSt.out, if_pos trivial, HSn.out, if_neg (by omega)]; exact HAa.out, hb3⟩, by simp [intOf]; omega⟩
    · obtain rfl : k = n.len := by omega
      go_wp2_with (first | (refine wpList_load_mid rfl _ _ rfl w.heap.size 0 rfl n.cl _ (ndR (HRR.out _ (by assumption))) Try.underlying27 rfl ndI ?_) | (go_at_call 39; refine (HL.out _).mono ?_; rintro e w2 ⟨rfl, hb2⟩; have hb2 := low_and hb hb2))
      go_ret
      exact ⟨by rw [HAa.out]; rfl, low_and HB0.out hb2⟩
end Go.Proofs.Ytbadlmicbbjkaaa
