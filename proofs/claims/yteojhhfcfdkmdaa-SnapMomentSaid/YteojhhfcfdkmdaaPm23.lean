/- Texts of this claim, packed: PNew. -/
import Derived.Test.YteojhhfcfdkmdaaPm14
import Derived.Deep.RegionHeld3
import Derived.Deep.DrawnRows
import Derived.Carry
import Derived.IntWalk
set_option linter.unusedSimpArgs false
set_option linter.unusedVariables false
/- New: which sizes are refused; else a memory of noughts, in new blocks. For every size. -/
namespace Go.Proofs.Yteojhhfcfdkmdaa
open Go.RowKit
set_option linter.unusedVariables false
attribute [local go_sem ↓] Go.wp_at_zero Go.wp_at_succ
theorem info22 : (Try.prog.info? 22).map (fun i => (i.zero, i.size, i.bytes)) = some (some (.int .u64 0), 1, 8) := by kernel_rfl
theorem info60 : (Try.prog.info? 60).map (fun i => (i.zero, i.size, i.bytes)) = some (some (.slice none 0 0), 1, 24) := by kernel_rfl

/-- May a memory have so many bytes? -/
def mayB (z : Int) : Bool := decide (64 ≤ z ∧ z ≤ 1048576 ∧ z % 64 = 0)

theorem new_no (z : Int) (w : World) (h : mayB z = false) : Calls Try.prog 19 #[.int .i64 z] w fun e w' => e = .returned (.tuple #[.pointer none, .int .i64 2]) ∧ w = w' := by
  have h' : ¬ (64 ≤ z ∧ z ≤ 1048576 ∧ z % 64 = 0) := by simpa [mayB] using h
  by_cases h1 : z < 64
  · clear h h'
    go_enter Try.func19, Try.ntmps19
    go_wp2
    go_ret2
    exact ⟨rfl, rfl⟩
  · by_cases h2 : 1048576 < z
    · clear h h'
      go_enter Try.func19, Try.ntmps19
      go_wp2
      go_ret2
      exact ⟨rfl, rfl⟩
    · have h3 : z % 64 ≠ 0 := by omega
      have h4 : ((z % 64) != 0) = true := by simpa using h3
      have h0 : 0 ≤ z := by omega
      clear h h' h3
      go_enter Try.func19, Try.ntmps19
      go_wp2
      go_ret2
      exact ⟨rfl, rfl⟩
/-- The state of a new memory. -/
def St.zero (nl : Nat) : St := ⟨nl, List.replicate (8 * nl) 0, List.replicate (8 * nl) 0, List.replicate nl [], fun _ _ => 0, 0, 0, 0, 0⟩
theorem rowAt {w : World} {t : TypeId} {cs : Array Value} {k : Nat} (h : k = w.heap.size) : Row (w.alloc (.cells cs t)) k t cs := by
  subst h
  exact Row.new w t cs
theorem mapAt {w : World} {es : Array MapEntry} {c k : Nat} (h : k = w.heap.size) : (w.alloc (.map es c)).heap[k]? = some (.map es c) := by
  subst h
  exact heap_alloc_new w _
theorem heapAlloc {w : World} {k : Nat} {x : Obj} (h : w.heap[k]? = some x) (o : Obj) : (w.alloc o).heap[k]? = some x :=
  (Below.heap_alloc w o k (Array.getElem?_eq_some_iff.1 h).1).trans h
theorem madeCells_one (z : Value) (n : Nat) : madeCells #[z] n = (List.replicate n z).toArray := by
  apply Array.ext'
  rw [toList_madeCells_one]
def NewPost (nl : Nat) (w : World) (e : Ending) (w' : World) : Prop :=
  ∃ y : Lay, e = .returned (.tuple #[.pointer (some ⟨y.g, 0, none⟩), .int .i64 0]) ∧ MemAt w' y (St.zero nl) ∧ (∀ k, y.fp k → w.heap.size ≤ k) ∧ Below w.heap.size w w'
theorem newPost_mk {nl N : Nat} {w w' : World} {g gl gv gp mb : Nat} (hN : N = 8 * nl) (h0 : 0 < nl) (h1 : nl ≤ 16384)
    (hr : Row w' g 97 #[.slice (some ⟨gl, 0, none⟩) N N, .slice (some ⟨gv, 0, none⟩) N N, .slice (some ⟨gp, 0, none⟩) nl nl, .map (some mb), wv 0, wv 0, wv 0, wv 0])
    (hl : Row w' gl 22 (madeCells #[.int .u64 0] N)) (hv : Row w' gv 22 (madeCells #[.int .u64 0] N))
    (hp : Row w' gp 60 (madeCells #[.slice none 0 0] nl)) (hm : w'.heap[mb]? = some (.map #[] 0)) (hne : gl ≠ gv)
    (b1 : w.heap.size ≤ g ∧ w.heap.size ≤ gl ∧ w.heap.size ≤ gv ∧ w.heap.size ≤ gp ∧ w.heap.size ≤ mb) (hb : Below w.heap.size w w') :
    NewPost nl w (.returned (.tuple #[.pointer (some ⟨g, 0, none⟩), .int .i64 0])) w' := by
  subst hN
  rw [madeCells_one] at hl hv hp
  have mx : 8 * nl ≤ maxLen ∧ nl ≤ maxLen := by unfold maxLen; omega
  have own : ∀ (G n : Nat) (t : TypeId) (z : Value), n ≤ maxLen → Row w' G t (List.replicate n z).toArray → w'.ownsRow 0 t 1 (.slice (some ⟨G, 0, none⟩) n n) n (List.replicate n z) := by
    intro G n t z hn hR
    exact ⟨by simp, .inr ⟨G, n, _, rfl, Nat.zero_le _, hR, Nat.le_refl _, hn, by simp, by simp⟩⟩
  have hps : ∀ (j : Nat) (v : Value), (List.replicate nl (Value.slice none 0 0))[j]? = some v → v = .slice none 0 0 := by
    intro j v h
    exact List.eq_of_mem_replicate (List.mem_of_getElem? h)
  have hpe : ∀ (j : Nat) (l : List (Nat × Nat)), (List.replicate nl ([] : List (Nat × Nat)))[j]? = some l → l = [] := by
    intro j v h
    exact List.eq_of_mem_replicate (List.mem_of_getElem? h)
  refine ⟨⟨g, gl, gv, gp, mb, 8 * nl, 8 * nl, nl, List.replicate nl (.slice none 0 0)⟩, rfl, ?_, ?_, hb⟩
  · refine ⟨hr, ?_, ?_, hne, own _ _ _ _ mx.2 hp, by simp [St.zero], ?_, ?_, ?_, h0, h1⟩
    · have := own _ _ _ _ mx.1 hl
      simpa [St.zero, wv] using this
    · have := own _ _ _ _ mx.1 hv
      simpa [St.zero, wv] using this
    · intro j h v l hv' hl'
      exact .inl ⟨hps j v hv', hpe j l hl'⟩
    · intro i j v u G hij hv' hu hG
      rw [hps i v hv'] at hG
      cases hG
    · refine ⟨.map [], ⟨#[], 0, hm, ⟨by simp, MapKept.stamped_empty 0, by simp⟩, Nat.le_refl _, rfl⟩, ?_, ?_, ?_⟩
      · intro k hk; cases hk
      · intro j hj
        constructor
        · intro hk; cases hk
        · rintro ⟨c, _, hc⟩
          exact absurd rfl hc
      · intro j hj z hk; cases hk
  · rintro k (rfl | rfl | rfl | rfl | rfl | ⟨j, v, hv', hk⟩)
    · exact b1.1
    · exact b1.2.1
    · exact b1.2.2.1
    · exact b1.2.2.2.1
    · exact b1.2.2.2.2
    · rw [hps j v hv'] at hk
      cases hk
theorem at5 (w : World) (a b c d e : Obj) :
    (((((w.alloc a).alloc b).alloc c).alloc d).alloc e).drew.heap[w.heap.size]? = some a ∧ (((((w.alloc a).alloc b).alloc c).alloc d).alloc e).drew.heap[w.heap.size + 1]? = some b ∧
    (((((w.alloc a).alloc b).alloc c).alloc d).alloc e).drew.heap[w.heap.size + 1 + 1]? = some c ∧ (((((w.alloc a).alloc b).alloc c).alloc d).alloc e).drew.heap[w.heap.size + 1 + 1 + 1]? = some d ∧
    (((((w.alloc a).alloc b).alloc c).alloc d).alloc e).drew.heap[w.heap.size + 1 + 1 + 1 + 1]? = some e := by
  have h : ∀ (W : World) (o : Obj) (k : Nat), k = W.heap.size → (W.alloc o).heap[k]? = some o := fun W o k e => by subst e; exact heap_alloc_new W o
  refine ⟨heapAlloc (heapAlloc (heapAlloc (heapAlloc (h _ a _ rfl) _) _) _) _, heapAlloc (heapAlloc (heapAlloc (h _ b _ ?_) _) _) _, heapAlloc (heapAlloc (h _ c _ ?_) _) _, heapAlloc (h _ d _ ?_) _, h _ e _ ?_⟩ <;> simp
theorem below5 (w : World) (a b c d e : Obj) : Below w.heap.size w (((((w.alloc a).alloc b).alloc c).alloc d).alloc e).drew :=
  Below.and (Below.and (Below.and (Below.and (Below.and (alloc_below w _) (alloc_below _ _)) (alloc_below _ _)) (alloc_below _ _)) (alloc_below _ _)) (drew_below _)
set_option maxRecDepth 100000 in
set_option maxHeartbeats 3200000 in
theorem new_yes (nl : Nat) (w : World) (h0 : 0 < nl) (h1 : nl ≤ 16384) : Calls Try.prog 19 #[.int .i64 (((64 * nl : Nat)) : Int)] w (NewPost nl w) := by
  obtain ⟨i0, hi, hz0, hz1, hz2⟩ := info_parts info22
  obtain ⟨j0, hj, hy0, hy1, hy2⟩ := info_parts info60
  have hm1 := fun W : World => run_make (P := Try.prog) W 91 22 i0 _ Try.underlying91 hi hz0 .i64 .i64 ((8 * nl : Nat) : Int) ((8 * nl : Nat) : Int) (by omega) (by omega) (by rw [hz2]; omega) (by omega)
  have hm2 := fun W : World => run_make (P := Try.prog) W 92 60 j0 _ Try.underlying92 hj hy0 .i64 .i64 ((nl : Nat) : Int) ((nl : Nat) : Int) (by omega) (by omega) (by rw [hy2]; omega) (by omega)
  have hmm := @run_makeMap Try.prog
  simp only [Int.toNat_natCast, hz1, hy1] at hm1 hm2
  obtain ⟨Z, hZ⟩ : ∃ Z, Z = 64 * nl := ⟨_, rfl⟩
  obtain ⟨N, hN⟩ : ∃ N, N = 8 * nl := ⟨_, rfl⟩
  have e1 : (Z : Int) / 8 = (N : Int) := by omega
  have e2 : (Z : Int) / 64 = (nl : Int) := by omega
  have e3 : ((Z : Int) % 64 != 0) = false := by
    have : (Z : Int) % 64 = 0 := by omega
    rw [this]; rfl
  rw [← hZ]
  rw [← hN] at hm1
  have b1 : 64 ≤ Z := by omega
  have b2 : Z ≤ 1048576 := by omega
  have e4 : IntKind.i64.wrap (N : Int) = (N : Int) := IntWalk.i64_in _ (by omega)
  have e5 : IntKind.i64.wrap (nl : Int) = (nl : Int) := IntWalk.i64_in _ (by omega)
  have e6 : decide ((Z : Int) < 64) = false := by simp; omega
  have e7 : decide (1048576 < (Z : Int)) = false := by simp; omega
  have HN := Lib.hid hN
  have H0 := Lib.hid h0
  have H1 := Lib.hid h1
  clear hZ hN
  go_enter Try.func19, Try.ntmps19
  go_wp2_with fail
  go_region_held3 (fun _ => True) (trivial) (fail)
  all_goals go_wp2
  all_goals go_ret2
  all_goals
    obtain ⟨ha, hb, hc, hd, he⟩ := at5 w _ _ _ _ _
    refine newPost_mk HN.out H0.out H1.out he ?_ ?_ ?_ ?_ ?_ ⟨?_, ?_, ?_, ?_, ?_⟩ (below5 _ _ _ _ _ _)
    · first | exact ha | exact hb | exact hc | exact hd
    · first | exact ha | exact hb | exact hc | exact hd
    · first | exact ha | exact hb | exact hc | exact hd
    · first | exact ha | exact hb | exact hc | exact hd
    all_goals omega
end Go.Proofs.Yteojhhfcfdkmdaa
