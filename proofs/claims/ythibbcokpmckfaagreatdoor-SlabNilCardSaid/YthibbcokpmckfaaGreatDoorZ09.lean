/- Texts of this claim, packed: RangeF, PIter, PCrashSt, RoundR, PCrash, PNew. -/
import Derived.Test.YthibbcokpmckfaaGreatDoorZ05
import Derived.Test.YthibbcokpmckfaaGreatDoorZ08
import Derived.RangeFuncNested
import Derived.RangeFuncBound
import Derived.RangeFuncCalls
import Derived.RangeFuncLeaves
import Derived.Below
import Derived.Shelf.Abstract
import Derived.Shelf.RegionOpen
import Derived.OwnWalkIn
import Derived.TacticsInMore
import Derived.LoopNIn
import Derived.LoopIn
import Derived.Stop.RegionWithIn
import Derived.StillTailTactics
import Derived.Deep.DrawnRows
import Derived.Deep.RegionHeld3
import Derived.Carry
import Derived.IntWalk
/- A range over a function whose rounds all go on, over a list that is known ahead: what holds behind k rounds is said by the caller, and the iterator may read it between two rounds. -/
namespace Go.Proofs.YthibbcokpmckfaaGreatDoor
open Go.RowKit
set_option linter.unusedVariables false

/-- The iterator's word: it calls yield once for each of xs, in order, and returns. -/
def Tells {α : Type} (F : Fence) (n : Nat) (P : Program) (gf : Nat) (lb : Array Value) (encs : α → Array Value) (xs : List α) (w : World) (I : Nat → World → Prop) : Prop :=
  ∀ (l : Nat) (J : Nat → World → Prop) (W : World), Below w.heap.size w W → (∀ k W, J k W → I k W) →
    (∀ k x W, xs[k]? = some x → J k W → YieldAt F (n - 1) P l (encs x) W fun e W' => e = .returned (.bool true) ∧ J (k + 1) W') → J 0 W →
    CallsIn F n P gf (#[.func (.yield l) #[] #[]] ++ lb) W fun e W' => (∃ v, e = .returned v) ∧ J xs.length W'

theorem range_all {α : Type} {F : Fence} {n : Nat} {P : Program} {g : Operand} {ps : Array Tmp} {assign body : Code} {Q : Exit → Act → World → Prop} {a : Act} {w : World}
    (hro : F.round = none) (h1 : 1 ≤ n) {gf : Nat} {lb : Array Value} (hg : a.eval g = .func (.func gf) #[] lb) (hFg : F.fn gf) (eg : ∀ args w, (callFunc gf args).run P w = .ok (.enter gf args) w)
    (xs : List α) {encs : α → Array Value} (hps : ∀ x, (encs x).size = ps.size) (I : Nat → World → Prop)
    (hI : ∀ k W W' row, I k W → W.grownBy W' row → (∀ r, row = some r → w.heap.size ≤ r ∧ ∃ o : Obj, W.heap[r]? = some o ∧ o.isCells = false) → I k W') (h0 : I 0 w)
    (hseq : Tells F (n - 1) P gf lb encs xs w I) (a₁ : α → Act)
    (hassign : ∀ (l : Nat) (x : α) (W : World) (K : Act → World → Prop), K (a₁ x) W →
      assign.wpIn (F.inRound l) (n - 1 - 1) P (Exit.then K (fun _ _ _ => False)) { tmps := (ps.zip (encs x)).foldl (fun t (p, v) => t.setIfInBounds p v) a.tmps, defers := [] } W)
    (hbody : ∀ (l k : Nat) (x : α) (W : World), xs[k]? = some x → I k W → body.wpIn (F.inRound l) (n - 1 - 1) P (fun e _ W' => e = .normal ∧ KeepsFrom w.heap.size W W' ∧ I (k + 1) W') (a₁ x) W)
    (hdone : ∀ (D : Nat) (W : World), w.heap.size ≤ D → I xs.length W → W.heap[D]? = some (.deferred (some [])) → Q .normal { a with defers := { target := .collected D, args := #[] } :: a.defers } W) :
    (Code.rangeFunc g ps assign body).wpIn F n P Q a w := by
  have hal : ∀ k W o, I k W → I k (W.alloc o) := fun k W o h => hI k W _ none h (World.grownBy_alloc W o none) (fun r e => by cases e)
  have hput : ∀ k W l o o', I k W → w.heap.size ≤ l → W.heap[l]? = some o → o.isCells = false → I k (W.putObj l o') := fun k W l o o' h hl ho hc =>
    hI k W _ (some l) h (grownBy_putObj' W l o') (fun r e => by cases e; exact ⟨hl, o, ho, hc⟩)
  refine wpIn_rangeFunc ?_
  intro fn hfn
  rw [hro]
  obtain ⟨rec, hrec⟩ : ∃ rec : LoopState → Loop, rec = fun st => { state := st, pending := none, fn, tmps := a.tmps, params := ps, assign, body, defers := w.heap.size } := ⟨_, rfl⟩
  obtain ⟨W1, hW1⟩ : ∃ W1, (w.alloc (.deferred (some []))).alloc (.loop (rec .ready)) = W1 := ⟨_, rfl⟩
  have hL1 : W1.heap[w.heap.size + 1]? = some (.loop (rec .ready)) := by
    rw [← hW1]
    have := World.alloc_heap_new (w.alloc (.deferred (some []))) (.loop (rec .ready))
    rwa [World.size_alloc] at this
  have hK1 : W1.heap[w.heap.size]? = some (.deferred (some [])) := by
    rw [← hW1]
    exact (Below.heap_alloc _ _ _ (by simp)).trans (World.alloc_heap_new w _)
  have hI1 : I 0 W1 := by rw [← hW1]; exact hal _ _ _ (hal _ _ _ h0)
  have hb1 : Below w.heap.size w W1 := by
    rw [← hW1]
    exact ((Below.refl _ w).alloc (Nat.le_refl _) _).alloc (by simp) _
  refine ⟨w.heap.size + 1, [{ target := .collected w.heap.size, args := #[] }], W1, { target := .fn (.func gf) lb, args := #[.func (.yield (w.heap.size + 1)) #[] #[]] }, W1, gf,
    #[.func (.yield (w.heap.size + 1)) #[] #[]] ++ lb, W1, ?_, ?_, ?_, ?_, fun _ => h1, ?_⟩
  · rw [← hW1, hrec]
    exact run_enterLoop_outer _ _ _ _ _
  · simp only [resolve, hg]
    simp [go_sem]
  · intro f' hf'
    simp [Target.leads] at hf'
    subst hf'
    exact hFg
  · simp [invoke, go_sem, eg]
  · refine (hseq (w.heap.size + 1) (fun k W => I k W ∧ W.heap[w.heap.size + 1]? = some (.loop (rec .ready)) ∧ W.heap[w.heap.size]? = some (.deferred (some []))) W1 hb1 (fun k W h => h.1) ?_ ⟨hI1, hL1, hK1⟩).mono ?_
    · rintro k x W hx ⟨hi, hl, hk⟩
      have hlt : w.heap.size + 1 < W.heap.size := (Array.getElem?_eq_some_iff.1 hl).1
      have hy := run_yield (P := P) (args := encs x) hl (by rw [hrec]; exact hps x)
      rw [hrec] at hy
      refine ⟨fn, _, assign, body, hy, roundIn_of_wpIn hfn (hassign _ x W _ ⟨_, run_beginRound hl (by rw [hrec]), ?_⟩)⟩
      have hl2 : (W.putObj (w.heap.size + 1) (.loop { rec .ready with state := .busy })).heap[w.heap.size + 1]? = some (.loop { rec .ready with state := .busy }) := World.putObj_heap_same hlt
      have hk2 : (W.putObj (w.heap.size + 1) (.loop { rec .ready with state := .busy })).heap[w.heap.size]? = some (.deferred (some [])) := (World.putObj_heap_other (by omega)).trans hk
      refine wpIn_mono (hbody _ k x _ hx (hput _ _ _ _ _ hi (by omega) hl rfl)) ?_
      rintro e a3 W3 ⟨rfl, hk3, hi3⟩
      have hl3 := hk3.same _ _ (by omega) hl2 rfl
      have hr := run_endRound (P := P) none hl3
      rw [hrec] at hl3 hr
      have hlt3 := (Array.getElem?_eq_some_iff.1 hl3).1
      refine ⟨_, _, hr, rfl, hput _ _ _ _ _ hi3 (by omega) hl3 rfl, ?_, ?_⟩
      · rw [hrec]
        exact World.putObj_heap_same hlt3
      · exact (World.putObj_heap_other (by omega)).trans (hk3.same _ _ (Nat.le_refl _) hk2 rfl)
    · rintro e W2 ⟨⟨v, rfl⟩, hi, hl, hk⟩
      have he := run_endLoop (P := P) hl (by rw [hrec]; simp)
      have hp : (rec .ready).pending = none := by rw [hrec]
      rw [hp] at he
      exact ⟨none, _, he, hdone _ _ (Nat.le_refl _) (hput _ _ _ _ _ hi (by omega) hl rfl) ((World.putObj_heap_other (by omega)).trans hk)⟩
end Go.Proofs.YthibbcokpmckfaaGreatDoor
/- lines: the iterator over the lines with pending stores: it calls yield once for each of them, rising, whatever a round makes of the line that it was told; for memories that are there. -/
namespace Go.Proofs.YthibbcokpmckfaaGreatDoor
open Go.RowKit Go.Shelf
set_option linter.unusedVariables false
attribute [local go_sem] Oper.semAt_some

/-- The lines with pending stores from j on, each with its number, the first one's being i. -/
def nzFrom : List (List (Nat × Nat)) → Nat → Nat → List (Nat × Nat)
  | [], _, _ => []
  | l :: t, i, j => if l = [] then nzFrom t i (j + 1) else (i, j) :: nzFrom t (i + 1) (j + 1)
def nz (p : List (List (Nat × Nat))) : List (Nat × Nat) := nzFrom p 0 0
def encN (x : Nat × Nat) : Array Value := #[.int .i64 (x.1 : Int), .int .i64 (x.2 : Int)]
theorem nzFrom_step {p : List (List (Nat × Nat))} {i j : Nat} {l : List (Nat × Nat)} (h : p[0]? = some l) : nzFrom p i j = if l = [] then nzFrom p.tail i (j + 1) else (i, j) :: nzFrom p.tail (i + 1) (j + 1) := by
  cases p with
  | nil => cases h
  | cons a t =>
    simp at h
    subst h
    rfl
/-- What the iterator reads when it has told k lines: its box's struct, and the row of lines as far as it is to come. -/
def Reads0 (W : World) (gp nl : Nat) (ps : List Value) (xs : List (Nat × Nat)) (k : Nat) : Prop :=
  ∀ (j : Nat) (v : Value), j < nl → (∀ (i : Nat) (q : Nat × Nat), xs[i]? = some q → i < k → q.2 < j) → ps[j]? = some v → W.cell? ⟨gp, j, none⟩ = some v
set_option maxRecDepth 100000 in
set_option maxHeartbeats 1600000 in
theorem iter_tells {w : World} {y : Lay} {s : St} (h : MemAt w y s) (bx : Nat) (I : Nat → World → Prop) (hbx : w.cell? ⟨bx, 0, none⟩ = some (.pointer (some ⟨y.g, 0, none⟩)))
    (hI : ∀ k W, I k W → Reads0 W y.gp s.nl y.ps (nz s.pend) k) :
    Tells Fence.wide 5 Tryz.prog 92 #[.pointer (some ⟨bx, 0, none⟩)] encN (nz s.pend) w I := by
  intro l J W hW hJ hY h0
  have hm := h.below hW
  have hnone := none_yes hm
  have hbox : W.cell? ⟨bx, 0, none⟩ = some (.pointer (some ⟨y.g, 0, none⟩)) := (hW.cell (p := ⟨bx, 0, none⟩) (block_lt_of_cell hbx)).trans hbx
  have c2 := hm.row.cell 2
  simp only [List.getElem?_toArray, List.getElem?_cons_succ, List.getElem?_cons_zero] at c2
  have hmost := h.most
  have hplen := h.plen
  have HP := Lib.hid fun j (hj : j < s.nl) => ps_get h hj
  have HN := Lib.hid hnone
  have HJ := Lib.hid hJ
  have HY := Lib.hid hY
  have HI := Lib.hid hI
  have H0 := Lib.hid h0
  obtain ⟨xs, hxs⟩ : ∃ xs, xs = nz s.pend := ⟨_, rfl⟩
  rw [← hxs] at HY HI ⊢
  have HX := Lib.hid hxs
  have HPL := Lib.hid hplen
  clear hnone hm hJ hY hI h0 hxs hbx h hplen hW
  refine callsIn_of_wp Tryz.func92 rfl trivial ?_ rfl
  simp only [Tryz.ntmps92, List.size_toArray, List.length_cons, List.length_nil, Nat.reduceAdd, Nat.reduceSub, Array.replicate_succ, Array.replicate_zero, List.push_toArray, List.append_toArray, List.nil_append, List.cons_append]
  gi_wp2_with (refine ⟨trivial, ?_⟩; gi_at_call 60; refine (callsIn_wide.2 HN.out).mono ?_; rintro e w' ⟨rfl, rfl⟩)
  gi_loopw [3, 13] (fun a b wr => ∃ k j : Nat, a = .int .i64 k ∧ b = .int .i64 j ∧ j ≤ s.nl ∧ k ≤ j ∧ k ≤ xs.length ∧ J k wr ∧ xs.drop k = nzFrom (s.pend.drop j) k j ∧ ∀ (i : Nat) (q : Nat × Nat), xs[i]? = some q → i < k → q.2 < j) (fun _ b _ => s.nl - (intOf b).toNat)
  case atStart => exact ⟨0, 0, rfl, rfl, by omega, by omega, by omega, H0.out, by rw [HX.out]; rfl, fun i q _ hi => by omega⟩
  case round =>
    obtain ⟨k, j, rfl, rfl, hj, hkj, hkx, hJk, hdr, hlt⟩ := hrel
    by_cases hjn : j < s.nl
    · obtain ⟨v, m, hv, hmm, ht⟩ := HP.out j hjn
      obtain ⟨A, cap, rfl, hcap⟩ := ht.len
      have hcell : wr.cell? ⟨y.gp, j, none⟩ = some (.slice A m.length cap) := HI.out k wr (HJ.out k wr hJk) j _ hjn hlt hv
      rw [nzFrom_step (l := m) (by rw [List.getElem?_drop]; exact hmm), List.tail_drop] at hdr
      by_cases hm0 : m = []
      · rw [if_pos hm0] at hdr
        subst hm0
        have HDR := Lib.hid hdr
        have HLT := Lib.hid hlt
        have HJK := Lib.hid hJk
        clear hdr hlt hJk hv ht
        gi_wp2
        go_roundw
        case rel => exact ⟨k, j + 1, rfl, by go_num, by omega, by omega, hkx, HJK.out, by simpa using HDR.out, fun i q hq hi => by have := HLT.out i q hq hi; omega⟩
        case measure => simp [intOf]; omega
      · rw [if_neg hm0] at hdr
        have hml : ((m.length : Int) == 0) = false := by
          rw [Bool.eq_false_iff]
          intro hh
          have := beq_iff_eq.1 hh
          exact hm0 (List.eq_nil_of_length_eq_zero (by omega))
        have hxk : xs[k]? = some (k, j) := by
          have : (xs.drop k)[0]? = some (k, j) := by rw [hdr]; rfl
          rwa [List.getElem?_drop] at this
        obtain ⟨fn, tmps, assign, body, hy, hR⟩ := HY.out k (k, j) wr hxk hJk
        dsimp only [encN] at hy
        have HDR := Lib.hid hdr
        have HLT := Lib.hid hlt
        clear hdr hlt hJk hv ht hm0
        gi_wp2
        refine hR.mono ?_
        rintro e W3 ⟨rfl, hJ3⟩
        have HJ3 := Lib.hid hJ3
        clear hJ3
        gi_wp2
        go_roundw
        case rel =>
          have hkl : k < xs.length := (List.getElem?_eq_some_iff.1 hxk).1
          refine ⟨k + 1, j + 1, by go_num, by go_num, by omega, by omega, by omega, HJ3.out, ?_, ?_⟩
          · have h1 := HDR.out
            have h2 : xs.drop (k + 1) = (xs.drop k).drop 1 := by rw [List.drop_drop]
            rw [h2, h1]
            rfl
          · intro i q hq hi
            by_cases e : i = k
            · subst e
              rw [hxk] at hq
              cases hq
              show j < j + 1
              omega
            · have := HLT.out i q hq (by omega)
              omega
        case measure => simp [intOf]; omega
    · have hje : j = s.nl := by omega
      have hk : k = xs.length := by
        rw [List.drop_of_length_le (l := s.pend) (by rw [HPL.out]; omega)] at hdr
        have h3 : (xs.drop k).length = 0 := by rw [hdr]; rfl
        rw [List.length_drop] at h3
        omega
      subst hk
      have HJK := Lib.hid hJk
      clear hdr hlt hJk
      gi_wp2
      go_end0
      exact ⟨⟨_, rfl⟩, HJK.out⟩
end Go.Proofs.YthibbcokpmckfaaGreatDoor
/- What a crash makes of a state, line by line; for states that a memory can have. -/
namespace Go.Proofs.YthibbcokpmckfaaGreatDoor
set_option linter.unusedVariables false
theorem set_getD {l : List (List (Nat × Nat))} {i j : Nat} {x : List (Nat × Nat)} (hi : i < l.length) : (l.set i x).getD j [] = if j = i then x else l.getD j [] := by
  rw [List.getD_eq_getElem?_getD, List.getElem?_set]
  by_cases e : i = j
  · subst e
    simp [hi]
  · rw [if_neg e, if_neg (fun x => e x.symm), List.getD_eq_getElem?_getD]
theorem last_Ok {s : St} (ok : s.Ok) {i n : Nat} (hi : i < s.pend.length) (hn : n ≤ (s.pend.getD i []).length) : (s.last i n).Ok := by
  have hgi := getD_at (d := ([] : List (Nat × Nat))) hi
  refine ⟨?_, ok.vie, ?_, ?_, ?_, ok.num⟩
  · refine lastW_fits ok.las ?_
    intro p hp
    have hm := List.mem_of_mem_take hp
    rw [hgi] at hm
    exact (ok.put i _ (List.getElem?_eq_getElem hi) p hm).2.2
  · intro j l hl p hp
    have hl' : (s.pend.set i ((s.pend.getD i []).drop n))[j]? = some l := hl
    rw [List.getElem?_set] at hl'
    by_cases e : i = j
    · subst e
      rw [if_pos rfl, if_pos hi] at hl'
      cases hl'
      have hm := List.mem_of_mem_drop hp
      rw [hgi] at hm
      exact ok.put i _ (List.getElem?_eq_getElem hi) p hm
    · rw [if_neg e] at hl'
      exact ok.put j l hl' p hp
  · intro l hl
    have hl' : l ∈ s.pend.set i ((s.pend.getD i []).drop n) := hl
    rcases List.mem_or_eq_of_mem_set hl' with h | h
    · exact ok.few l h
    · rw [h, List.length_drop, hgi]
      have := ok.few _ (List.getElem_mem hi)
      omega
  · intro j q
    show umk s.mm i n j q ≤ ((s.pend.set i ((s.pend.getD i []).drop n)).getD j []).length
    rw [set_getD hi]
    by_cases e : j = i
    · subst e
      rw [if_pos rfl, umk_at, List.length_drop]
      have := ok.mks j q
      omega
    · rw [if_neg e, umk_far e]
      exact ok.mks j q
theorem lose_Ok {s : St} (ok : s.Ok) {i : Nat} (hi : i < s.pend.length) : (s.lose i).Ok := by
  refine ⟨ok.las, ?_, ?_, ?_, ?_, ok.num⟩
  · intro x hx
    have hx' : x ∈ loseV s.lasted s.view i := hx
    simp only [loseV, List.mem_mapIdx] at hx'
    obtain ⟨k, hk, rfl⟩ := hx'
    split
    · by_cases hl : k < s.lasted.length
      · rw [getD_at hl]
        exact ok.las _ (List.getElem_mem hl)
      · rw [List.getD_eq_getElem?_getD, List.getElem?_eq_none (by omega)]
        decide
    · exact ok.vie _ (List.getElem_mem hk)
  · intro j l hl p hp
    have hl' : (s.pend.set i [])[j]? = some l := hl
    rw [List.getElem?_set] at hl'
    by_cases e : i = j
    · subst e
      rw [if_pos rfl, if_pos hi] at hl'
      cases hl'
      cases hp
    · rw [if_neg e] at hl'
      exact ok.put j l hl' p hp
  · intro l hl
    have hl' : l ∈ s.pend.set i [] := hl
    rcases List.mem_or_eq_of_mem_set hl' with h | h
    · exact ok.few l h
    · rw [h]; decide
  · intro j q
    show upd s.mm i (fun _ => 0) j q ≤ ((s.pend.set i []).getD j []).length
    rw [set_getD hi]
    by_cases e : j = i
    · subst e
      simp [upd]
    · rw [if_neg e]
      simp only [upd, if_neg e]
      exact ok.mks j q

/-- One line of a crash; those lines that have been told. -/
def St.crash1 (s : St) (keep : List Int) (x : Nat × Nat) : St := (s.last x.2 (keptN keep x.1 (s.pend.getD x.2 []).length)).lose x.2
def St.crashTo (s : St) (keep : List Int) (xs : List (Nat × Nat)) : St := xs.foldl (fun t x => t.crash1 keep x) s
def St.crash (s : St) (keep : List Int) : St := s.crashTo keep (nz s.pend)
theorem crashTo_snoc (s : St) (keep : List Int) (xs : List (Nat × Nat)) (x : Nat × Nat) : s.crashTo keep (xs ++ [x]) = (s.crashTo keep xs).crash1 keep x := by simp [St.crashTo]
theorem crashTo_nl (s : St) (keep : List Int) (xs : List (Nat × Nat)) : (s.crashTo keep xs).nl = s.nl := by
  induction xs generalizing s with
  | nil => rfl
  | cons x t ih => exact ih (s.crash1 keep x)
theorem crashTo_pend (s : St) (keep : List Int) (xs : List (Nat × Nat)) : (s.crashTo keep xs).pend.length = s.pend.length := by
  induction xs generalizing s with
  | nil => rfl
  | cons x t ih =>
    rw [show s.crashTo keep (x :: t) = (s.crash1 keep x).crashTo keep t from rfl, ih]
    simp [St.crash1, St.lose, St.last]
theorem crashTo_far {s : St} {keep : List Int} {xs : List (Nat × Nat)} {j : Nat} (h : ∀ x ∈ xs, x.2 ≠ j) : (s.crashTo keep xs).pend.getD j [] = s.pend.getD j [] := by
  induction xs generalizing s with
  | nil => rfl
  | cons x t ih =>
    rw [show s.crashTo keep (x :: t) = (s.crash1 keep x).crashTo keep t from rfl, ih (fun q hq => h q (by simp [hq]))]
    have hx := h x (by simp)
    simp only [St.crash1, St.lose, St.last, List.getD_eq_getElem?_getD]
    rw [List.getElem?_set_ne hx, List.getElem?_set_ne hx]
theorem crashTo_Ok {s : St} (ok : s.Ok) (keep : List Int) (xs : List (Nat × Nat)) (h : ∀ x ∈ xs, x.2 < s.pend.length) : (s.crashTo keep xs).Ok := by
  induction xs generalizing s with
  | nil => exact ok
  | cons x t ih =>
    have hx := h x (by simp)
    have hl : (s.crash1 keep x).pend.length = s.pend.length := by simp [St.crash1, St.lose, St.last]
    refine ih (s := s.crash1 keep x) (lose_Ok (last_Ok ok hx (keptN_le _ _ _)) (by simpa [St.last] using hx)) (fun q hq => by rw [hl]; exact h q (by simp [hq]))
/-- The lines that are told rise, and there are such. -/
theorem nzFrom_bound : ∀ (p : List (List (Nat × Nat))) (i j : Nat), ∀ x ∈ nzFrom p i j, j ≤ x.2 ∧ x.2 < j + p.length ∧ i ≤ x.1 ∧ x.1 < i + p.length
  | [], i, j, x, hx => by cases hx
  | l :: t, i, j, x, hx => by
    unfold nzFrom at hx
    rw [List.length_cons]
    split at hx
    · have := nzFrom_bound t i (j + 1) x hx
      omega
    · rcases List.mem_cons.1 hx with rfl | hx
      · dsimp only
        omega
      · have := nzFrom_bound t (i + 1) (j + 1) x hx
        omega
theorem nzFrom_at : ∀ (p : List (List (Nat × Nat))) (i j : Nat), ∀ k x, (nzFrom p i j)[k]? = some x → x.1 = i + k ∧ ∃ l, p[x.2 - j]? = some l ∧ l ≠ []
  | [], i, j, k, x, hx => by cases hx
  | l :: t, i, j, k, x, hx => by
    unfold nzFrom at hx
    split at hx
    · obtain ⟨h1, m, h2, h3⟩ := nzFrom_at t i (j + 1) k x hx
      have hb := nzFrom_bound t i (j + 1) x (List.mem_of_getElem? hx)
      refine ⟨h1, m, ?_, h3⟩
      rw [show x.2 - j = x.2 - (j + 1) + 1 from by omega]
      exact h2
    · rename_i hne
      cases k with
      | zero =>
        simp at hx
        subst hx
        exact ⟨rfl, l, by simp, hne⟩
      | succ k =>
        rw [List.getElem?_cons_succ] at hx
        obtain ⟨h1, m, h2, h3⟩ := nzFrom_at t (i + 1) (j + 1) k x hx
        have hb := nzFrom_bound t (i + 1) (j + 1) x (List.mem_of_getElem? hx)
        refine ⟨by omega, m, ?_, h3⟩
        rw [show x.2 - j = x.2 - (j + 1) + 1 from by omega]
        exact h2
theorem nzFrom_rise : ∀ (p : List (List (Nat × Nat))) (i j : Nat), (nzFrom p i j).Pairwise (fun a b => a.2 < b.2)
  | [], i, j => List.Pairwise.nil
  | l :: t, i, j => by
    unfold nzFrom
    split
    · exact nzFrom_rise t i (j + 1)
    · refine List.pairwise_cons.2 ⟨fun x hx => ?_, nzFrom_rise t (i + 1) (j + 1)⟩
      have := nzFrom_bound t (i + 1) (j + 1) x hx
      show j < x.2
      omega
end Go.Proofs.YthibbcokpmckfaaGreatDoor
/- A region that draws its order, within a round of a range over a function, walked as outside of it: reads and quiet calls ahead of a forced tail; for regions without defer. -/
namespace Go.Proofs.YthibbcokpmckfaaGreatDoor
set_option linter.unusedVariables false

theorem uponIn_of {P : Program} {l n : Nat} {o : Oper} {a : Act} {K : Act → World → Prop} {Q : Exit → Act → World → Prop} {r : Result Next} (h : o.upon P a K Q r) : o.uponIn (Fence.wide.inRound l) n P a K Q r := by
  cases r with
  | ok x w' =>
    cases x with
    | enter f args =>
      rw [Oper.upon_enter] at h
      rw [Oper.uponIn_enter]
      exact ⟨(fun hx => by cases hx), CallsIn.inRound l (callsIn_wide.2 h)⟩
    | row row args =>
      rw [Oper.upon_row] at h
      rw [Oper.uponIn_row]
      refine ⟨(fun hx => by cases hx), fun c cs _ => ?_⟩
      obtain ⟨v, w'', r1, s1⟩ := h c cs
      exact ⟨v, w'', r1, stepsIn_wide.2 s1⟩
    | value v => exact h
    | skip => exact h
    | defer d => exact h
    | _ => exact h.elim
  | halt x w' => cases x <;> exact h
def noDefer (ops : Array Oper) : Prop := ∀ (i : Nat) (o : Oper), ops[i]? = some o → ∀ c, o.op ≠ .defer c
def isDefer (o : Oper) : Bool := match o.op with
  | .defer _ => true
  | _ => false
theorem noDefer_all {l : List Oper} (h : l.all (fun o => !isDefer o) = true) : noDefer l.toArray := by
  intro i o ho c hc
  have hm : o ∈ l := List.mem_of_getElem? (by simpa using ho)
  have := List.all_eq_true.1 h o hm
  simp [isDefer, hc] at this
theorem wpAnyIn_of {P : Program} {l n : Nat} {md : Region.Mode} {ops : Array Oper} {Q : Exit → Act → World → Prop} (hd : noDefer ops) (hQ : ¬ LetsOut Q) :
    ∀ (fuel : Nat) (listed : Array Bool) (a : Act) (w : World), wpAny P md ops Q fuel listed a w → wpAnyIn (Fence.wide.inRound l) n P md ops Q fuel listed a w
  | 0, _, _, _, h => h
  | fuel + 1, listed, a, w, h => by
    refine ⟨h.1, fun i hi => ?_⟩
    have h1 := h.2 i hi
    refine wpOpIn_mono (K := wpAny P md ops Q fuel (listed.setIfInBounds i true)) (fun a w => wpAnyIn_of hd hQ fuel _ a w) ?_
    unfold wpOp at h1
    unfold wpOpIn
    cases ho : ops[i]? with
    | none => rw [ho] at h1; exact h1
    | some o =>
      rw [ho] at h1
      dsimp only at h1 ⊢
      split
      · rename_i hw
        rw [if_pos hw] at h1
        rcases h1 with h1 | ⟨_, h1⟩
        · refine ⟨fun _ _ => trivial, ?_⟩
          rw [Oper.semAt_eq _ _ _ (hd i o ho)]
          exact uponIn_of h1
        · exact (hQ h1).elim
      · rename_i hw
        rw [if_neg hw] at h1
        exact ⟨fun _ _ => trivial, h1⟩
/-- Reads and quiet calls, then a forced tail. -/
theorem wpIn_region_tail {P : Program} {l0 n id : Nat} {Q : Exit → Act → World → Prop} {a : Act} {w : World} {l : List Oper} (k : Nat) (hm : P.follows .mixedOrders = true) (hB : Region.lexTailB .any l.toArray k = true) (hd : noDefer l.toArray) (hQ : ¬ LetsOut Q)
    (h : wpStill P l.toArray w.drew (fun a' => wpList P l.toArray Q (l.drop k) a' w.drew) (l.take k) a) : (Code.region id l.toArray true).wpIn (Fence.wide.inRound l0) n P Q a w := by
  simp only [Region.lexTailB, Bool.and_eq_true, decide_eq_true_eq] at hB
  obtain ⟨⟨⟨⟨hsel, hn⟩, hs⟩, hc⟩, hlex⟩ := hB
  have hn' : k < l.length := by simpa using hn
  have htl : (l.take k).length = k := by simp; omega
  have hdl : (l.drop k).length = l.toArray.size - k := by simp
  have inv0 : HeadInv .any l.toArray k (Array.replicate l.toArray.size false) :=
    ⟨by simp, fun j oj _ hl => (by rw [getD_replicate_false] at hl; cases hl), fun t _ ht => getD_in (by simpa using ht) (getD_replicate_false _ _)⟩
  have H := wpAnyL_lex (md := .any) (g := l.toArray.size - k) hsel hs hc hn (l.take k) 0 _ a (fun j hj => by
    have hj' : j < k := by rw [htl] at hj; exact hj
    simp [hj']) (by simpa using htl) inv0 (by rw [htl]; exact hlex) h
  refine wpIn_region_any hm (wpAnyIn_of hd hQ _ _ _ _ ?_)
  have := wpAny_of_head (Q' := Q) (g := l.toArray.size - k) (fun listed a' hL => by
    have := wpAny_of_seq (md := .any) (Q' := Q) (l.drop k) k listed a' w.drew (fun j => by simp [List.getElem?_drop]) (by rw [hdl]; exact hL.1) hL.2
    rwa [hdl] at this) _ _ _ H
  rw [htl, show k + (l.toArray.size - k) = l.toArray.size by omega] at this
  exact this
end Go.Proofs.YthibbcokpmckfaaGreatDoor
/- Crash: a front of each line's pending stores lasts, all others are lost; for states that a memory can have, and a list of numbers that lies in other memory. -/
namespace Go.Proofs.YthibbcokpmckfaaGreatDoor
open Go.RowKit Go.Shelf
set_option linter.unusedVariables false
attribute [local go_sem] Oper.semAt_some

theorem lines_any (p : Option Addr) (w : World) : Calls Tryz.prog 61 #[.pointer p] w fun e w' => e = .returned (.func (.func 92) #[] #[.pointer (some ⟨w.heap.size, 0, none⟩)]) ∧ w.alloc (.cells #[.pointer p] 48) = w' := by
  go_enter Tryz.func61, Tryz.ntmps61
  go_wp2
  go_ret
  exact ⟨rfl, rfl⟩
/-- The crash under way: k lines have been gone through. -/
def CrI (W0 : World) (y : Lay) (s : St) (keep : List Int) (k : Nat) (W : World) : Prop :=
  ∃ y', MemAt W y' (s.crashTo keep ((nz s.pend).take k)) ∧ Turn W0 W y y' ∧ y'.gp = y.gp ∧ y'.mb = y.mb ∧ ∀ j : Nat, (∀ (i : Nat) (q : Nat × Nat), (nz s.pend)[i]? = some q → i < k → q.2 < j) → y'.ps[j]? = y.ps[j]?
theorem fp_cells {w : World} {y : Lay} {s : St} (h : MemAt w y s) {k : Nat} (hk : y.fp k) : (∃ cs t, w.heap[k]? = some (.cells cs t (0, 0))) ∨ k = y.mb := by
  rcases hk with rfl | rfl | rfl | rfl | rfl | ⟨j, v, hv, hk⟩
  · exact .inl ⟨_, _, h.row⟩
  · obtain ⟨c, hc⟩ := own_at h.las
    exact .inl ⟨_, _, hc⟩
  · obtain ⟨c, hc⟩ := own_at h.vie
    exact .inl ⟨_, _, hc⟩
  · obtain ⟨c, hc⟩ := own_at h.pen
    exact .inl ⟨_, _, hc⟩
  · exact .inr rfl
  · obtain ⟨c, hc⟩ := ps_row h hv hk
    exact .inl ⟨_, _, hc⟩
theorem cri_stay {W0 : World} {y : Lay} {s : St} {keep : List Int} (hmb : y.mb < W0.heap.size) (k : Nat) (W W' : World) (row : Option Nat) (h : CrI W0 y s keep k W) (hg : W.grownBy W' row)
    (hr : ∀ r, row = some r → W0.heap.size ≤ r ∧ ∃ o : Obj, W.heap[r]? = some o ∧ o.isCells = false) : CrI W0 y s keep k W' := by
  obtain ⟨y', hm, ht, h1, h2, h3⟩ := h
  have hn : ∀ q, y'.fp q → some q ≠ row := by
    intro q hq e
    obtain ⟨h4, o, ho, hc⟩ := hr q e.symm
    rcases fp_cells hm hq with ⟨cs, t, h5⟩ | h5
    · rw [h5] at ho
      cases ho
      cases hc
    · omega
  refine ⟨y', hm.same fun q hq => hg.block q (hm.lt q hq) (hn q hq), ⟨ht.g, ht.but.trans (q := fun q => W0.heap.size ≤ q) ⟨hg.os, hg.tape, hg.output, hg.size, fun q hq hq2 => hg.block q hq (fun e => hq2 (hr q e.symm).1)⟩ (fun q hq => .inr hq), ht.fp⟩, h1, h2, h3⟩
theorem cri_next {W0 W W1 W2 : World} {y y' y1 y2 : Lay} {s : St} {keep : List Int} {k : Nat} {x : Nat × Nat} (hx : (nz s.pend)[k]? = some x)
    (ht : Turn W0 W y y') (hgp : y'.gp = y.gp) (hmb : y'.mb = y.mb) (hps : ∀ j : Nat, (∀ (i : Nat) (q : Nat × Nat), (nz s.pend)[i]? = some q → i < k → q.2 < j) → y'.ps[j]? = y.ps[j]?)
    (t1 : Turn W W1 y' y1) (n1 : y'.Near y1 x.2) (t2 : Turn W1 W2 y1 y2) (n2 : y1.Near y2 x.2) (hm : MemAt W2 y2 ((s.crashTo keep ((nz s.pend).take k)).crash1 keep x)) : CrI W0 y s keep (k + 1) W2 := by
  have hkl := (List.getElem?_eq_some_iff.1 hx).1
  have hxe : (nz s.pend)[k] = x := (List.getElem?_eq_some_iff.1 hx).2
  refine ⟨y2, ?_, (ht.trans t1).trans t2, n2.2.1.trans (n1.2.1.trans hgp), n2.2.2.2.1.trans (n1.2.2.2.1.trans hmb), ?_⟩
  · rw [List.take_succ_eq_append_getElem hkl, crashTo_snoc, hxe]
    exact hm
  · intro j hj
    have hxj : x.2 < j := hj k x hx (by omega)
    rw [n2.2.2.2.2.2.2.2.2 j (by omega), n1.2.2.2.2.2.2.2.2 j (by omega)]
    exact hps j fun i q hq hi => hj i q hq (by omega)
set_option maxRecDepth 100000 in
set_option maxHeartbeats 3200000 in
theorem crash_ok {w : World} {y : Lay} {s : St} (h : MemAt w y s) (ok : s.Ok) (keep : List Int) (A : Option Addr) (cap : Nat) (hs : Sl w A (keep.map iv)) (hA : ∀ a, A = some a → ¬ y.fp a.block) (hl : keep.length ≤ 9223372036854775807) (hw : ∀ z ∈ keep, (Lit.int .i64 z).wf = true) :
    Calls Tryz.prog 22 #[.pointer (some ⟨y.g, 0, none⟩), .slice A keep.length cap] w fun e w' => e = .returned (.tuple #[]) ∧ ∃ y', MemAt w' y' (s.crash keep) ∧ Turn w w' y y' := by
  refine (callsIn_wide (n := 6)).1 ?_
  refine callsIn_of_wp_marks Tryz.func22 rfl trivial ?_ rfl
  simp only [Tryz.ntmps22, List.size_toArray, List.length_cons, List.length_nil, Nat.reduceAdd, Nat.reduceSub, Array.replicate_succ, Array.replicate_zero, List.push_toArray, List.append_toArray, List.nil_append, List.cons_append]
  gi_wp2_with (refine ⟨trivial, ?_⟩; gi_at_call 61; refine (callsIn_wide.2 (lines_any _ _)).mono ?_; rintro e w' ⟨rfl, rfl⟩)
  obtain ⟨W0, hW0⟩ : ∃ W0, W0 = (((w.alloc (.cells #[.pointer (some ⟨y.g, 0, none⟩)] 48)).alloc (.cells #[.slice A keep.length cap] 47)).alloc (.cells #[.pointer (some ⟨y.g, 0, none⟩)] 48)) := ⟨_, rfl⟩
  rw [← hW0]
  have hb0 : Below w.heap.size w W0 := by
    rw [hW0]
    exact Below.and (Below.and (alloc_below _ _) (alloc_below _ _)) (alloc_below _ _)
  have hsz : W0.heap.size = w.heap.size + 1 + 1 + 1 := by rw [hW0]; simp
  have r1 : Row W0 w.heap.size 48 #[.pointer (some ⟨y.g, 0, none⟩)] := by
    rw [hW0]
    exact ((Row.new _ _ _).alloc _).alloc _
  have r2 : Row W0 (w.heap.size + 1) 47 #[.slice A keep.length cap] := by
    rw [hW0]
    exact (row_at (by simp)).alloc _
  have r3 : Row W0 (w.heap.size + 1 + 1) 48 #[.pointer (some ⟨y.g, 0, none⟩)] := by
    rw [hW0]
    exact row_at (by simp)
  have hm0 := h.below hb0
  have hlt := h.lt
  have hmb := h.marks.lt
  have hs0 := hs.below hb0
  have HB0 := Lib.hid hb0
  have HSZ := Lib.hid hsz
  have HM := Lib.hid hm0
  have HLT := Lib.hid hlt
  have HOK := Lib.hid ok
  have hmost := h.most
  have hplen := h.plen
  clear hW0 h hs
  refine range_all rfl (by omega) (gf := 92) (lb := #[.pointer (some ⟨w.heap.size + 1 + 1, 0, none⟩)]) rfl trivial (enters_of Tryz.func92 (by kernel_rfl) rfl) (nz s.pend) (encs := encN) (fun _ => rfl) (CrI W0 y s keep)
    (cri_stay (by omega)) ⟨y, hm0, Turn.refl _ _, rfl, rfl, fun _ _ => rfl⟩ (iter_tells hm0 (w.heap.size + 1 + 1) _ (r3.cell 0) ?reads)
    (fun x => { tmps := #[.pointer (some ⟨y.g, 0, none⟩), .slice A keep.length cap, .pointer (some ⟨w.heap.size, 0, none⟩), .pointer (some ⟨w.heap.size + 1, 0, none⟩), .int .i64 (x.1 : Int), .int .i64 (x.2 : Int), .pointer (some ⟨y.g, 0, none⟩),
      .func (.func 92) #[] #[.pointer (some ⟨w.heap.size + 1 + 1, 0, none⟩)], .int .i64 (x.1 : Int), .int .i64 (x.2 : Int), undef, undef, undef, undef, undef, undef, undef, undef, undef, undef, undef, undef, undef, undef, undef, undef, undef], defers := [] }) ?assign ?body ?done
  case reads =>
    rintro k W ⟨y', hm, ht, h1, h2, h3⟩ j v hj hq hv
    rw [← h1, hm.pen.cellAt j (by rw [crashTo_nl]; omega), h3 j hq]
    exact hv
  case assign =>
    intro l x W K hK
    dsimp only [encN]
    gi_wp2
    exact hK
  case body =>
    rintro l k x W hx ⟨y', hm, ht, h1, h2, h3⟩
    have hxm := List.mem_of_getElem? hx
    have hxb := nzFrom_bound _ _ _ x hxm
    obtain ⟨hx1, m, hmj, hmne⟩ := nzFrom_at _ _ _ k x hx
    rw [Nat.sub_zero] at hmj
    rw [Nat.zero_add] at hx1
    have hri : (nz s.pend).Pairwise (fun a b => a.2 < b.2) := nzFrom_rise s.pend 0 0
    have hfar : ∀ (i : Nat) (q : Nat × Nat), (nz s.pend)[i]? = some q → i < k → q.2 < x.2 := by
      intro i q hq hi
      have hil := (List.getElem?_eq_some_iff.1 hq).1
      have hkl := (List.getElem?_eq_some_iff.1 hx).1
      have := List.pairwise_iff_getElem.1 hri i k hil hkl hi
      rw [(List.getElem?_eq_some_iff.1 hq).2, (List.getElem?_eq_some_iff.1 hx).2] at this
      exact this
    obtain ⟨sk, hsk⟩ : ∃ sk, sk = s.crashTo keep ((nz s.pend).take k) := ⟨_, rfl⟩
    rw [← hsk] at hm
    have okk : sk.Ok := by
      rw [hsk]
      refine crashTo_Ok HOK.out keep _ fun q hq => ?_
      have := nzFrom_bound _ _ _ q (List.mem_of_mem_take hq)
      omega
    have hnk : sk.nl = s.nl := by rw [hsk, crashTo_nl]
    have hpk : sk.pend.getD x.2 [] = m := by
      rw [hsk, crashTo_far, List.getD_eq_getElem?_getD, hmj]
      · rfl
      · intro q hq
        obtain ⟨i, hi, he⟩ := List.getElem_of_mem hq
        rw [List.length_take] at hi
        rw [List.getElem_take] at he
        have := hfar i q (by rw [List.getElem?_eq_getElem (by omega), he]) (by omega)
        omega
    have hpk2 : sk.pend[x.2]? = some m := by
      have hl : x.2 < sk.pend.length := by rw [hsk, crashTo_pend]; omega
      rw [getD_at hl] at hpk
      rw [List.getElem?_eq_getElem hl, hpk]
    obtain ⟨V, m', hV, hm', htl⟩ := ps_get hm (j := x.2) (by omega)
    rw [hpk2] at hm'
    cases hm'
    obtain ⟨AV, capV, rfl, hcV⟩ := htl.len
    have b1 : W.cell? ⟨w.heap.size, 0, none⟩ = some (.pointer (some ⟨y.g, 0, none⟩)) := ht.but.cell (r1.cell 0) (fun e => by have := HLT.out _ e; dsimp only at this; omega)
    have b2 : W.cell? ⟨w.heap.size + 1, 0, none⟩ = some (.slice A keep.length cap) := ht.but.cell (r2.cell 0) (fun e => by have := HLT.out _ e; dsimp only at this; omega)
    have b3 : W.cell? ⟨y.g, 2, none⟩ = some (.slice (some ⟨y.gp, 0, none⟩) s.nl y'.cp) := by
      have := hm.row.cell 2
      rw [ht.g, h1, hnk] at this
      exact this
    have b4 : W.cell? ⟨y.gp, x.2, none⟩ = some (.slice AV m.length capV) := by rw [← h1, hm.pen.cellAt x.2 (by omega), hV]
    have hsl : Sl W A (keep.map iv) := by
      intro i u hu
      obtain ⟨a, e, hc⟩ := hs0 i u hu
      exact ⟨a, e, ht.but.cell hc (by rw [add_block]; exact hA a e)⟩
    have hml : m.length ≤ 1000000000 := okk.few m (List.mem_of_getElem? hpk2)
    have HK := Lib.hid fun W' (hb : Below W.heap.size W W') => kept_any keep A cap x.1 m.length W' (hsl.below hb) hl hw (by omega) (by omega)
    have HLA := Lib.hid fun W' (hb : Below W.heap.size W W') => last_ok (hm.below hb) okk x.2 (keptN keep x.1 m.length) (by omega) (by rw [hpk]; exact keptN_le _ _ _)
    rw [ht.g] at HLA
    have i0 : (0 : Int) ≤ (x.2 : Int) := by omega
    have i1 : (x.2 : Int) < (s.nl : Int) := by omega
    have HX := Lib.hid hx
    have HT := Lib.hid ht
    have HMM := Lib.hid hm
    have H1 := Lib.hid h1
    have H2 := Lib.hid h2
    have H3 := Lib.hid h3
    have HSK := Lib.hid hsk
    have HPK := Lib.hid hpk
    have HOKK := Lib.hid okk
    have HNK := Lib.hid hnk
    have HX2 := Lib.hid hxb
    obtain ⟨xi, xj⟩ := x
    dsimp only at *
    have hsz3 : w.heap.size + 1 + 1 + 1 ≤ W0.heap.size := by omega
    clear hsz hx ht hm h1 h2 h3 hsk hpk hpk2 okk hnk hfar hri hxm hmj htl hV hs0 hsl hx1 hxb hw hA
    gi_wp2_with fail
    refine wpIn_region_tail 13 (by kernel_rfl) (by kernel_rfl) ?nodef ?lets ?_
    case nodef => exact noDefer_all (by kernel_rfl)
    case lets =>
      rintro ⟨a, w, h⟩
      simp [Exit.then, Exit.inBlock] at h
      obtain ⟨h, _⟩ := h
      cases h
    simp only [List.take_succ_cons, List.take_zero, List.drop_succ_cons, List.drop_zero]
    iterate 12 still_step
    still_call ((HK.out W.drew (drew_below W)).mono fun e w' h => ⟨h.1, h.2.symm⟩)
    refine wpStill_nil ?_
    go_wp2_with (go_at_call 65; refine (HLA.out W.drew (drew_below W)).mono ?_; rintro e w3 ⟨rfl, y3, hm3, ht3, hn3, hst3⟩)
    have ht3' : Turn W w3 y' y3 := ⟨ht3.g, ⟨ht3.but.os, ht3.but.tape, ht3.but.output, ht3.but.size, ht3.but.block⟩, ht3.fp⟩
    have hnb : ¬ y'.fp w.heap.size := by
      intro hf
      rcases HT.out.fp _ hf with h | h
      · have := HLT.out _ h
        omega
      · omega
    have b1' : w3.cell? ⟨w.heap.size, 0, none⟩ = some (.pointer (some ⟨y.g, 0, none⟩)) := ht3'.but.cell b1 hnb
    have HLO := Lib.hid (lose_ok hm3 xj (by show xj < sk.nl; rw [HNK.out]; omega))
    rw [ht3'.g, HT.out.g] at HLO
    have HT3 := Lib.hid ht3'
    have HN3 := Lib.hid hn3
    clear hm3 ht3 ht3' hn3 hst3 b1 b2 b3 b4
    gi_wp2_with (refine ⟨trivial, ?_⟩; gi_at_call 67; refine (CallsIn.inRound l (callsIn_wide.2 HLO.out)).mono ?_; rintro e w4 ⟨rfl, y4, hm4, ht4, hn4⟩)
    refine ⟨⟨Nat.le_trans HT3.out.size ht4.size, ?_⟩, ?_⟩
    · intro q o hq ho hc
      have hql := (Array.getElem?_eq_some_iff.1 ho).1
      have hnf : ¬ y'.fp q := by
        intro hf
        rcases fp_cells HMM.out hf with ⟨cs, t, h5⟩ | h5
        · rw [h5] at ho
          cases ho
          cases hc
        · rw [H2.out] at h5
          omega
      exact ((HT3.out.trans ht4).but.block q hql hnf).trans ho
    · refine cri_next HX.out HT.out H1.out H2.out H3.out HT3.out HN3.out ht4 hn4 ?_
      rw [← HSK.out]
      show MemAt w4 y4 ((sk.last xj (keptN keep xi (sk.pend.getD xj []).length)).lose xj)
      rw [HPK.out]
      exact hm4
  case done =>
    rintro D W hD hI hK
    gi_wp2
    refine ⟨by simp, .inl ⟨_, _, rfl, run_takeDeferred hK, ?_⟩⟩
    obtain ⟨y', hm, ht, h1, h2, h3⟩ := cri_stay (by omega) _ _ _ (some D) hI (grownBy_putObj' W D (.deferred none)) (fun r e => by cases e; exact ⟨hD, _, hK, rfl⟩)
    rw [List.take_length] at hm
    exact ⟨_, results_none rfl _ _ _, rfl, y', hm, (Turn.of_below y HB0.out).trans ht⟩
end Go.Proofs.YthibbcokpmckfaaGreatDoor
/- New: which sizes are refused; else a memory of noughts, in new blocks. For every size. -/
namespace Go.Proofs.YthibbcokpmckfaaGreatDoor
open Go.RowKit
set_option linter.unusedVariables false
attribute [local go_sem ↓] Go.wp_at_zero Go.wp_at_succ
theorem info23 : (Tryz.prog.info? 23).map (fun i => (i.zero, i.size, i.bytes)) = some (some (.int .u64 0), 1, 8) := by kernel_rfl
theorem info126 : (Tryz.prog.info? 126).map (fun i => (i.zero, i.size, i.bytes)) = some (some (.slice none 0 0), 1, 24) := by kernel_rfl

/-- May a memory have so many bytes? -/
def mayB (z : Int) : Bool := decide (64 ≤ z ∧ z ≤ 1048576 ∧ z % 64 = 0)

theorem new_no (z : Int) (w : World) (h : mayB z = false) : Calls Tryz.prog 32 #[.int .i64 z] w fun e w' => e = .returned (.tuple #[.pointer none, .int .i64 2]) ∧ w = w' := by
  have h' : ¬ (64 ≤ z ∧ z ≤ 1048576 ∧ z % 64 = 0) := by simpa [mayB] using h
  by_cases h1 : z < 64
  · clear h h'
    go_enter Tryz.func32, Tryz.ntmps32
    go_wp2
    go_ret2
    exact ⟨rfl, rfl⟩
  · by_cases h2 : 1048576 < z
    · clear h h'
      go_enter Tryz.func32, Tryz.ntmps32
      go_wp2
      go_ret2
      exact ⟨rfl, rfl⟩
    · have h3 : z % 64 ≠ 0 := by omega
      have h4 : ((z % 64) != 0) = true := by simpa using h3
      have h0 : 0 ≤ z := by omega
      clear h h' h3
      go_enter Tryz.func32, Tryz.ntmps32
      go_wp2
      go_ret2
      exact ⟨rfl, rfl⟩
/-- The state of a new memory. -/
def St.zero (nl : Nat) : St := ⟨nl, List.replicate (8 * nl) 0, List.replicate (8 * nl) 0, List.replicate nl [], fun _ _ => 0, 0, 0, 0, 0⟩
theorem rowAt {w : World} {t : TypeId} {cs : Array Value} {k : Nat} (h : k = w.heap.size) : Row (w.alloc (.cells cs t)) k t cs := by
  subst h
  exact Row.new w t cs
theorem mapAt {w : World} {es : Array MapEntry} {c k : Nat} (h : k = w.heap.size) : (w.alloc (.map es c)).heap[k]? = some (.map es c) := by
  subst h
  exact heap_alloc_new w _
theorem heapAlloc {w : World} {k : Nat} {x : Obj} (h : w.heap[k]? = some x) (o : Obj) : (w.alloc o).heap[k]? = some x :=
  (Below.heap_alloc w o k (Array.getElem?_eq_some_iff.1 h).1).trans h
theorem madeCells_one (z : Value) (n : Nat) : madeCells #[z] n = (List.replicate n z).toArray := by
  apply Array.ext'
  rw [toList_madeCells_one]
def NewPost (nl : Nat) (w : World) (e : Ending) (w' : World) : Prop :=
  ∃ y : Lay, e = .returned (.tuple #[.pointer (some ⟨y.g, 0, none⟩), .int .i64 0]) ∧ MemAt w' y (St.zero nl) ∧ (∀ k, y.fp k → w.heap.size ≤ k) ∧ Below w.heap.size w w'
theorem newPost_mk {nl N : Nat} {w w' : World} {g gl gv gp mb : Nat} (hN : N = 8 * nl) (h0 : 0 < nl) (h1 : nl ≤ 16384)
    (hr : Row w' g 122 #[.slice (some ⟨gl, 0, none⟩) N N, .slice (some ⟨gv, 0, none⟩) N N, .slice (some ⟨gp, 0, none⟩) nl nl, .map (some mb), wv 0, wv 0, wv 0, wv 0])
    (hl : Row w' gl 23 (madeCells #[.int .u64 0] N)) (hv : Row w' gv 23 (madeCells #[.int .u64 0] N))
    (hp : Row w' gp 126 (madeCells #[.slice none 0 0] nl)) (hm : w'.heap[mb]? = some (.map #[] 0)) (hne : gl ≠ gv)
    (b1 : w.heap.size ≤ g ∧ w.heap.size ≤ gl ∧ w.heap.size ≤ gv ∧ w.heap.size ≤ gp ∧ w.heap.size ≤ mb) (hb : Below w.heap.size w w') :
    NewPost nl w (.returned (.tuple #[.pointer (some ⟨g, 0, none⟩), .int .i64 0])) w' := by
  subst hN
  rw [madeCells_one] at hl hv hp
  have mx : 8 * nl ≤ maxLen ∧ nl ≤ maxLen := by unfold maxLen; omega
  have own : ∀ (G n : Nat) (t : TypeId) (z : Value), n ≤ maxLen → Row w' G t (List.replicate n z).toArray → w'.ownsRow 0 t 1 (.slice (some ⟨G, 0, none⟩) n n) n (List.replicate n z) := by
    intro G n t z hn hR
    exact ⟨by simp, .inr ⟨G, n, _, rfl, Nat.zero_le _, hR, Nat.le_refl _, hn, by simp, by simp⟩⟩
  have hps : ∀ (j : Nat) (v : Value), (List.replicate nl (Value.slice none 0 0))[j]? = some v → v = .slice none 0 0 := by
    intro j v h
    exact List.eq_of_mem_replicate (List.mem_of_getElem? h)
  have hpe : ∀ (j : Nat) (l : List (Nat × Nat)), (List.replicate nl ([] : List (Nat × Nat)))[j]? = some l → l = [] := by
    intro j v h
    exact List.eq_of_mem_replicate (List.mem_of_getElem? h)
  refine ⟨⟨g, gl, gv, gp, mb, 8 * nl, 8 * nl, nl, List.replicate nl (.slice none 0 0)⟩, rfl, ?_, ?_, hb⟩
  · refine ⟨hr, ?_, ?_, hne, own _ _ _ _ mx.2 hp, by simp [St.zero], ?_, ?_, ?_, h0, h1⟩
    · have := own _ _ _ _ mx.1 hl
      simpa [St.zero, wv] using this
    · have := own _ _ _ _ mx.1 hv
      simpa [St.zero, wv] using this
    · intro j h v l hv' hl'
      exact .inl ⟨hps j v hv', hpe j l hl'⟩
    · intro i j v u G hij hv' hu hG
      rw [hps i v hv'] at hG
      cases hG
    · refine ⟨.map [], ⟨#[], 0, hm, ⟨by simp, MapKept.stamped_empty 0, by simp⟩, Nat.le_refl _, rfl⟩, ?_, ?_, ?_⟩
      · intro k hk; cases hk
      · intro j hj
        constructor
        · intro hk; cases hk
        · rintro ⟨c, _, hc⟩
          exact absurd rfl hc
      · intro j hj z hk; cases hk
  · rintro k (rfl | rfl | rfl | rfl | rfl | ⟨j, v, hv', hk⟩)
    · exact b1.1
    · exact b1.2.1
    · exact b1.2.2.1
    · exact b1.2.2.2.1
    · exact b1.2.2.2.2
    · rw [hps j v hv'] at hk
      cases hk
theorem at5 (w : World) (a b c d e : Obj) :
    (((((w.alloc a).alloc b).alloc c).alloc d).alloc e).drew.heap[w.heap.size]? = some a ∧ (((((w.alloc a).alloc b).alloc c).alloc d).alloc e).drew.heap[w.heap.size + 1]? = some b ∧
    (((((w.alloc a).alloc b).alloc c).alloc d).alloc e).drew.heap[w.heap.size + 1 + 1]? = some c ∧ (((((w.alloc a).alloc b).alloc c).alloc d).alloc e).drew.heap[w.heap.size + 1 + 1 + 1]? = some d ∧
    (((((w.alloc a).alloc b).alloc c).alloc d).alloc e).drew.heap[w.heap.size + 1 + 1 + 1 + 1]? = some e := by
  have h : ∀ (W : World) (o : Obj) (k : Nat), k = W.heap.size → (W.alloc o).heap[k]? = some o := fun W o k e => by subst e; exact heap_alloc_new W o
  refine ⟨heapAlloc (heapAlloc (heapAlloc (heapAlloc (h _ a _ rfl) _) _) _) _, heapAlloc (heapAlloc (heapAlloc (h _ b _ ?_) _) _) _, heapAlloc (heapAlloc (h _ c _ ?_) _) _, heapAlloc (h _ d _ ?_) _, h _ e _ ?_⟩ <;> simp
theorem below5 (w : World) (a b c d e : Obj) : Below w.heap.size w (((((w.alloc a).alloc b).alloc c).alloc d).alloc e).drew :=
  Below.and (Below.and (Below.and (Below.and (Below.and (alloc_below w _) (alloc_below _ _)) (alloc_below _ _)) (alloc_below _ _)) (alloc_below _ _)) (drew_below _)
set_option maxRecDepth 100000 in
set_option maxHeartbeats 3200000 in
theorem new_yes (nl : Nat) (w : World) (h0 : 0 < nl) (h1 : nl ≤ 16384) : Calls Tryz.prog 32 #[.int .i64 (((64 * nl : Nat)) : Int)] w (NewPost nl w) := by
  obtain ⟨i0, hi, hz0, hz1, hz2⟩ := info_parts info23
  obtain ⟨j0, hj, hy0, hy1, hy2⟩ := info_parts info126
  have hm1 := fun W : World => run_make (P := Tryz.prog) W 117 23 i0 _ Tryz.underlying117 hi hz0 .i64 .i64 ((8 * nl : Nat) : Int) ((8 * nl : Nat) : Int) (by omega) (by omega) (by rw [hz2]; omega) (by omega)
  have hm2 := fun W : World => run_make (P := Tryz.prog) W 116 126 j0 _ Tryz.underlying116 hj hy0 .i64 .i64 ((nl : Nat) : Int) ((nl : Nat) : Int) (by omega) (by omega) (by rw [hy2]; omega) (by omega)
  have hmm := @run_makeMap Tryz.prog
  simp only [Int.toNat_natCast, hz1, hy1] at hm1 hm2
  obtain ⟨Z, hZ⟩ : ∃ Z, Z = 64 * nl := ⟨_, rfl⟩
  obtain ⟨N, hN⟩ : ∃ N, N = 8 * nl := ⟨_, rfl⟩
  have e1 : (Z : Int) / 8 = (N : Int) := by omega
  have e2 : (Z : Int) / 64 = (nl : Int) := by omega
  have e3 : ((Z : Int) % 64 != 0) = false := by
    have : (Z : Int) % 64 = 0 := by omega
    rw [this]; rfl
  rw [← hZ]
  rw [← hN] at hm1
  have b1 : 64 ≤ Z := by omega
  have b2 : Z ≤ 1048576 := by omega
  have e4 : IntKind.i64.wrap (N : Int) = (N : Int) := IntWalk.i64_in _ (by omega)
  have e5 : IntKind.i64.wrap (nl : Int) = (nl : Int) := IntWalk.i64_in _ (by omega)
  have e6 : decide ((Z : Int) < 64) = false := by simp; omega
  have e7 : decide (1048576 < (Z : Int)) = false := by simp; omega
  have HN := Lib.hid hN
  have H0 := Lib.hid h0
  have H1 := Lib.hid h1
  clear hZ hN
  go_enter Tryz.func32, Tryz.ntmps32
  go_wp2_with fail
  go_region_held3 (fun _ => True) (trivial) (fail)
  all_goals go_wp2
  all_goals go_ret2
  all_goals
    obtain ⟨ha, hb, hc, hd, he⟩ := at5 w _ _ _ _ _
    refine newPost_mk HN.out H0.out H1.out he ?_ ?_ ?_ ?_ ?_ ⟨?_, ?_, ?_, ?_, ?_⟩ (below5 _ _ _ _ _ _)
    · first | exact ha | exact hb | exact hc | exact hd
    · first | exact ha | exact hb | exact hc | exact hd
    · first | exact ha | exact hb | exact hc | exact hd
    · first | exact ha | exact hb | exact hc | exact hd
    all_goals omega
end Go.Proofs.YthibbcokpmckfaaGreatDoor
