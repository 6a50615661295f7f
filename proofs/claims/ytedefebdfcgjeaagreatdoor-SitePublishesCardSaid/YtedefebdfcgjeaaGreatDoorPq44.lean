/- Texts of this claim, packed: SiA. -/
import Derived.Test.YtedefebdfcgjeaaGreatDoorPq35
import Derived.Test.YtedefebdfcgjeaaGreatDoorPq43
import Derived.Carry
/- The blocks of an arena of noughts: none of them has a class; for any number of slabs. -/
namespace Go.Proofs.YtedefebdfcgjeaaGreatDoor
open Go.RowKit Go.Sort
set_option linter.unusedVariables false
theorem ofB_nought (n : Nat) : ofB (List.replicate n 0) = 0 := by
  induction n with
  | zero => rfl
  | succ n ih => rw [List.replicate_succ]; show 0 + 256 * ofB _ = 0; rw [ih]
theorem pw_nought (n k i : Nat) : pw (List.replicate n 0) k i = 0 := by
  unfold pw
  rw [List.take_replicate, List.drop_replicate, List.take_replicate, ofB_nought]
theorem hcW_nought (m q : Nat) : hcW (List.replicate m 0) q = 0 := pw_nought _ _ _
theorem hbW_nought (m q : Nat) : hbW (List.replicate m 0) q = 0 := pw_nought _ _ _
theorem okHeads_nought (m n : Nat) : okHeads (List.replicate m 0) n := by
  intro q _
  rw [hcW_nought, hbW_nought]
  decide +kernel
/-- Headers of slabs that have no class. -/
def New0 (hs : List Hd) : Prop := ∀ i x, hs[i]? = some x → x = (⟨i + 1, 0, 0, []⟩ : Hd)
theorem new0_K (m n : Nat) : New0 (hsK (hcW (List.replicate m 0)) (hbW (List.replicate m 0)) n n) := by
  intro i x h
  unfold hsK at h
  rw [List.getElem?_map] at h
  by_cases hi : i < n
  · rw [List.getElem?_range hi] at h
    simp only [Option.map_some, Option.some.injEq] at h
    rw [if_pos hi] at h
    subst h
    unfold hdOf
    rw [hcW_nought, hbW_nought]
    rfl
  · rw [List.getElem?_eq_none (by rw [List.length_range]; omega)] at h
    cases h
def SlabZPost (W : World) (n : Nat) (e : Ending) (w' : World) : Prop :=
  ∃ y hs fs, e = .returned (.tuple #[fpt y.gs, .int .i64 0]) ∧ SlabMem w' y hs fs ∧ hs.length = n ∧ New0 hs ∧ HsOk hs ∧ FsOk hs fs ∧ (∀ k, y.fp k → W.heap.size ≤ k) ∧ Below W.heap.size W w'
theorem slabZ_any {W : World} (R : Rms W) {m n ca : Nat} {A : Option Addr} (hm : m = 1024 * (n + 1)) (h0 : 0 < n) (h1 : n ≤ 64) (hA : Sl W A ((List.replicate m 0).map bv)) :
    Calls Tryz.prog 7 #[.slice A m ca] W (SlabZPost W n) := by
  have := slabOf_yes (A := A) (cap := ca) (l := List.replicate m 0) (by rw [List.length_replicate, hm]) hA (fun x hx => by rw [List.eq_of_mem_replicate hx]; decide) h0 h1 R
  rw [← hm] at this
  refine this.mono fun e w' hp => ?_
  rcases hp with ⟨_, y, he, hmem, hf, hb⟩ | ⟨hno, _⟩
  · exact ⟨y, _, _, he, hmem, hsK_len _ _ _ _, new0_K _ _, hsK_ok _ _ _, fsK_ok _ _ _, hf, hb⟩
  · exact absurd (okHeads_nought m n) hno
theorem slabs_is {w : World} {y : SLay} {hs : List Hd} {fs : Nat → List Nat} {n : Nat} (h : SlabMem w y hs fs) (hn : hs.length = n) : SlabsIs w (some ⟨y.gs, 0, none⟩) n := fun W hb => by
  have := slabs_at (h.below hb)
  rw [hn] at this
  exact this
theorem size_is {w : World} {y : Lay} {s : St} (h : MemAt w y s) : SizeIs w (some ⟨y.g, 0, none⟩) ((64 * s.nl : Nat) : Int) := fun W hb => size_yes (h.below hb)
/-- make of so many bytes. -/
theorem makeB (m : Nat) (hm : m ≤ 1099511627776) (W : World) : (Instr.makeSlice 31 (.int .i64 (m : Int)) (.int .i64 (m : Int))).run Tryz.prog W = .ok (.slice (some ⟨W.heap.size, 0, none⟩) m m) (W.alloc (.cells (Array.replicate m (bv 0)) 5)) := by
  obtain ⟨i0, hi, hz0, hz1, hz2⟩ := info_parts info5
  have h := run_make (P := Tryz.prog) (w := W) 31 5 i0 _ Tryz.underlying31 hi hz0 .i64 .i64 (m : Int) (m : Int) (by omega) (by omega) (by rw [hz2]; omega) (by omega)
  simp only [Int.toNat_natCast, hz1] at h
  refine h.trans ?_
  show Result.ok _ (W.alloc (.cells (madeCells #[Value.int .u8 0] (m * 1)) 5)) = _
  rw [Nat.mul_one, madeCells_one, List.toArray_replicate]
  rfl
theorem zeros_sl {w : World} {g m : Nat} (h : Row w g 5 (Array.replicate m (bv 0))) : Sl w (some ⟨g, 0, none⟩) ((List.replicate m 0).map bv) := by
  refine row_sl (t := 5) ?_
  rw [List.map_replicate, List.toArray_replicate]
  exact h
end Go.Proofs.YtedefebdfcgjeaaGreatDoor
