/- Texts of this claim, packed: LTurn, LPub, LStep, LGame. -/
import Derived.Test.YtpjlajkjknkbaaaGreatDoorPg30
import Derived.Laws.EntriesVeiled
/- refused, turn: may there be a turn of a block, and one that begins. -/
namespace Go.Proofs.YtpjlajkjknkbaaaGreatDoor
open Go.RowKit Go.Sort
set_option linter.unusedVariables false
def place (f : FuncId) (gt : Nat) : Value := .func (.func f) #[fpt gt] #[]
end Go.Proofs.YtpjlajkjknkbaaaGreatDoor
/- Publish, Free: a turn that begins, or why there is none. -/
namespace Go.Proofs.YtpjlajkjknkbaaaGreatDoor
open Go.RowKit Go.Sort
set_option linter.unusedVariables false
end Go.Proofs.YtpjlajkjknkbaaaGreatDoor
/- A turn's step, of whatever its place does; of no turn, a zero one, one that is done. -/
namespace Go.Proofs.YtpjlajkjknkbaaaGreatDoor
open Go.RowKit Go.Sort
set_option linter.unusedVariables false
attribute [local go_sem] Oper.semAt_some
end Go.Proofs.YtpjlajkjknkbaaaGreatDoor
/- A memory, its arena's blocks, and a turn's struct, side by side: plain facts. -/
namespace Go.Proofs.YtpjlajkjknkbaaaGreatDoor
open Go.RowKit Go.Sort
set_option linter.unusedVariables false
structure Game (w : World) (ym : Lay) (s : St) (y : SLay) (hs : List Hd) (fs : Nat → List Nat) : Prop where
  pm : MemAt w ym s
  ok : s.Ok
  mem : SlabMem w y hs fs
  ho : HsOk hs
  fo : FsOk hs fs
  rs : RS w y
  rm : ¬ ym.fp 0
  size : 64 * s.nl = 1024 * (hs.length + 1)
/-- What a call makes of them: nothing turns but their own blocks; these, or new ones, are theirs behind it. -/
structure GTurn (w w' : World) (ym ym' : Lay) (y y' : SLay) (gt : Nat) : Prop where
  g : ym'.g = ym.g
  gs : y'.gs = y.gs
  gh : y'.gh = y.gh
  gf : y'.gf = y.gf
  but : But w w' (fun k => ym.fp k ∨ y.fp k ∨ k = gt)
  fm : ∀ k, ym'.fp k → ym.fp k ∨ w.heap.size ≤ k
  fy : ∀ k, y'.fp k → y.fp k ∨ w.heap.size ≤ k
theorem GTurn.trans {w w1 w2 : World} {ym ym1 ym2 : Lay} {y y1 y2 : SLay} {gt : Nat} (h : GTurn w w1 ym ym1 y y1 gt) (h2 : GTurn w1 w2 ym1 ym2 y1 y2 gt) : GTurn w w2 ym ym2 y y2 gt := by
  refine ⟨h2.g.trans h.g, h2.gs.trans h.gs, h2.gh.trans h.gh, h2.gf.trans h.gf, h.but.trans h2.but fun k hk => ?_, fun k hk => ?_, fun k hk => ?_⟩
  · rcases hk with hk | hk | hk
    · rcases h.fm k hk with h1 | h1
      · exact .inl (.inl h1)
      · exact .inr h1
    · rcases h.fy k hk with h1 | h1
      · exact .inl (.inr (.inl h1))
      · exact .inr h1
    · exact .inl (.inr (.inr hk))
  · rcases h2.fm k hk with h1 | h1
    · exact h.fm k h1
    · exact .inr (Nat.le_trans h.but.size h1)
  · rcases h2.fy k hk with h1 | h1
    · exact h.fy k h1
    · exact .inr (Nat.le_trans h.but.size h1)
theorem GTurn.of_slab {w w' : World} (ym : Lay) {y y' : SLay} (gt : Nat) (t : STurn w w' y y') : GTurn w w' ym ym y y' gt := ⟨rfl, t.gs, t.gh, t.gf, t.but.mono fun k h => .inr (.inl h), fun _ h => .inl h, t.fp⟩
theorem GTurn.of_below {w w' : World} (ym : Lay) (y : SLay) (gt : Nat) (h : Below w.heap.size w w') : GTurn w w' ym ym y y gt := ⟨rfl, rfl, rfl, rfl, But.of_below h _, fun _ h => .inl h, fun _ h => .inl h⟩
section
variable {w w' : World} {ym ym' : Lay} {s s' : St} {y y' : SLay} {hs hs' : List Hd} {fs fs' : Nat → List Nat} {gt : Nat} {cs : Array Value}
theorem Game.below (G : Game w ym s y hs fs) (hb : Below w.heap.size w w') : Game w' ym s y hs fs :=
  ⟨G.pm.below hb, G.ok, G.mem.below hb, G.ho, G.fo, G.rs.below hb, G.rm, G.size⟩
theorem Game.onSlab (G : Game w ym s y hs fs) (hm : SlabMem w' y' hs' fs') (ho : HsOk hs') (fo : FsOk hs' fs') (hl : hs'.length = hs.length) (t : STurn w w' y y') : Game w' ym s y' hs' fs' :=
  ⟨G.pm.slab G.mem t, G.ok, hm, ho, fo, G.rs.turn t, G.rm, by rw [hl]; exact G.size⟩
end
end Go.Proofs.YtpjlajkjknkbaaaGreatDoor
