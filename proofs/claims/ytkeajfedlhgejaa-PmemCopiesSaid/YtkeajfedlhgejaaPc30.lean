/- Texts of this claim, packed: R2Sm, Strong. -/
import Derived.Test.YtkeajfedlhgejaaPc27
import Derived.Test.YtkeajfedlhgejaaPc28
import Derived.Test.YtkeajfedlhgejaaPc29
import Derived.Test.YtkeajfedlhgejaaPc23
import Derived.Laws.StructEq
/- game.same: both memories look alike; for memories of at most eight lines. -/
namespace Go.Proofs.Ytkeajfedlhgejaa
open Go Go.RowKit
set_option linter.unusedVariables false
set_option maxRecDepth 100000 in
theorem eqStats (a b c d : Int) (w : World) : (Op.equalIn 10000 63 (.agg #[.int .u64 a, .int .u64 b, .int .u64 c, .int .u64 d]) (.agg #[.int .u64 a, .int .u64 b, .int .u64 c, .int .u64 d])).run Try.prog w = .ok true w := by
  have u3 := Try.underlying34
  have a3 := Try.isAgg34
  have z3 := Try.sizeOf34
  have hS : Try.prog.underlying 63 = some (.struct (Try.prog.fieldsOf 63)) := by kernel_rfl
  have hp : Try.prog.stoodInHeld 63 = false := by kernel_rfl
  rw [show (10000 : Nat) = 9999 + 1 from rfl, run_equalIn_agg w 9999 63 _ _ hS hp]
  simp only [Program.fieldsOf, Try.underlying63]
  go_simp
theorem neqStats (a b c d : Int) (w : World) : (binOp .neq 63 (.agg #[.int .u64 a, .int .u64 b, .int .u64 c, .int .u64 d]) (.agg #[.int .u64 a, .int .u64 b, .int .u64 c, .int .u64 d])).run Try.prog w = .ok (.bool false) w := by
  rw [run_neq_struct, eqStats]
  rfl
/-- The game in the block gg. -/
structure G2 (w : World) (gg : Nat) (y : Lay) (s : St) (g : Nat) (r : Rf) (vF vL : Value) (ms : List Value) : Prop where
  row : Row w gg 44 #[.pointer (some ⟨y.g, 0, none⟩), .pointer (some ⟨g, 0, none⟩)]
  m : MemAt w y s
  d : R2At w g r vF vL ms
  rel : RelAt s r
theorem G2.below {w w' : World} {gg : Nat} {y : Lay} {s : St} {g : Nat} {r : Rf} {vF vL : Value} {ms : List Value} (h : G2 w gg y s g r vF vL ms) (hb : Below w.heap.size w w') : G2 w' gg y s g r vF vL ms :=
  ⟨h.row.below hb h.row.lt, h.m.below hb, h.d.below hb, h.rel⟩
theorem G2.stats {w : World} {gg : Nat} {y : Lay} {s : St} {g : Nat} {r : Rf} {vF vL : Value} {ms : List Value} (h : G2 w gg y s g r vF vL ms) : w.rangeAt g 2 [.int .u64 (s.ld : Int), .int .u64 (s.st : Int), .int .u64 (s.fl : Int), .int .u64 (s.fe : Int)] := by
  intro j v hv
  rw [h.d.row.cell, h.rel.sd, h.rel.ss, h.rel.sf, h.rel.se] at *
  match j, hv with
  | 0, hv => cases hv; rfl
  | 1, hv => cases hv; rfl
  | 2, hv => cases hv; rfl
  | 3, hv => cases hv; rfl
  | j + 4, hv => simp at hv
end Go.Proofs.Ytkeajfedlhgejaa
/- What is held of a drawn region may be made stronger on the way; a slice turned to text is a step of it; no conditions. -/
namespace Go.Proofs.Ytkeajfedlhgejaa
open Go Go.RowKit
set_option linter.unusedVariables false
theorem wpAnyH_strong {P : Program} {md : Region.Mode} {ops : Array Oper} {Q : Exit → Act → World → Prop} {S S' : World → Prop} (hi : ∀ w, S' w → S w) : ∀ (fuel : Nat) (listed : Array Bool) (a : Act) (w : World), wpAnyH P md ops Q S' fuel listed a w → wpAnyH P md ops Q S fuel listed a w
  | 0, _, _, _, h => h
  | fuel + 1, _, _, _, h => ⟨h.1, fun i hr => wpOp_mono (fun a' w' h' => ⟨hi _ h'.1, wpAnyH_strong hi fuel _ a' w' h'.2⟩) (h.2 i hr)⟩
/-- From the world w on. -/
def FromW (w W : World) : Prop := Below w.heap.size w W
theorem FromW.refl (w : World) : FromW w w := Below.refl _ _
theorem FromW.next {w w1 W : World} (h : FromW w w1) (h2 : FromW w1 W) : FromW w W := Below.and h h2
end Go.Proofs.Ytkeajfedlhgejaa
