/- The zero value of a client's marks, in a seat whose loader names none of more than 64 cells; without conditions. -/
import Derived.Test.YtgapncamnmngeaaMem
namespace Go.Proofs.Ytgapncamnmngeaa
open Go.RowKit

/-- Its cells. -/
def Try.zeroCells86 : Array Value := Array.replicate 65 (Value.int .i64 0)
@[simp] theorem zcVal (w : World) : (zeroValue 86).run Try.prog w = .ok (.agg Try.zeroCells86) w := by kernel_rfl
@[simp] theorem zcSize : (Try.zeroCells86).size = 65 := by kernel_rfl
@[simp] theorem zcNe : Try.zeroCells86 ≠ #[] := by
  intro h
  have := congrArg Array.size h
  rw [zcSize] at this
  cases this
end Go.Proofs.Ytgapncamnmngeaa
