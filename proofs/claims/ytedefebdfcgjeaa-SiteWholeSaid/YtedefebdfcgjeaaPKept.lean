/- kept: how many pending stores a crash lets last; for numbers from 0 on, and any list of integers. -/
import Derived.Test.YtedefebdfcgjeaaPSmall
namespace Go.Proofs.Ytedefebdfcgjeaa
open Go.RowKit
set_option linter.unusedVariables false
def iv (z : Int) : Value := .int .i64 z
def keptN (keep : List Int) (i n : Nat) : Nat := if keep = [] then 0 else (max 0 (keep.getD (i % keep.length) 0)).toNat % (n + 1)
theorem keptN_le (keep : List Int) (i n : Nat) : keptN keep i n ≤ n := by
  unfold keptN
  split
  · omega
  · have := Nat.mod_lt (max 0 (keep.getD (i % keep.length) 0)).toNat (show 0 < n + 1 by omega)
    omega
end Go.Proofs.Ytedefebdfcgjeaa
