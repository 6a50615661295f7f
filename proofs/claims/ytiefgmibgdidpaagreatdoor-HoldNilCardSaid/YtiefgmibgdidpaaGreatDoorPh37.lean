/- Texts of this claim, packed: HLen. -/
import Derived.Test.YtiefgmibgdidpaaGreatDoorRows
import Derived.Shelf.Small.Bits
/- The shelf's contract of math/bits.Len, laid at this program: its numbers, and the kernel's comparison; no conditions. -/
namespace Go.Proofs.YtiefgmibgdidpaaGreatDoor
open Go.Shelf
def bitsLenL_ren : Go.Shelf.Ren := ⟨fun | 125 => 81 | 128 => 101 | 129 => 102 | n => n, fun | 46 => 158 | 3 => 3 | 51 => 174 | 53 => 27 | 4 => 4 | 5 => 5 | 9 => 9 | n => n, fun | n => n⟩
theorem bitsLenL : Go.Proofs.Lays.n125 Tryz.prog bitsLenL_ren := {
  mixed := by kernel_rfl
  f125 := Tryz.func81.trans (congrArg some (by kernel_rfl))
  f128 := Tryz.func101.trans (congrArg some (by kernel_rfl))
  f129 := Tryz.func102.trans (congrArg some (by kernel_rfl))
  t3 := Tryz.underlying3
  a3 := Tryz.isAgg3
  z3 := Tryz.sizeOf3
  v3 := Tryz.zeroValue3
  t4 := Tryz.underlying4
  a4 := Tryz.isAgg4
  z4 := Tryz.sizeOf4
  v4 := Tryz.zeroValue4
  t5 := Tryz.underlying5
  a5 := Tryz.isAgg5
  z5 := Tryz.sizeOf5
  v5 := Tryz.zeroValue5
  t9 := Tryz.underlying9
  a9 := Tryz.isAgg9
  z9 := Tryz.sizeOf9
  v9 := Tryz.zeroValue9
  t46 := Tryz.underlying158
  a46 := Tryz.isAgg158
  z46 := Tryz.sizeOf158
  v46 := Tryz.zeroValue158
  t51 := Tryz.underlying174
  a51 := Tryz.isAgg174
  z51 := Tryz.sizeOf174
  v51 := Tryz.zeroValue174
  t53 := Tryz.underlying27
  a53 := Tryz.isAgg27
  z53 := Tryz.sizeOf27
  v53 := Tryz.zeroValue27 }
end Go.Proofs.YtiefgmibgdidpaaGreatDoor
