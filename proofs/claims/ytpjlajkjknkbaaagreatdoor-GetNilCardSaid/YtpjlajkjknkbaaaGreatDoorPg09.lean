/- Texts of this claim, packed: HLen. -/
import Derived.Test.YtpjlajkjknkbaaaGreatDoorRows
import Derived.Shelf.Small.Bits
/- The shelf's contract of math/bits.Len, laid at this program: its numbers, and the kernel's comparison; no conditions. -/
namespace Go.Proofs.YtpjlajkjknkbaaaGreatDoor
open Go.Shelf
def bitsLenL_ren : Go.Shelf.Ren := ⟨fun | 125 => 128 | 128 => 153 | 129 => 154 | n => n, fun | 46 => 216 | 3 => 3 | 51 => 243 | 53 => 24 | 4 => 4 | 5 => 5 | 9 => 9 | n => n, fun | n => n⟩
theorem bitsLenL : Go.Proofs.Lays.n125 Tryz.prog bitsLenL_ren := {
  mixed := by kernel_rfl
  f125 := Tryz.func128.trans (congrArg some (by kernel_rfl))
  f128 := Tryz.func153.trans (congrArg some (by kernel_rfl))
  f129 := Tryz.func154.trans (congrArg some (by kernel_rfl))
  t3 := Tryz.underlying3
  a3 := Tryz.isAgg3
  z3 := Tryz.sizeOf3
  v3 := Tryz.zeroValue3
  t4 := Tryz.underlying4
  a4 := Tryz.isAgg4
  z4 := Tryz.sizeOf4
  v4 := Tryz.zeroValue4
  t5 := Tryz.underlying5
  a5 := Tryz.isAgg5
  z5 := Tryz.sizeOf5
  v5 := Tryz.zeroValue5
  t9 := Tryz.underlying9
  a9 := Tryz.isAgg9
  z9 := Tryz.sizeOf9
  v9 := Tryz.zeroValue9
  t46 := Tryz.underlying216
  a46 := Tryz.isAgg216
  z46 := Tryz.sizeOf216
  v46 := Tryz.zeroValue216
  t51 := Tryz.underlying243
  a51 := Tryz.isAgg243
  z51 := Tryz.sizeOf243
  v51 := Tryz.zeroValue243
  t53 := Tryz.underlying24
  a53 := Tryz.isAgg24
  z53 := Tryz.sizeOf24
  v53 := Tryz.zeroValue24 }
end Go.Proofs.YtpjlajkjknkbaaaGreatDoor
