/- Texts of this claim, packed: HLay. -/
import Derived.Test.YthibbcokpmckfaaGreatDoorZ10
import Derived.Shelf.SlicesE.IndexFunc
import Derived.Shelf.SlicesE.Compact
import Derived.Shelf.SlicesE.Clone
/- The shelf's contracts of slices.Clone, Compact, IndexFunc at lists of addresses, laid at this program: its numbers, and the kernel's comparison; no conditions. -/
namespace Go.Proofs.YthibbcokpmckfaaGreatDoor
open Go.Shelf
def cloneA_ren : Go.Shelf.Ren := ⟨fun | 41 => 80 | n => n, fun | 22 => 60 | 23 => 24 | 4 => 4 | n => n, fun | n => n⟩
theorem cloneA : Go.Proofs.SlLaysE0.n41 Tryz.prog cloneA_ren := {
  mixed := by kernel_rfl
  f41 := ⟨Tryz.f80.name, by decide, Tryz.func80.trans (congrArg some (by kernel_rfl))⟩
  t4 := Tryz.underlying4
  a4 := Tryz.isAgg4
  z4 := Tryz.sizeOf4
  v4 := Tryz.zeroValue4
  t22 := Tryz.underlying60
  a22 := Tryz.isAgg60
  z22 := Tryz.sizeOf60
  v22 := Tryz.zeroValue60 }
def compactA_ren : Go.Shelf.Ren := ⟨fun | 43 => 82 | n => n, fun | 22 => 60 | 23 => 24 | 3 => 3 | 4 => 4 | 0 => 0 | n => n, fun | n => n⟩
theorem compactA : Go.Proofs.SlLaysE.n43 Tryz.prog compactA_ren := {
  mixed := by kernel_rfl
  f43 := ⟨Tryz.f82.name, by decide, Tryz.func82.trans (congrArg some (by kernel_rfl))⟩
  t0 := Tryz.underlying0
  a0 := Tryz.isAgg0
  z0 := Tryz.sizeOf0
  v0 := Tryz.zeroValue0
  t3 := Tryz.underlying3
  a3 := Tryz.isAgg3
  z3 := Tryz.sizeOf3
  v3 := Tryz.zeroValue3
  t4 := Tryz.underlying4
  a4 := Tryz.isAgg4
  z4 := Tryz.sizeOf4
  v4 := Tryz.zeroValue4
  t22 := Tryz.underlying60
  a22 := Tryz.isAgg60
  z22 := Tryz.sizeOf60
  v22 := Tryz.zeroValue60
  a23 := Tryz.isAgg24
  z23 := Tryz.sizeOf24 }
def indexF_ren : Go.Shelf.Ren := ⟨fun | 6 => 141 | n => n, fun | 22 => 151 | 23 => 24 | 25 => 164 | 3 => 3 | 0 => 0 | 4 => 4 | n => n, fun | n => n⟩
theorem indexF : Go.Proofs.SlLaysH.n6 Tryz.prog indexF_ren := {
  mixed := by kernel_rfl
  f6 := ⟨Tryz.f141.name, by decide, Tryz.func141.trans (congrArg some (by kernel_rfl))⟩
  t0 := Tryz.underlying0
  a0 := Tryz.isAgg0
  z0 := Tryz.sizeOf0
  v0 := Tryz.zeroValue0
  t3 := Tryz.underlying3
  a3 := Tryz.isAgg3
  z3 := Tryz.sizeOf3
  v3 := Tryz.zeroValue3
  t4 := Tryz.underlying4
  a4 := Tryz.isAgg4
  z4 := Tryz.sizeOf4
  v4 := Tryz.zeroValue4
  t22 := Tryz.underlying151
  a22 := Tryz.isAgg151
  z22 := Tryz.sizeOf151
  v22 := Tryz.zeroValue151
  a23 := Tryz.isAgg24
  z23 := Tryz.sizeOf24
  t25 := Tryz.underlying164
  a25 := Tryz.isAgg164
  z25 := Tryz.sizeOf164
  v25 := Tryz.zeroValue164 }
end Go.Proofs.YthibbcokpmckfaaGreatDoor
