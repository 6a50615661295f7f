/- Texts of this claim, packed: HLay. -/
import Derived.Test.YtedefebdfcgjeaaGreatDoorPq11
import Derived.Shelf.SlicesE.IndexFunc
import Derived.Shelf.SlicesE.Compact
import Derived.Shelf.SlicesE.Clone
/- The shelf's contracts of slices.Clone, Compact, IndexFunc at lists of addresses, laid at this program: its numbers, and the kernel's comparison; no conditions. -/
namespace Go.Proofs.YtedefebdfcgjeaaGreatDoor
open Go.Shelf
def cloneA_ren : Go.Shelf.Ren := ⟨fun | 41 => 63 | n => n, fun | 22 => 38 | 23 => 40 | 4 => 4 | n => n, fun | n => n⟩
theorem cloneA : Go.Proofs.SlLaysE0.n41 Tryz.prog cloneA_ren := {
  mixed := by kernel_rfl
  f41 := ⟨Tryz.f63.name, by decide, Tryz.func63.trans (congrArg some (by kernel_rfl))⟩
  t4 := Tryz.underlying4
  a4 := Tryz.isAgg4
  z4 := Tryz.sizeOf4
  v4 := Tryz.zeroValue4
  t22 := Tryz.underlying38
  a22 := Tryz.isAgg38
  z22 := Tryz.sizeOf38
  v22 := Tryz.zeroValue38 }
def compactA_ren : Go.Shelf.Ren := ⟨fun | 43 => 65 | n => n, fun | 22 => 38 | 23 => 40 | 3 => 3 | 4 => 4 | 0 => 0 | n => n, fun | n => n⟩
theorem compactA : Go.Proofs.SlLaysE.n43 Tryz.prog compactA_ren := {
  mixed := by kernel_rfl
  f43 := ⟨Tryz.f65.name, by decide, Tryz.func65.trans (congrArg some (by kernel_rfl))⟩
  t0 := Tryz.underlying0
  a0 := Tryz.isAgg0
  z0 := Tryz.sizeOf0
  v0 := Tryz.zeroValue0
  t3 := Tryz.underlying3
  a3 := Tryz.isAgg3
  z3 := Tryz.sizeOf3
  v3 := Tryz.zeroValue3
  t4 := Tryz.underlying4
  a4 := Tryz.isAgg4
  z4 := Tryz.sizeOf4
  v4 := Tryz.zeroValue4
  t22 := Tryz.underlying38
  a22 := Tryz.isAgg38
  z22 := Tryz.sizeOf38
  v22 := Tryz.zeroValue38
  a23 := Tryz.isAgg40
  z23 := Tryz.sizeOf40 }
def indexF_ren : Go.Shelf.Ren := ⟨fun | 6 => 130 | n => n, fun | 22 => 130 | 23 => 40 | 25 => 144 | 3 => 3 | 0 => 0 | 4 => 4 | n => n, fun | n => n⟩
theorem indexF : Go.Proofs.SlLaysH.n6 Tryz.prog indexF_ren := {
  mixed := by kernel_rfl
  f6 := ⟨Tryz.f130.name, by decide, Tryz.func130.trans (congrArg some (by kernel_rfl))⟩
  t0 := Tryz.underlying0
  a0 := Tryz.isAgg0
  z0 := Tryz.sizeOf0
  v0 := Tryz.zeroValue0
  t3 := Tryz.underlying3
  a3 := Tryz.isAgg3
  z3 := Tryz.sizeOf3
  v3 := Tryz.zeroValue3
  t4 := Tryz.underlying4
  a4 := Tryz.isAgg4
  z4 := Tryz.sizeOf4
  v4 := Tryz.zeroValue4
  t22 := Tryz.underlying130
  a22 := Tryz.isAgg130
  z22 := Tryz.sizeOf130
  v22 := Tryz.zeroValue130
  a23 := Tryz.isAgg40
  z23 := Tryz.sizeOf40
  t25 := Tryz.underlying144
  a25 := Tryz.isAgg144
  z25 := Tryz.sizeOf144
  v25 := Tryz.zeroValue144 }
end Go.Proofs.YtedefebdfcgjeaaGreatDoor
