/- The shelf's contract of sort.Search, laid at this program: its numbers, and the kernel's comparison; no conditions. -/
import Derived.Test.YtdhenfachjegpaaDoorGr
namespace Go.Proofs.YtdhenfachjegpaaDoor
def search_ren : Go.Shelf.Ren := ⟨fun | 16 => 38 | n => n, fun | 3 => 3 | 35 => 39 | 4 => 4 | 38 => 46 | n => n, fun | n => n⟩
theorem search : Go.Proofs.SlLaysO.n16 Tryd.prog search_ren := {
  mixed := by kernel_rfl
  f16 := Tryd.func38.trans (congrArg some (by kernel_rfl))
  t3 := Tryd.underlying3
  a3 := Tryd.isAgg3
  z3 := Tryd.sizeOf3
  v3 := Tryd.zeroValue3
  t4 := Tryd.underlying4
  a4 := Tryd.isAgg4
  z4 := Tryd.sizeOf4
  v4 := Tryd.zeroValue4
  t35 := Tryd.underlying39
  a35 := Tryd.isAgg39
  z35 := Tryd.sizeOf39
  v35 := Tryd.zeroValue39
  t38 := Tryd.underlying46
  a38 := Tryd.isAgg46
  z38 := Tryd.sizeOf46
  v38 := Tryd.zeroValue46 }
end Go.Proofs.YtdhenfachjegpaaDoor
