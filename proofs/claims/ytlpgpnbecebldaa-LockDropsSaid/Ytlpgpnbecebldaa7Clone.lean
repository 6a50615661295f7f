/- maps.Clone of who has which lock: a new map that reads the same. -/
import Derived.Test.Ytlpgpnbecebldaa7Drop
import Derived.Lib.SliceRun
import Derived.Shelf.SlMaps.Clone
namespace Go.Proofs.Ytlpgpnbecebldaa
open Go.RowKit Go.Shelf
set_option linter.unusedVariables false
def cloneKk_ren : Go.Shelf.Ren := ⟨fun | 5 => 32 | 7 => 39 | n => n, fun | 23 => 56 | 25 => 34 | 3 => 3 | 4 => 4 | 20 => 20 | n => n, fun | n => n⟩
theorem cloneKk : Go.Proofs.SlLaysW.n5 Try.prog cloneKk_ren := {
  mixed := by kernel_rfl
  f5 := ⟨Try.f32.name, by decide, Try.func32.trans (congrArg some (by kernel_rfl))⟩
  f7 := Try.func39.trans (congrArg some (by kernel_rfl))
  t4 := Try.underlying4
  a4 := Try.isAgg4
  z4 := Try.sizeOf4
  v4 := Try.zeroValue4
  t20 := Try.underlying20
  a20 := Try.isAgg20
  z20 := Try.sizeOf20
  v20 := Try.zeroValue20
  t23 := Try.underlying56
  a23 := Try.isAgg56
  z23 := Try.sizeOf56
  v23 := Try.zeroValue56 }
theorem cloneK_any {w : World} {b sz : Nat} {hm : Nat → Option Nat} (h : HasAt w b hm sz) :
    Calls Try.prog 32 #[.map (some b)] w fun e w' => e = .returned (.map (some w.heap.size)) ∧ HasAt w' w.heap.size hm sz ∧ HasAt w' b hm sz ∧ Below w.heap.size w w' := by
  obtain ⟨D, hown, h2, h3, h4⟩ := h
  refine (AnyW.maps_Clone_owns cloneKk 34 kR b sz D w hown).mono ?_
  rintro e w' ⟨rfl, g1, g2, hb⟩
  exact ⟨rfl, ⟨D, g1, h2, h3, h4⟩, ⟨D, g2, h2, h3, h4⟩, hb⟩
end Go.Proofs.Ytlpgpnbecebldaa
