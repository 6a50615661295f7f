/-
  NARROWER THAN 'FOR EVERY INPUT', by the rows' own cells (each row's printed sentence says how): SuperMakes: laid · SuperMay: laid · SuperWords: laid · SuperReads: laid · SuperBits: laid · SuperPlaces: laid.
  DERIVED. THE GIVEN ROWS OF THIS SEAT. 6 by the template 'for every input the law returns true; each argument reads behind the call as it read before'; 0 by the template 'total and deterministic' (their statements: YtlpampbdnbjphaaDoorTotals.lean).
  GIVEN WITH THE SEED: the statements are not yours to turn. If you find one false, say at which input.
  Laid BY PROGRAM, IN A SANDBOX (cutbox-rows.mjs): the forced cells as the released guide's own fill.sh prints them over the translation f44683f840829eba… (all of the seat's roots in one cut). By AI agents, Wed Nov 11 2026. No macro, syntax, notation, axiom, sorry.
-/
import Derived.Test.YtlpampbdnbjphaaDoorChecked
import GoSem.Claim
import GoSem.ClaimJoined
import GoSem.ClaimMapViews
import Derived.JoinedTies
import Derived.KernelRfl
namespace Go.Proofs.YtlpampbdnbjphaaDoor
/- THE CELL 'sum', in the pinned program and in every row, IS THE sha256 OF THE DUMP (.gsa) THAT YtlpampbdnbjphaaDoorProg.lean LOADS. Nothing in Lean hashes anything: it is a label: what it is worth is what the hold of that sum in a sandbox is worth. -/
noncomputable def Tryd.pinned : Pinned := { name := "ytlpampbdnbjphaadoor", sum := "f44683f840829eba0f0f39d9e8560d358c86f0dcd3a47ea37812786fd5fd677d", checked := Tryd.checked }
namespace Rows
def none {H : Type} : Left H := { results := [], args := [] }

/- WHAT THE LISTED PACKAGE-LEVEL VARIABLES READ AS WHEN THE CALL BEGINS. Each datum BY PROGRAM (the guide's laid-datum.mjs) off the statement by which the dump's own 'gosem.cut.vars' lays the variable. In a bare row this is a premise. The card (YtlpampbdnbjphaaDoorCards.lean) ties it to the program's text. -/
def laid_levee_geo_rooms {H : Type} : DataW H := .agg [.agg [.lit (.int .i64 0), .lit (.int .i64 0), .lit (.int .i64 (-1))], .agg [.lit (.int .i64 64), .lit (.int .i64 15), .lit (.int .i64 56)], .agg [.lit (.int .i64 128), .lit (.int .i64 7), .lit (.int .i64 120)], .agg [.lit (.int .i64 192), .lit (.int .i64 5), .lit (.int .i64 (-1))]]

/-- 'leveelaw04.SuperMakes': WHATEVER THE INPUT: true; the input reads as it did. -/
def superMakesSpec : ChangeSpec := { name := "superMakes", fn := fun _ => fun
  | [d1, d2, d3] => { results := [.lit (.bool true)], args := [d1, d2, d3] }
  | _ => none }
def superMakesRow : OpenClaim := { program := "ytlpampbdnbjphaadoor", sum := "f44683f840829eba0f0f39d9e8560d358c86f0dcd3a47ea37812786fd5fd677d", func := "levee/leveelaw04.SuperMakes", spec := "superMakes", unfollowed := true, recurses := true, named := ["levee/geo.rooms"], apart := false, laid := [("levee/geo.rooms", laid_levee_geo_rooms)] }
def SuperMakesSaid : Prop := superMakesRow.holds Tryd.pinned (OpenSpec.ofChange superMakesSpec)

/-- ITS FALSE NEIGHBOUR: 'it returns false'. Refute it at one input. -/
def superMakesWrong : ChangeSpec := { name := "superMakes", fn := fun _ => fun
  | [d1, d2, d3] => { results := [.lit (.bool false)], args := [d1, d2, d3] }
  | _ => none }
def SuperMakesWrongFalsely : Prop := superMakesRow.holds Tryd.pinned (OpenSpec.ofChange superMakesWrong)

/-- 'leveelaw04.SuperMay': WHATEVER THE INPUT: true; the input reads as it did. -/
def superMaySpec : ChangeSpec := { name := "superMay", fn := fun _ => fun
  | [d1, d2] => { results := [.lit (.bool true)], args := [d1, d2] }
  | _ => none }
def superMayRow : OpenClaim := { program := "ytlpampbdnbjphaadoor", sum := "f44683f840829eba0f0f39d9e8560d358c86f0dcd3a47ea37812786fd5fd677d", func := "levee/leveelaw04.SuperMay", spec := "superMay", unfollowed := true, recurses := true, named := ["levee/geo.rooms"], apart := false, laid := [("levee/geo.rooms", laid_levee_geo_rooms)] }
def SuperMaySaid : Prop := superMayRow.holds Tryd.pinned (OpenSpec.ofChange superMaySpec)

/-- ITS FALSE NEIGHBOUR: 'it returns false'. Refute it at one input. -/
def superMayWrong : ChangeSpec := { name := "superMay", fn := fun _ => fun
  | [d1, d2] => { results := [.lit (.bool false)], args := [d1, d2] }
  | _ => none }
def SuperMayWrongFalsely : Prop := superMayRow.holds Tryd.pinned (OpenSpec.ofChange superMayWrong)

/-- 'leveelaw04.SuperWords': WHATEVER THE INPUT: true; the input reads as it did. -/
def superWordsSpec : ChangeSpec := { name := "superWords", fn := fun _ => fun
  | [d] => { results := [.lit (.bool true)], args := [d] }
  | _ => none }
def superWordsRow : OpenClaim := { program := "ytlpampbdnbjphaadoor", sum := "f44683f840829eba0f0f39d9e8560d358c86f0dcd3a47ea37812786fd5fd677d", func := "levee/leveelaw04.SuperWords", spec := "superWords", unfollowed := true, recurses := true, named := ["levee/geo.rooms"], apart := false, laid := [("levee/geo.rooms", laid_levee_geo_rooms)] }
def SuperWordsSaid : Prop := superWordsRow.holds Tryd.pinned (OpenSpec.ofChange superWordsSpec)

/-- ITS FALSE NEIGHBOUR: 'it returns false'. Refute it at one input. -/
def superWordsWrong : ChangeSpec := { name := "superWords", fn := fun _ => fun
  | [d] => { results := [.lit (.bool false)], args := [d] }
  | _ => none }
def SuperWordsWrongFalsely : Prop := superWordsRow.holds Tryd.pinned (OpenSpec.ofChange superWordsWrong)

/-- 'leveelaw04.SuperReads': WHATEVER THE INPUT: true; the input reads as it did. -/
def superReadsSpec : ChangeSpec := { name := "superReads", fn := fun _ => fun
  | [d] => { results := [.lit (.bool true)], args := [d] }
  | _ => none }
def superReadsRow : OpenClaim := { program := "ytlpampbdnbjphaadoor", sum := "f44683f840829eba0f0f39d9e8560d358c86f0dcd3a47ea37812786fd5fd677d", func := "levee/leveelaw04.SuperReads", spec := "superReads", unfollowed := true, recurses := true, named := ["levee/geo.rooms"], apart := false, laid := [("levee/geo.rooms", laid_levee_geo_rooms)] }
def SuperReadsSaid : Prop := superReadsRow.holds Tryd.pinned (OpenSpec.ofChange superReadsSpec)

/-- ITS FALSE NEIGHBOUR: 'it returns false'. Refute it at one input. -/
def superReadsWrong : ChangeSpec := { name := "superReads", fn := fun _ => fun
  | [d] => { results := [.lit (.bool false)], args := [d] }
  | _ => none }
def SuperReadsWrongFalsely : Prop := superReadsRow.holds Tryd.pinned (OpenSpec.ofChange superReadsWrong)

/-- 'leveelaw04.SuperBits': WHATEVER THE INPUT: true; the input reads as it did. -/
def superBitsSpec : ChangeSpec := { name := "superBits", fn := fun _ => fun
  | [d1, d2, d3] => { results := [.lit (.bool true)], args := [d1, d2, d3] }
  | _ => none }
def superBitsRow : OpenClaim := { program := "ytlpampbdnbjphaadoor", sum := "f44683f840829eba0f0f39d9e8560d358c86f0dcd3a47ea37812786fd5fd677d", func := "levee/leveelaw04.SuperBits", spec := "superBits", unfollowed := true, recurses := true, named := ["levee/geo.rooms"], apart := false, laid := [("levee/geo.rooms", laid_levee_geo_rooms)] }
def SuperBitsSaid : Prop := superBitsRow.holds Tryd.pinned (OpenSpec.ofChange superBitsSpec)

/-- ITS FALSE NEIGHBOUR: 'it returns false'. Refute it at one input. -/
def superBitsWrong : ChangeSpec := { name := "superBits", fn := fun _ => fun
  | [d1, d2, d3] => { results := [.lit (.bool false)], args := [d1, d2, d3] }
  | _ => none }
def SuperBitsWrongFalsely : Prop := superBitsRow.holds Tryd.pinned (OpenSpec.ofChange superBitsWrong)

/-- 'leveelaw04.SuperPlaces': WHATEVER THE INPUT: true; the input reads as it did. -/
def superPlacesSpec : ChangeSpec := { name := "superPlaces", fn := fun _ => fun
  | [d1, d2] => { results := [.lit (.bool true)], args := [d1, d2] }
  | _ => none }
def superPlacesRow : OpenClaim := { program := "ytlpampbdnbjphaadoor", sum := "f44683f840829eba0f0f39d9e8560d358c86f0dcd3a47ea37812786fd5fd677d", func := "levee/leveelaw04.SuperPlaces", spec := "superPlaces", unfollowed := true, recurses := true, named := ["levee/geo.rooms"], apart := false, laid := [("levee/geo.rooms", laid_levee_geo_rooms)] }
def SuperPlacesSaid : Prop := superPlacesRow.holds Tryd.pinned (OpenSpec.ofChange superPlacesSpec)

/-- ITS FALSE NEIGHBOUR: 'it returns false'. Refute it at one input. -/
def superPlacesWrong : ChangeSpec := { name := "superPlaces", fn := fun _ => fun
  | [d1, d2] => { results := [.lit (.bool false)], args := [d1, d2] }
  | _ => none }
def SuperPlacesWrongFalsely : Prop := superPlacesRow.holds Tryd.pinned (OpenSpec.ofChange superPlacesWrong)

/- THE SECOND FORM. 'bulk': how many values and letters a reading holds, each counted each time it is reached (what is shared counts as often as it is met; a slice's spare places count too). A statement '..UptoSaid' is the law's where the arguments, and the package variables that the reading takes, are together of bulk at most 1048576: NARROWER than '..Said'. Prove '..Said' where nothing that the law and all that it calls make is longer than what came in: it says more and counts as full. Else prove '..UptoSaid'. A law counts once. -/
mutual
def uptoBulk {H : Type} : DataW H → Nat
  | .lit (.string bytes) => bytes.length + 1
  | .lit _ => 1
  | .nil => 1
  | .ptr d => uptoBulk d + 1
  | .slice elems spare => uptoBulkAll elems + uptoBulkAll spare + 1
  | .agg parts => uptoBulkAll parts + 1
  | .iface _ d => uptoBulk d + 1
  | .map entries => uptoBulkEntries entries + 1
  | .held _ => 1
def uptoBulkAll {H : Type} : List (DataW H) → Nat
  | [] => 0
  | d :: r => uptoBulk d + uptoBulkAll r
def uptoBulkEntries {H : Type} : List (Lit × DataW H) → Nat
  | [] => 0
  | x :: r => uptoBulkEntry x + uptoBulkEntries r
def uptoBulkEntry {H : Type} : Lit × DataW H → Nat
  | (.string bytes, d) => bytes.length + uptoBulk d + 1
  | (_, d) => uptoBulk d + 1
 end
def uptoSmall : (H : Type) → List (DataW H) → Bool := fun _ ds => decide (uptoBulkAll ds ≤ 1048576)
def OpenSpec.upto (s : _root_.Go.ChangeSpec) : _root_.Go.OpenSpec := { _root_.Go.OpenSpec.ofChange s with cond := some uptoSmall }

/-- 'leveelaw04.SuperMakes', WHERE WHAT IT READS IS OF BULK AT MOST 1048576: true; the input reads as it did. -/
def superMakesUptoRow : OpenClaim := { program := "ytlpampbdnbjphaadoor", sum := "f44683f840829eba0f0f39d9e8560d358c86f0dcd3a47ea37812786fd5fd677d", func := "levee/leveelaw04.SuperMakes", spec := "superMakes", unfollowed := true, recurses := true, named := ["levee/geo.rooms"], apart := false, laid := [("levee/geo.rooms", laid_levee_geo_rooms)], narrowed := true }
def SuperMakesUptoSaid : Prop := superMakesUptoRow.holds Tryd.pinned (OpenSpec.upto superMakesSpec)

/-- 'leveelaw04.SuperMay', WHERE WHAT IT READS IS OF BULK AT MOST 1048576: true; the input reads as it did. -/
def superMayUptoRow : OpenClaim := { program := "ytlpampbdnbjphaadoor", sum := "f44683f840829eba0f0f39d9e8560d358c86f0dcd3a47ea37812786fd5fd677d", func := "levee/leveelaw04.SuperMay", spec := "superMay", unfollowed := true, recurses := true, named := ["levee/geo.rooms"], apart := false, laid := [("levee/geo.rooms", laid_levee_geo_rooms)], narrowed := true }
def SuperMayUptoSaid : Prop := superMayUptoRow.holds Tryd.pinned (OpenSpec.upto superMaySpec)

/-- 'leveelaw04.SuperWords', WHERE WHAT IT READS IS OF BULK AT MOST 1048576: true; the input reads as it did. -/
def superWordsUptoRow : OpenClaim := { program := "ytlpampbdnbjphaadoor", sum := "f44683f840829eba0f0f39d9e8560d358c86f0dcd3a47ea37812786fd5fd677d", func := "levee/leveelaw04.SuperWords", spec := "superWords", unfollowed := true, recurses := true, named := ["levee/geo.rooms"], apart := false, laid := [("levee/geo.rooms", laid_levee_geo_rooms)], narrowed := true }
def SuperWordsUptoSaid : Prop := superWordsUptoRow.holds Tryd.pinned (OpenSpec.upto superWordsSpec)

/-- 'leveelaw04.SuperReads', WHERE WHAT IT READS IS OF BULK AT MOST 1048576: true; the input reads as it did. -/
def superReadsUptoRow : OpenClaim := { program := "ytlpampbdnbjphaadoor", sum := "f44683f840829eba0f0f39d9e8560d358c86f0dcd3a47ea37812786fd5fd677d", func := "levee/leveelaw04.SuperReads", spec := "superReads", unfollowed := true, recurses := true, named := ["levee/geo.rooms"], apart := false, laid := [("levee/geo.rooms", laid_levee_geo_rooms)], narrowed := true }
def SuperReadsUptoSaid : Prop := superReadsUptoRow.holds Tryd.pinned (OpenSpec.upto superReadsSpec)

/-- 'leveelaw04.SuperBits', WHERE WHAT IT READS IS OF BULK AT MOST 1048576: true; the input reads as it did. -/
def superBitsUptoRow : OpenClaim := { program := "ytlpampbdnbjphaadoor", sum := "f44683f840829eba0f0f39d9e8560d358c86f0dcd3a47ea37812786fd5fd677d", func := "levee/leveelaw04.SuperBits", spec := "superBits", unfollowed := true, recurses := true, named := ["levee/geo.rooms"], apart := false, laid := [("levee/geo.rooms", laid_levee_geo_rooms)], narrowed := true }
def SuperBitsUptoSaid : Prop := superBitsUptoRow.holds Tryd.pinned (OpenSpec.upto superBitsSpec)

/-- 'leveelaw04.SuperPlaces', WHERE WHAT IT READS IS OF BULK AT MOST 1048576: true; the input reads as it did. -/
def superPlacesUptoRow : OpenClaim := { program := "ytlpampbdnbjphaadoor", sum := "f44683f840829eba0f0f39d9e8560d358c86f0dcd3a47ea37812786fd5fd677d", func := "levee/leveelaw04.SuperPlaces", spec := "superPlaces", unfollowed := true, recurses := true, named := ["levee/geo.rooms"], apart := false, laid := [("levee/geo.rooms", laid_levee_geo_rooms)], narrowed := true }
def SuperPlacesUptoSaid : Prop := superPlacesUptoRow.holds Tryd.pinned (OpenSpec.upto superPlacesSpec)

end Rows
end Go.Proofs.YtlpampbdnbjphaaDoor
