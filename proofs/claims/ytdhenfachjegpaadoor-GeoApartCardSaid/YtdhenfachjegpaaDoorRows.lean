/-
  NARROWER THAN 'FOR EVERY INPUT', by the rows' own cells (each row's printed sentence says how): GeoSizes: laid · GeoBlocks: laid · GeoFinds: laid · GeoApart: laid · GeoNodes: laid · GeoWhole: laid.
  DERIVED. THE GIVEN ROWS OF THIS SEAT. 6 by the template 'for every input the law returns true; each argument reads behind the call as it read before'; 0 by the template 'total and deterministic' (their statements: YtdhenfachjegpaaDoorTotals.lean).
  GIVEN WITH THE SEED: the statements are not yours to turn. If you find one false, say at which input.
  Laid BY PROGRAM, IN A SANDBOX (cutbox-rows.mjs): the forced cells as the released guide's own fill.sh prints them over the translation 8675105251918b15… (all of the seat's roots in one cut). By AI agents, Wed Nov 11 2026. No macro, syntax, notation, axiom, sorry.
-/
import Derived.Test.YtdhenfachjegpaaDoorChecked
import GoSem.Claim
import GoSem.ClaimJoined
import GoSem.ClaimMapViews
import Derived.JoinedTies
import Derived.KernelRfl
namespace Go.Proofs.YtdhenfachjegpaaDoor
/- THE CELL 'sum', in the pinned program and in every row, IS THE sha256 OF THE DUMP (.gsa) THAT YtdhenfachjegpaaDoorProg.lean LOADS. Nothing in Lean hashes anything: it is a label: what it is worth is what the hold of that sum in a sandbox is worth. -/
noncomputable def Tryd.pinned : Pinned := { name := "ytdhenfachjegpaadoor", sum := "8675105251918b154a2a371096234e1bba7030170923a23612af4804bf4790fd", checked := Tryd.checked }
namespace Rows
def none {H : Type} : Left H := { results := [], args := [] }

/- WHAT THE LISTED PACKAGE-LEVEL VARIABLES READ AS WHEN THE CALL BEGINS. Each datum BY PROGRAM (the guide's laid-datum.mjs) off the statement by which the dump's own 'gosem.cut.vars' lays the variable. In a bare row this is a premise. The card (YtdhenfachjegpaaDoorCards.lean) ties it to the program's text. -/
def laid_levee_geo_rooms {H : Type} : DataW H := .agg [.agg [.lit (.int .i64 0), .lit (.int .i64 0), .lit (.int .i64 (-1))], .agg [.lit (.int .i64 64), .lit (.int .i64 15), .lit (.int .i64 56)], .agg [.lit (.int .i64 128), .lit (.int .i64 7), .lit (.int .i64 120)], .agg [.lit (.int .i64 192), .lit (.int .i64 5), .lit (.int .i64 (-1))]]

/-- 'leveelaw03.GeoSizes': WHATEVER THE INPUT: true; the input reads as it did. -/
def geoSizesSpec : ChangeSpec := { name := "geoSizes", fn := fun _ => fun
  | [d1, d2, d3, d4] => { results := [.lit (.bool true)], args := [d1, d2, d3, d4] }
  | _ => none }
def geoSizesRow : OpenClaim := { program := "ytdhenfachjegpaadoor", sum := "8675105251918b154a2a371096234e1bba7030170923a23612af4804bf4790fd", func := "levee/leveelaw03.GeoSizes", spec := "geoSizes", unfollowed := true, recurses := true, named := ["levee/geo.rooms"], apart := false, laid := [("levee/geo.rooms", laid_levee_geo_rooms)] }
def GeoSizesSaid : Prop := geoSizesRow.holds Tryd.pinned (OpenSpec.ofChange geoSizesSpec)

/-- ITS FALSE NEIGHBOUR: 'it returns false'. Refute it at one input. -/
def geoSizesWrong : ChangeSpec := { name := "geoSizes", fn := fun _ => fun
  | [d1, d2, d3, d4] => { results := [.lit (.bool false)], args := [d1, d2, d3, d4] }
  | _ => none }
def GeoSizesWrongFalsely : Prop := geoSizesRow.holds Tryd.pinned (OpenSpec.ofChange geoSizesWrong)

/-- 'leveelaw03.GeoBlocks': WHATEVER THE INPUT: true; the input reads as it did. -/
def geoBlocksSpec : ChangeSpec := { name := "geoBlocks", fn := fun _ => fun
  | [d1, d2, d3] => { results := [.lit (.bool true)], args := [d1, d2, d3] }
  | _ => none }
def geoBlocksRow : OpenClaim := { program := "ytdhenfachjegpaadoor", sum := "8675105251918b154a2a371096234e1bba7030170923a23612af4804bf4790fd", func := "levee/leveelaw03.GeoBlocks", spec := "geoBlocks", unfollowed := true, recurses := true, named := ["levee/geo.rooms"], apart := false, laid := [("levee/geo.rooms", laid_levee_geo_rooms)] }
def GeoBlocksSaid : Prop := geoBlocksRow.holds Tryd.pinned (OpenSpec.ofChange geoBlocksSpec)

/-- ITS FALSE NEIGHBOUR: 'it returns false'. Refute it at one input. -/
def geoBlocksWrong : ChangeSpec := { name := "geoBlocks", fn := fun _ => fun
  | [d1, d2, d3] => { results := [.lit (.bool false)], args := [d1, d2, d3] }
  | _ => none }
def GeoBlocksWrongFalsely : Prop := geoBlocksRow.holds Tryd.pinned (OpenSpec.ofChange geoBlocksWrong)

/-- 'leveelaw03.GeoFinds': WHATEVER THE INPUT: true; the input reads as it did. -/
def geoFindsSpec : ChangeSpec := { name := "geoFinds", fn := fun _ => fun
  | [d1, d2] => { results := [.lit (.bool true)], args := [d1, d2] }
  | _ => none }
def geoFindsRow : OpenClaim := { program := "ytdhenfachjegpaadoor", sum := "8675105251918b154a2a371096234e1bba7030170923a23612af4804bf4790fd", func := "levee/leveelaw03.GeoFinds", spec := "geoFinds", unfollowed := true, recurses := true, named := ["levee/geo.rooms"], apart := false, laid := [("levee/geo.rooms", laid_levee_geo_rooms)] }
def GeoFindsSaid : Prop := geoFindsRow.holds Tryd.pinned (OpenSpec.ofChange geoFindsSpec)

/-- ITS FALSE NEIGHBOUR: 'it returns false'. Refute it at one input. -/
def geoFindsWrong : ChangeSpec := { name := "geoFinds", fn := fun _ => fun
  | [d1, d2] => { results := [.lit (.bool false)], args := [d1, d2] }
  | _ => none }
def GeoFindsWrongFalsely : Prop := geoFindsRow.holds Tryd.pinned (OpenSpec.ofChange geoFindsWrong)

/-- 'leveelaw03.GeoApart': WHATEVER THE INPUT: true; the input reads as it did. -/
def geoApartSpec : ChangeSpec := { name := "geoApart", fn := fun _ => fun
  | [d1, d2, d3, d4, d5, d6] => { results := [.lit (.bool true)], args := [d1, d2, d3, d4, d5, d6] }
  | _ => none }
def geoApartRow : OpenClaim := { program := "ytdhenfachjegpaadoor", sum := "8675105251918b154a2a371096234e1bba7030170923a23612af4804bf4790fd", func := "levee/leveelaw03.GeoApart", spec := "geoApart", unfollowed := true, recurses := true, named := ["levee/geo.rooms"], apart := false, laid := [("levee/geo.rooms", laid_levee_geo_rooms)] }
def GeoApartSaid : Prop := geoApartRow.holds Tryd.pinned (OpenSpec.ofChange geoApartSpec)

/-- ITS FALSE NEIGHBOUR: 'it returns false'. Refute it at one input. -/
def geoApartWrong : ChangeSpec := { name := "geoApart", fn := fun _ => fun
  | [d1, d2, d3, d4, d5, d6] => { results := [.lit (.bool false)], args := [d1, d2, d3, d4, d5, d6] }
  | _ => none }
def GeoApartWrongFalsely : Prop := geoApartRow.holds Tryd.pinned (OpenSpec.ofChange geoApartWrong)

/-- 'leveelaw03.GeoNodes': WHATEVER THE INPUT: true; the input reads as it did. -/
def geoNodesSpec : ChangeSpec := { name := "geoNodes", fn := fun _ => fun
  | [d1, d2] => { results := [.lit (.bool true)], args := [d1, d2] }
  | _ => none }
def geoNodesRow : OpenClaim := { program := "ytdhenfachjegpaadoor", sum := "8675105251918b154a2a371096234e1bba7030170923a23612af4804bf4790fd", func := "levee/leveelaw03.GeoNodes", spec := "geoNodes", unfollowed := true, recurses := true, named := ["levee/geo.rooms"], apart := false, laid := [("levee/geo.rooms", laid_levee_geo_rooms)] }
def GeoNodesSaid : Prop := geoNodesRow.holds Tryd.pinned (OpenSpec.ofChange geoNodesSpec)

/-- ITS FALSE NEIGHBOUR: 'it returns false'. Refute it at one input. -/
def geoNodesWrong : ChangeSpec := { name := "geoNodes", fn := fun _ => fun
  | [d1, d2] => { results := [.lit (.bool false)], args := [d1, d2] }
  | _ => none }
def GeoNodesWrongFalsely : Prop := geoNodesRow.holds Tryd.pinned (OpenSpec.ofChange geoNodesWrong)

/-- 'leveelaw03.GeoWhole': WHATEVER THE INPUT: true; the input reads as it did. -/
def geoWholeSpec : ChangeSpec := { name := "geoWhole", fn := fun _ => fun
  | [] => { results := [.lit (.bool true)], args := [] }
  | _ => none }
def geoWholeRow : OpenClaim := { program := "ytdhenfachjegpaadoor", sum := "8675105251918b154a2a371096234e1bba7030170923a23612af4804bf4790fd", func := "levee/leveelaw03.GeoWhole", spec := "geoWhole", unfollowed := true, recurses := true, named := ["levee/geo.rooms"], apart := false, laid := [("levee/geo.rooms", laid_levee_geo_rooms)] }
def GeoWholeSaid : Prop := geoWholeRow.holds Tryd.pinned (OpenSpec.ofChange geoWholeSpec)

/-- ITS FALSE NEIGHBOUR: 'it returns false'. Refute it at one input. -/
def geoWholeWrong : ChangeSpec := { name := "geoWhole", fn := fun _ => fun
  | [] => { results := [.lit (.bool false)], args := [] }
  | _ => none }
def GeoWholeWrongFalsely : Prop := geoWholeRow.holds Tryd.pinned (OpenSpec.ofChange geoWholeWrong)

/- THE SECOND FORM. 'bulk': how many values and letters a reading holds, each counted each time it is reached (what is shared counts as often as it is met; a slice's spare places count too). A statement '..UptoSaid' is the law's where the arguments, and the package variables that the reading takes, are together of bulk at most 1048576: NARROWER than '..Said'. Prove '..Said' where nothing that the law and all that it calls make is longer than what came in: it says more and counts as full. Else prove '..UptoSaid'. A law counts once. -/
mutual
def uptoBulk {H : Type} : DataW H → Nat
  | .lit (.string bytes) => bytes.length + 1
  | .lit _ => 1
  | .nil => 1
  | .ptr d => uptoBulk d + 1
  | .slice elems spare => uptoBulkAll elems + uptoBulkAll spare + 1
  | .agg parts => uptoBulkAll parts + 1
  | .iface _ d => uptoBulk d + 1
  | .map entries => uptoBulkEntries entries + 1
  | .held _ => 1
def uptoBulkAll {H : Type} : List (DataW H) → Nat
  | [] => 0
  | d :: r => uptoBulk d + uptoBulkAll r
def uptoBulkEntries {H : Type} : List (Lit × DataW H) → Nat
  | [] => 0
  | x :: r => uptoBulkEntry x + uptoBulkEntries r
def uptoBulkEntry {H : Type} : Lit × DataW H → Nat
  | (.string bytes, d) => bytes.length + uptoBulk d + 1
  | (_, d) => uptoBulk d + 1
 end
def uptoSmall : (H : Type) → List (DataW H) → Bool := fun _ ds => decide (uptoBulkAll ds ≤ 1048576)
def OpenSpec.upto (s : _root_.Go.ChangeSpec) : _root_.Go.OpenSpec := { _root_.Go.OpenSpec.ofChange s with cond := some uptoSmall }

/-- 'leveelaw03.GeoSizes', WHERE WHAT IT READS IS OF BULK AT MOST 1048576: true; the input reads as it did. -/
def geoSizesUptoRow : OpenClaim := { program := "ytdhenfachjegpaadoor", sum := "8675105251918b154a2a371096234e1bba7030170923a23612af4804bf4790fd", func := "levee/leveelaw03.GeoSizes", spec := "geoSizes", unfollowed := true, recurses := true, named := ["levee/geo.rooms"], apart := false, laid := [("levee/geo.rooms", laid_levee_geo_rooms)], narrowed := true }
def GeoSizesUptoSaid : Prop := geoSizesUptoRow.holds Tryd.pinned (OpenSpec.upto geoSizesSpec)

/-- 'leveelaw03.GeoBlocks', WHERE WHAT IT READS IS OF BULK AT MOST 1048576: true; the input reads as it did. -/
def geoBlocksUptoRow : OpenClaim := { program := "ytdhenfachjegpaadoor", sum := "8675105251918b154a2a371096234e1bba7030170923a23612af4804bf4790fd", func := "levee/leveelaw03.GeoBlocks", spec := "geoBlocks", unfollowed := true, recurses := true, named := ["levee/geo.rooms"], apart := false, laid := [("levee/geo.rooms", laid_levee_geo_rooms)], narrowed := true }
def GeoBlocksUptoSaid : Prop := geoBlocksUptoRow.holds Tryd.pinned (OpenSpec.upto geoBlocksSpec)

/-- 'leveelaw03.GeoFinds', WHERE WHAT IT READS IS OF BULK AT MOST 1048576: true; the input reads as it did. -/
def geoFindsUptoRow : OpenClaim := { program := "ytdhenfachjegpaadoor", sum := "8675105251918b154a2a371096234e1bba7030170923a23612af4804bf4790fd", func := "levee/leveelaw03.GeoFinds", spec := "geoFinds", unfollowed := true, recurses := true, named := ["levee/geo.rooms"], apart := false, laid := [("levee/geo.rooms", laid_levee_geo_rooms)], narrowed := true }
def GeoFindsUptoSaid : Prop := geoFindsUptoRow.holds Tryd.pinned (OpenSpec.upto geoFindsSpec)

/-- 'leveelaw03.GeoApart', WHERE WHAT IT READS IS OF BULK AT MOST 1048576: true; the input reads as it did. -/
def geoApartUptoRow : OpenClaim := { program := "ytdhenfachjegpaadoor", sum := "8675105251918b154a2a371096234e1bba7030170923a23612af4804bf4790fd", func := "levee/leveelaw03.GeoApart", spec := "geoApart", unfollowed := true, recurses := true, named := ["levee/geo.rooms"], apart := false, laid := [("levee/geo.rooms", laid_levee_geo_rooms)], narrowed := true }
def GeoApartUptoSaid : Prop := geoApartUptoRow.holds Tryd.pinned (OpenSpec.upto geoApartSpec)

/-- 'leveelaw03.GeoNodes', WHERE WHAT IT READS IS OF BULK AT MOST 1048576: true; the input reads as it did. -/
def geoNodesUptoRow : OpenClaim := { program := "ytdhenfachjegpaadoor", sum := "8675105251918b154a2a371096234e1bba7030170923a23612af4804bf4790fd", func := "levee/leveelaw03.GeoNodes", spec := "geoNodes", unfollowed := true, recurses := true, named := ["levee/geo.rooms"], apart := false, laid := [("levee/geo.rooms", laid_levee_geo_rooms)], narrowed := true }
def GeoNodesUptoSaid : Prop := geoNodesUptoRow.holds Tryd.pinned (OpenSpec.upto geoNodesSpec)

/-- 'leveelaw03.GeoWhole', WHERE WHAT IT READS IS OF BULK AT MOST 1048576: true; the input reads as it did. -/
def geoWholeUptoRow : OpenClaim := { program := "ytdhenfachjegpaadoor", sum := "8675105251918b154a2a371096234e1bba7030170923a23612af4804bf4790fd", func := "levee/leveelaw03.GeoWhole", spec := "geoWhole", unfollowed := true, recurses := true, named := ["levee/geo.rooms"], apart := false, laid := [("levee/geo.rooms", laid_levee_geo_rooms)], narrowed := true }
def GeoWholeUptoSaid : Prop := geoWholeUptoRow.holds Tryd.pinned (OpenSpec.upto geoWholeSpec)

end Rows
end Go.Proofs.YtdhenfachjegpaaDoor
