/-
  NARROWER THAN 'FOR EVERY INPUT', by the rows' own cells (each row's printed sentence says how): ValuePuts: laid · ValueReads: laid · ValueBack: laid · ValueTorn: laid · ValueNil: laid.
  DERIVED. THE GIVEN ROWS OF THIS SEAT. 5 by the template 'for every input the law returns true; each argument reads behind the call as it read before'; 0 by the template 'total and deterministic' (their statements: YtnjecjcnkmgjmaaDoorTotals.lean).
  GIVEN WITH THE SEED: the statements are not yours to turn. If you find one false, say at which input.
  Laid BY PROGRAM, IN A SANDBOX (cutbox-rows.mjs): the forced cells as the released guide's own fill.sh prints them over the translation 6347d5f7aaf22229… (all of the seat's roots in one cut). By AI agents, Wed Nov 11 2026. No macro, syntax, notation, axiom, sorry.
-/
import Derived.Test.YtnjecjcnkmgjmaaDoorChecked
import GoSem.Claim
import GoSem.ClaimJoined
import GoSem.ClaimMapViews
import Derived.JoinedTies
import Derived.KernelRfl
namespace Go.Proofs.YtnjecjcnkmgjmaaDoor
/- THE CELL 'sum', in the pinned program and in every row, IS THE sha256 OF THE DUMP (.gsa) THAT YtnjecjcnkmgjmaaDoorProg.lean LOADS. Nothing in Lean hashes anything: it is a label: what it is worth is what the hold of that sum in a sandbox is worth. -/
noncomputable def Tryd.pinned : Pinned := { name := "ytnjecjcnkmgjmaadoor", sum := "6347d5f7aaf222292e828d269b3f1a19d17f03fa62b68cfe2b52bfdebcf4b3ba", checked := Tryd.checked }
namespace Rows
def none {H : Type} : Left H := { results := [], args := [] }

/- WHAT THE LISTED PACKAGE-LEVEL VARIABLES READ AS WHEN THE CALL BEGINS. Each datum BY PROGRAM (the guide's laid-datum.mjs) off the statement by which the dump's own 'gosem.cut.vars' lays the variable. In a bare row this is a premise. The card (YtnjecjcnkmgjmaaDoorCards.lean) ties it to the program's text. -/
def laid_levee_geo_rooms {H : Type} : DataW H := .agg [.agg [.lit (.int .i64 0), .lit (.int .i64 0), .lit (.int .i64 (-1))], .agg [.lit (.int .i64 64), .lit (.int .i64 15), .lit (.int .i64 56)], .agg [.lit (.int .i64 128), .lit (.int .i64 7), .lit (.int .i64 120)], .agg [.lit (.int .i64 192), .lit (.int .i64 5), .lit (.int .i64 (-1))]]

/-- 'leveelaw12.ValuePuts': WHATEVER THE INPUT: true; the input reads as it did. -/
def valuePutsSpec : ChangeSpec := { name := "valuePuts", fn := fun _ => fun
  | [d1, d2, d3] => { results := [.lit (.bool true)], args := [d1, d2, d3] }
  | _ => none }
def valuePutsRow : OpenClaim := { program := "ytnjecjcnkmgjmaadoor", sum := "6347d5f7aaf222292e828d269b3f1a19d17f03fa62b68cfe2b52bfdebcf4b3ba", func := "levee/leveelaw12.ValuePuts", spec := "valuePuts", unfollowed := true, recurses := true, named := ["levee/geo.rooms"], apart := false, laid := [("levee/geo.rooms", laid_levee_geo_rooms)] }
def ValuePutsSaid : Prop := valuePutsRow.holds Tryd.pinned (OpenSpec.ofChange valuePutsSpec)

/-- ITS FALSE NEIGHBOUR: 'it returns false'. Refute it at one input. -/
def valuePutsWrong : ChangeSpec := { name := "valuePuts", fn := fun _ => fun
  | [d1, d2, d3] => { results := [.lit (.bool false)], args := [d1, d2, d3] }
  | _ => none }
def ValuePutsWrongFalsely : Prop := valuePutsRow.holds Tryd.pinned (OpenSpec.ofChange valuePutsWrong)

/-- 'leveelaw12.ValueReads': WHATEVER THE INPUT: true; the input reads as it did. -/
def valueReadsSpec : ChangeSpec := { name := "valueReads", fn := fun _ => fun
  | [d1, d2] => { results := [.lit (.bool true)], args := [d1, d2] }
  | _ => none }
def valueReadsRow : OpenClaim := { program := "ytnjecjcnkmgjmaadoor", sum := "6347d5f7aaf222292e828d269b3f1a19d17f03fa62b68cfe2b52bfdebcf4b3ba", func := "levee/leveelaw12.ValueReads", spec := "valueReads", unfollowed := true, recurses := true, named := ["levee/geo.rooms"], apart := false, laid := [("levee/geo.rooms", laid_levee_geo_rooms)] }
def ValueReadsSaid : Prop := valueReadsRow.holds Tryd.pinned (OpenSpec.ofChange valueReadsSpec)

/-- ITS FALSE NEIGHBOUR: 'it returns false'. Refute it at one input. -/
def valueReadsWrong : ChangeSpec := { name := "valueReads", fn := fun _ => fun
  | [d1, d2] => { results := [.lit (.bool false)], args := [d1, d2] }
  | _ => none }
def ValueReadsWrongFalsely : Prop := valueReadsRow.holds Tryd.pinned (OpenSpec.ofChange valueReadsWrong)

/-- 'leveelaw12.ValueBack': WHATEVER THE INPUT: true; the input reads as it did. -/
def valueBackSpec : ChangeSpec := { name := "valueBack", fn := fun _ => fun
  | [d1, d2, d3, d4] => { results := [.lit (.bool true)], args := [d1, d2, d3, d4] }
  | _ => none }
def valueBackRow : OpenClaim := { program := "ytnjecjcnkmgjmaadoor", sum := "6347d5f7aaf222292e828d269b3f1a19d17f03fa62b68cfe2b52bfdebcf4b3ba", func := "levee/leveelaw12.ValueBack", spec := "valueBack", unfollowed := true, recurses := true, named := ["levee/geo.rooms"], apart := false, laid := [("levee/geo.rooms", laid_levee_geo_rooms)] }
def ValueBackSaid : Prop := valueBackRow.holds Tryd.pinned (OpenSpec.ofChange valueBackSpec)

/-- ITS FALSE NEIGHBOUR: 'it returns false'. Refute it at one input. -/
def valueBackWrong : ChangeSpec := { name := "valueBack", fn := fun _ => fun
  | [d1, d2, d3, d4] => { results := [.lit (.bool false)], args := [d1, d2, d3, d4] }
  | _ => none }
def ValueBackWrongFalsely : Prop := valueBackRow.holds Tryd.pinned (OpenSpec.ofChange valueBackWrong)

/-- 'leveelaw12.ValueTorn': WHATEVER THE INPUT: true; the input reads as it did. -/
def valueTornSpec : ChangeSpec := { name := "valueTorn", fn := fun _ => fun
  | [d1, d2] => { results := [.lit (.bool true)], args := [d1, d2] }
  | _ => none }
def valueTornRow : OpenClaim := { program := "ytnjecjcnkmgjmaadoor", sum := "6347d5f7aaf222292e828d269b3f1a19d17f03fa62b68cfe2b52bfdebcf4b3ba", func := "levee/leveelaw12.ValueTorn", spec := "valueTorn", unfollowed := true, recurses := true, named := ["levee/geo.rooms"], apart := false, laid := [("levee/geo.rooms", laid_levee_geo_rooms)] }
def ValueTornSaid : Prop := valueTornRow.holds Tryd.pinned (OpenSpec.ofChange valueTornSpec)

/-- ITS FALSE NEIGHBOUR: 'it returns false'. Refute it at one input. -/
def valueTornWrong : ChangeSpec := { name := "valueTorn", fn := fun _ => fun
  | [d1, d2] => { results := [.lit (.bool false)], args := [d1, d2] }
  | _ => none }
def ValueTornWrongFalsely : Prop := valueTornRow.holds Tryd.pinned (OpenSpec.ofChange valueTornWrong)

/-- 'leveelaw12.ValueNil': WHATEVER THE INPUT: true; the input reads as it did. -/
def valueNilSpec : ChangeSpec := { name := "valueNil", fn := fun _ => fun
  | [] => { results := [.lit (.bool true)], args := [] }
  | _ => none }
def valueNilRow : OpenClaim := { program := "ytnjecjcnkmgjmaadoor", sum := "6347d5f7aaf222292e828d269b3f1a19d17f03fa62b68cfe2b52bfdebcf4b3ba", func := "levee/leveelaw12.ValueNil", spec := "valueNil", unfollowed := true, recurses := true, named := ["levee/geo.rooms"], apart := false, laid := [("levee/geo.rooms", laid_levee_geo_rooms)] }
def ValueNilSaid : Prop := valueNilRow.holds Tryd.pinned (OpenSpec.ofChange valueNilSpec)

/-- ITS FALSE NEIGHBOUR: 'it returns false'. Refute it at one input. -/
def valueNilWrong : ChangeSpec := { name := "valueNil", fn := fun _ => fun
  | [] => { results := [.lit (.bool false)], args := [] }
  | _ => none }
def ValueNilWrongFalsely : Prop := valueNilRow.holds Tryd.pinned (OpenSpec.ofChange valueNilWrong)

/- THE SECOND FORM. 'bulk': how many values and letters a reading holds, each counted each time it is reached (what is shared counts as often as it is met; a slice's spare places count too). A statement '..UptoSaid' is the law's where the arguments, and the package variables that the reading takes, are together of bulk at most 1048576: NARROWER than '..Said'. Prove '..Said' where nothing that the law and all that it calls make is longer than what came in: it says more and counts as full. Else prove '..UptoSaid'. A law counts once. -/
mutual
def uptoBulk {H : Type} : DataW H → Nat
  | .lit (.string bytes) => bytes.length + 1
  | .lit _ => 1
  | .nil => 1
  | .ptr d => uptoBulk d + 1
  | .slice elems spare => uptoBulkAll elems + uptoBulkAll spare + 1
  | .agg parts => uptoBulkAll parts + 1
  | .iface _ d => uptoBulk d + 1
  | .map entries => uptoBulkEntries entries + 1
  | .held _ => 1
def uptoBulkAll {H : Type} : List (DataW H) → Nat
  | [] => 0
  | d :: r => uptoBulk d + uptoBulkAll r
def uptoBulkEntries {H : Type} : List (Lit × DataW H) → Nat
  | [] => 0
  | x :: r => uptoBulkEntry x + uptoBulkEntries r
def uptoBulkEntry {H : Type} : Lit × DataW H → Nat
  | (.string bytes, d) => bytes.length + uptoBulk d + 1
  | (_, d) => uptoBulk d + 1
 end
def uptoSmall : (H : Type) → List (DataW H) → Bool := fun _ ds => decide (uptoBulkAll ds ≤ 1048576)
def OpenSpec.upto (s : _root_.Go.ChangeSpec) : _root_.Go.OpenSpec := { _root_.Go.OpenSpec.ofChange s with cond := some uptoSmall }

/-- 'leveelaw12.ValuePuts', WHERE WHAT IT READS IS OF BULK AT MOST 1048576: true; the input reads as it did. -/
def valuePutsUptoRow : OpenClaim := { program := "ytnjecjcnkmgjmaadoor", sum := "6347d5f7aaf222292e828d269b3f1a19d17f03fa62b68cfe2b52bfdebcf4b3ba", func := "levee/leveelaw12.ValuePuts", spec := "valuePuts", unfollowed := true, recurses := true, named := ["levee/geo.rooms"], apart := false, laid := [("levee/geo.rooms", laid_levee_geo_rooms)], narrowed := true }
def ValuePutsUptoSaid : Prop := valuePutsUptoRow.holds Tryd.pinned (OpenSpec.upto valuePutsSpec)

/-- 'leveelaw12.ValueReads', WHERE WHAT IT READS IS OF BULK AT MOST 1048576: true; the input reads as it did. -/
def valueReadsUptoRow : OpenClaim := { program := "ytnjecjcnkmgjmaadoor", sum := "6347d5f7aaf222292e828d269b3f1a19d17f03fa62b68cfe2b52bfdebcf4b3ba", func := "levee/leveelaw12.ValueReads", spec := "valueReads", unfollowed := true, recurses := true, named := ["levee/geo.rooms"], apart := false, laid := [("levee/geo.rooms", laid_levee_geo_rooms)], narrowed := true }
def ValueReadsUptoSaid : Prop := valueReadsUptoRow.holds Tryd.pinned (OpenSpec.upto valueReadsSpec)

/-- 'leveelaw12.ValueBack', WHERE WHAT IT READS IS OF BULK AT MOST 1048576: true; the input reads as it did. -/
def valueBackUptoRow : OpenClaim := { program := "ytnjecjcnkmgjmaadoor", sum := "6347d5f7aaf222292e828d269b3f1a19d17f03fa62b68cfe2b52bfdebcf4b3ba", func := "levee/leveelaw12.ValueBack", spec := "valueBack", unfollowed := true, recurses := true, named := ["levee/geo.rooms"], apart := false, laid := [("levee/geo.rooms", laid_levee_geo_rooms)], narrowed := true }
def ValueBackUptoSaid : Prop := valueBackUptoRow.holds Tryd.pinned (OpenSpec.upto valueBackSpec)

/-- 'leveelaw12.ValueTorn', WHERE WHAT IT READS IS OF BULK AT MOST 1048576: true; the input reads as it did. -/
def valueTornUptoRow : OpenClaim := { program := "ytnjecjcnkmgjmaadoor", sum := "6347d5f7aaf222292e828d269b3f1a19d17f03fa62b68cfe2b52bfdebcf4b3ba", func := "levee/leveelaw12.ValueTorn", spec := "valueTorn", unfollowed := true, recurses := true, named := ["levee/geo.rooms"], apart := false, laid := [("levee/geo.rooms", laid_levee_geo_rooms)], narrowed := true }
def ValueTornUptoSaid : Prop := valueTornUptoRow.holds Tryd.pinned (OpenSpec.upto valueTornSpec)

/-- 'leveelaw12.ValueNil', WHERE WHAT IT READS IS OF BULK AT MOST 1048576: true; the input reads as it did. -/
def valueNilUptoRow : OpenClaim := { program := "ytnjecjcnkmgjmaadoor", sum := "6347d5f7aaf222292e828d269b3f1a19d17f03fa62b68cfe2b52bfdebcf4b3ba", func := "levee/leveelaw12.ValueNil", spec := "valueNil", unfollowed := true, recurses := true, named := ["levee/geo.rooms"], apart := false, laid := [("levee/geo.rooms", laid_levee_geo_rooms)], narrowed := true }
def ValueNilUptoSaid : Prop := valueNilUptoRow.holds Tryd.pinned (OpenSpec.upto valueNilSpec)

end Rows
end Go.Proofs.YtnjecjcnkmgjmaaDoor
