/-
  NARROWER THAN 'FOR EVERY INPUT', by the rows' own cells (each row's printed sentence says how): SlabReads: laid · SlabPlays: laid · SlabLasts: laid · SlabMixed: laid.
  DERIVED. THE GIVEN ROWS OF THIS SEAT. 4 by the template 'for every input the law returns true; each argument reads behind the call as it read before'; 0 by the template 'total and deterministic' (their statements: YtahojhaeebmpoaaGreatDoorTotals.lean).
  GIVEN WITH THE SEED: the statements are not yours to turn. If you find one false, say at which input.
  Laid BY PROGRAM, IN A SANDBOX (cutbox-rows.mjs): the forced cells as the released guide's own fill.sh prints them over the translation ec7da30f08f376e2… (all of the seat's roots in one cut). By AI agents, Wed Nov 11 2026. No macro, syntax, notation, axiom, sorry.
-/
import Derived.Test.YtahojhaeebmpoaaGreatDoorChecked
import GoSem.Claim
import GoSem.ClaimJoined
import GoSem.ClaimMapViews
import Derived.JoinedTies
import Derived.KernelRfl
namespace Go.Proofs.YtahojhaeebmpoaaGreatDoor
/- THE CELL 'sum', in the pinned program and in every row, IS THE sha256 OF THE DUMP (.gsa) THAT YtahojhaeebmpoaaGreatDoorProg.lean LOADS. Nothing in Lean hashes anything: it is a label: what it is worth is what the hold of that sum in a sandbox is worth. -/
noncomputable def Tryz.pinned : Pinned := { name := "ytahojhaeebmpoaagreatdoor", sum := "ec7da30f08f376e216c8725129e775d7c8d391695e9519833e99a3d9cde148f1", checked := Tryz.checked }
namespace Rows
def none {H : Type} : Left H := { results := [], args := [] }

/- WHAT THE LISTED PACKAGE-LEVEL VARIABLES READ AS WHEN THE CALL BEGINS. Each datum BY PROGRAM (the guide's laid-datum.mjs) off the statement by which the dump's own 'gosem.cut.vars' lays the variable. In a bare row this is a premise. The card (YtahojhaeebmpoaaGreatDoorCards.lean) ties it to the program's text. -/
def laid_levee_geo_rooms {H : Type} : DataW H := .agg [.agg [.lit (.int .i64 0), .lit (.int .i64 0), .lit (.int .i64 (-1))], .agg [.lit (.int .i64 64), .lit (.int .i64 15), .lit (.int .i64 56)], .agg [.lit (.int .i64 128), .lit (.int .i64 7), .lit (.int .i64 120)], .agg [.lit (.int .i64 192), .lit (.int .i64 5), .lit (.int .i64 (-1))]]

/-- 'leveelaw06.SlabReads': WHATEVER THE INPUT: true; the input reads as it did. -/
def slabReadsSpec : ChangeSpec := { name := "slabReads", fn := fun _ => fun
  | [d1, d2, d3, d4] => { results := [.lit (.bool true)], args := [d1, d2, d3, d4] }
  | _ => none }
def slabReadsRow : OpenClaim := { program := "ytahojhaeebmpoaagreatdoor", sum := "ec7da30f08f376e216c8725129e775d7c8d391695e9519833e99a3d9cde148f1", func := "levee/leveelaw06.SlabReads", spec := "slabReads", unfollowed := true, recurses := true, named := ["levee/geo.rooms"], apart := false, laid := [("levee/geo.rooms", laid_levee_geo_rooms)] }
def SlabReadsSaid : Prop := slabReadsRow.holds Tryz.pinned (OpenSpec.ofChange slabReadsSpec)

/-- ITS FALSE NEIGHBOUR: 'it returns false'. Refute it at one input. -/
def slabReadsWrong : ChangeSpec := { name := "slabReads", fn := fun _ => fun
  | [d1, d2, d3, d4] => { results := [.lit (.bool false)], args := [d1, d2, d3, d4] }
  | _ => none }
def SlabReadsWrongFalsely : Prop := slabReadsRow.holds Tryz.pinned (OpenSpec.ofChange slabReadsWrong)

/-- 'leveelaw06.SlabPlays': WHATEVER THE INPUT: true; the input reads as it did. -/
def slabPlaysSpec : ChangeSpec := { name := "slabPlays", fn := fun _ => fun
  | [d1, d2] => { results := [.lit (.bool true)], args := [d1, d2] }
  | _ => none }
def slabPlaysRow : OpenClaim := { program := "ytahojhaeebmpoaagreatdoor", sum := "ec7da30f08f376e216c8725129e775d7c8d391695e9519833e99a3d9cde148f1", func := "levee/leveelaw06.SlabPlays", spec := "slabPlays", unfollowed := true, recurses := true, named := ["levee/geo.rooms"], apart := false, laid := [("levee/geo.rooms", laid_levee_geo_rooms)] }
def SlabPlaysSaid : Prop := slabPlaysRow.holds Tryz.pinned (OpenSpec.ofChange slabPlaysSpec)

/-- ITS FALSE NEIGHBOUR: 'it returns false'. Refute it at one input. -/
def slabPlaysWrong : ChangeSpec := { name := "slabPlays", fn := fun _ => fun
  | [d1, d2] => { results := [.lit (.bool false)], args := [d1, d2] }
  | _ => none }
def SlabPlaysWrongFalsely : Prop := slabPlaysRow.holds Tryz.pinned (OpenSpec.ofChange slabPlaysWrong)

/-- 'leveelaw06.SlabLasts': WHATEVER THE INPUT: true; the input reads as it did. -/
def slabLastsSpec : ChangeSpec := { name := "slabLasts", fn := fun _ => fun
  | [d1, d2, d3] => { results := [.lit (.bool true)], args := [d1, d2, d3] }
  | _ => none }
def slabLastsRow : OpenClaim := { program := "ytahojhaeebmpoaagreatdoor", sum := "ec7da30f08f376e216c8725129e775d7c8d391695e9519833e99a3d9cde148f1", func := "levee/leveelaw06.SlabLasts", spec := "slabLasts", inPlace := ["maps.clone"], unfollowed := true, recurses := true, named := ["levee/geo.rooms"], apart := false, laid := [("levee/geo.rooms", laid_levee_geo_rooms)] }
def SlabLastsSaid : Prop := slabLastsRow.holds Tryz.pinned (OpenSpec.ofChange slabLastsSpec)

/-- ITS FALSE NEIGHBOUR: 'it returns false'. Refute it at one input. -/
def slabLastsWrong : ChangeSpec := { name := "slabLasts", fn := fun _ => fun
  | [d1, d2, d3] => { results := [.lit (.bool false)], args := [d1, d2, d3] }
  | _ => none }
def SlabLastsWrongFalsely : Prop := slabLastsRow.holds Tryz.pinned (OpenSpec.ofChange slabLastsWrong)

/-- 'leveelaw06.SlabMixed': WHATEVER THE INPUT: true; the input reads as it did. -/
def slabMixedSpec : ChangeSpec := { name := "slabMixed", fn := fun _ => fun
  | [d1, d2, d3] => { results := [.lit (.bool true)], args := [d1, d2, d3] }
  | _ => none }
def slabMixedRow : OpenClaim := { program := "ytahojhaeebmpoaagreatdoor", sum := "ec7da30f08f376e216c8725129e775d7c8d391695e9519833e99a3d9cde148f1", func := "levee/leveelaw06.SlabMixed", spec := "slabMixed", unfollowed := true, recurses := true, named := ["levee/geo.rooms"], apart := false, laid := [("levee/geo.rooms", laid_levee_geo_rooms)] }
def SlabMixedSaid : Prop := slabMixedRow.holds Tryz.pinned (OpenSpec.ofChange slabMixedSpec)

/-- ITS FALSE NEIGHBOUR: 'it returns false'. Refute it at one input. -/
def slabMixedWrong : ChangeSpec := { name := "slabMixed", fn := fun _ => fun
  | [d1, d2, d3] => { results := [.lit (.bool false)], args := [d1, d2, d3] }
  | _ => none }
def SlabMixedWrongFalsely : Prop := slabMixedRow.holds Tryz.pinned (OpenSpec.ofChange slabMixedWrong)

/- THE SECOND FORM. 'bulk': how many values and letters a reading holds, each counted each time it is reached (what is shared counts as often as it is met; a slice's spare places count too). A statement '..UptoSaid' is the law's where the arguments, and the package variables that the reading takes, are together of bulk at most 1048576: NARROWER than '..Said'. Prove '..Said' where nothing that the law and all that it calls make is longer than what came in: it says more and counts as full. Else prove '..UptoSaid'. A law counts once. -/
mutual
def uptoBulk {H : Type} : DataW H → Nat
  | .lit (.string bytes) => bytes.length + 1
  | .lit _ => 1
  | .nil => 1
  | .ptr d => uptoBulk d + 1
  | .slice elems spare => uptoBulkAll elems + uptoBulkAll spare + 1
  | .agg parts => uptoBulkAll parts + 1
  | .iface _ d => uptoBulk d + 1
  | .map entries => uptoBulkEntries entries + 1
  | .held _ => 1
def uptoBulkAll {H : Type} : List (DataW H) → Nat
  | [] => 0
  | d :: r => uptoBulk d + uptoBulkAll r
def uptoBulkEntries {H : Type} : List (Lit × DataW H) → Nat
  | [] => 0
  | x :: r => uptoBulkEntry x + uptoBulkEntries r
def uptoBulkEntry {H : Type} : Lit × DataW H → Nat
  | (.string bytes, d) => bytes.length + uptoBulk d + 1
  | (_, d) => uptoBulk d + 1
 end
def uptoSmall : (H : Type) → List (DataW H) → Bool := fun _ ds => decide (uptoBulkAll ds ≤ 1048576)
def OpenSpec.upto (s : _root_.Go.ChangeSpec) : _root_.Go.OpenSpec := { _root_.Go.OpenSpec.ofChange s with cond := some uptoSmall }

/-- 'leveelaw06.SlabReads', WHERE WHAT IT READS IS OF BULK AT MOST 1048576: true; the input reads as it did. -/
def slabReadsUptoRow : OpenClaim := { program := "ytahojhaeebmpoaagreatdoor", sum := "ec7da30f08f376e216c8725129e775d7c8d391695e9519833e99a3d9cde148f1", func := "levee/leveelaw06.SlabReads", spec := "slabReads", unfollowed := true, recurses := true, named := ["levee/geo.rooms"], apart := false, laid := [("levee/geo.rooms", laid_levee_geo_rooms)], narrowed := true }
def SlabReadsUptoSaid : Prop := slabReadsUptoRow.holds Tryz.pinned (OpenSpec.upto slabReadsSpec)

/-- 'leveelaw06.SlabPlays', WHERE WHAT IT READS IS OF BULK AT MOST 1048576: true; the input reads as it did. -/
def slabPlaysUptoRow : OpenClaim := { program := "ytahojhaeebmpoaagreatdoor", sum := "ec7da30f08f376e216c8725129e775d7c8d391695e9519833e99a3d9cde148f1", func := "levee/leveelaw06.SlabPlays", spec := "slabPlays", unfollowed := true, recurses := true, named := ["levee/geo.rooms"], apart := false, laid := [("levee/geo.rooms", laid_levee_geo_rooms)], narrowed := true }
def SlabPlaysUptoSaid : Prop := slabPlaysUptoRow.holds Tryz.pinned (OpenSpec.upto slabPlaysSpec)

/-- 'leveelaw06.SlabLasts', WHERE WHAT IT READS IS OF BULK AT MOST 1048576: true; the input reads as it did. -/
def slabLastsUptoRow : OpenClaim := { program := "ytahojhaeebmpoaagreatdoor", sum := "ec7da30f08f376e216c8725129e775d7c8d391695e9519833e99a3d9cde148f1", func := "levee/leveelaw06.SlabLasts", spec := "slabLasts", inPlace := ["maps.clone"], unfollowed := true, recurses := true, named := ["levee/geo.rooms"], apart := false, laid := [("levee/geo.rooms", laid_levee_geo_rooms)], narrowed := true }
def SlabLastsUptoSaid : Prop := slabLastsUptoRow.holds Tryz.pinned (OpenSpec.upto slabLastsSpec)

/-- 'leveelaw06.SlabMixed', WHERE WHAT IT READS IS OF BULK AT MOST 1048576: true; the input reads as it did. -/
def slabMixedUptoRow : OpenClaim := { program := "ytahojhaeebmpoaagreatdoor", sum := "ec7da30f08f376e216c8725129e775d7c8d391695e9519833e99a3d9cde148f1", func := "levee/leveelaw06.SlabMixed", spec := "slabMixed", unfollowed := true, recurses := true, named := ["levee/geo.rooms"], apart := false, laid := [("levee/geo.rooms", laid_levee_geo_rooms)], narrowed := true }
def SlabMixedUptoSaid : Prop := slabMixedUptoRow.holds Tryz.pinned (OpenSpec.upto slabMixedSpec)

end Rows
end Go.Proofs.YtahojhaeebmpoaaGreatDoor
