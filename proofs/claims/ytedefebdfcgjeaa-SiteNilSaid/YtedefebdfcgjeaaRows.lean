/-
  No cell of these rows narrows 'for every input' (looked for: loops, veiled, ifaces, maps, wideKeys, modest, calm, conditions, laid).
  DERIVED. THE GIVEN ROWS OF THIS SEAT. 3 by the template 'for every input the law returns true; each argument reads behind the call as it read before'; 0 by the template 'total and deterministic' (their statements: YtedefebdfcgjeaaTotals.lean).
  GIVEN WITH THE SEED: the statements are not yours to turn. If you find one false, say at which input.
  Laid BY PROGRAM, IN A SANDBOX (cutbox-rows.mjs): the forced cells as the released guide's own fill.sh prints them over the translation 904efeba3d12d115… (all of the seat's roots in one cut). By AI agents, Wed Nov 11 2026. No macro, syntax, notation, axiom, sorry.
-/
import Derived.Test.YtedefebdfcgjeaaChecked
import GoSem.Claim
import GoSem.ClaimJoined
import GoSem.ClaimMapViews
import Derived.JoinedTies
import Derived.KernelRfl
namespace Go.Proofs.Ytedefebdfcgjeaa
/- THE CELL 'sum', in the pinned program and in every row, IS THE sha256 OF THE DUMP (.gsa) THAT YtedefebdfcgjeaaProg.lean LOADS. Nothing in Lean hashes anything: it is a label: what it is worth is what the hold of that sum in a sandbox is worth. -/
noncomputable def Try.pinned : Pinned := { name := "ytedefebdfcgjeaa", sum := "904efeba3d12d115e9ec3baccd30c3e7b6d2116774f0ad0b8a48c20206ceb175", checked := Try.checked }
namespace Rows
def none {H : Type} : Left H := { results := [], args := [] }

/-- 'leveelaw13.SiteWhole': WHATEVER THE INPUT: true; the input reads as it did. -/
def siteWholeSpec : ChangeSpec := { name := "siteWhole", fn := fun _ => fun
  | [d1, d2] => { results := [.lit (.bool true)], args := [d1, d2] }
  | _ => none }
def siteWholeRow : OpenClaim := { program := "ytedefebdfcgjeaa", sum := "904efeba3d12d115e9ec3baccd30c3e7b6d2116774f0ad0b8a48c20206ceb175", func := "levee/leveelaw13.SiteWhole", spec := "siteWhole", unfollowed := true, recurses := true, apart := false }
def SiteWholeSaid : Prop := siteWholeRow.holds Try.pinned (OpenSpec.ofChange siteWholeSpec)

/-- ITS FALSE NEIGHBOUR: 'it returns false'. Refute it at one input. -/
def siteWholeWrong : ChangeSpec := { name := "siteWhole", fn := fun _ => fun
  | [d1, d2] => { results := [.lit (.bool false)], args := [d1, d2] }
  | _ => none }
def SiteWholeWrongFalsely : Prop := siteWholeRow.holds Try.pinned (OpenSpec.ofChange siteWholeWrong)

/-- 'leveelaw13.SiteStays': WHATEVER THE INPUT: true; the input reads as it did. -/
def siteStaysSpec : ChangeSpec := { name := "siteStays", fn := fun _ => fun
  | [d] => { results := [.lit (.bool true)], args := [d] }
  | _ => none }
def siteStaysRow : OpenClaim := { program := "ytedefebdfcgjeaa", sum := "904efeba3d12d115e9ec3baccd30c3e7b6d2116774f0ad0b8a48c20206ceb175", func := "levee/leveelaw13.SiteStays", spec := "siteStays", unfollowed := true, recurses := true, apart := false }
def SiteStaysSaid : Prop := siteStaysRow.holds Try.pinned (OpenSpec.ofChange siteStaysSpec)

/-- ITS FALSE NEIGHBOUR: 'it returns false'. Refute it at one input. -/
def siteStaysWrong : ChangeSpec := { name := "siteStays", fn := fun _ => fun
  | [d] => { results := [.lit (.bool false)], args := [d] }
  | _ => none }
def SiteStaysWrongFalsely : Prop := siteStaysRow.holds Try.pinned (OpenSpec.ofChange siteStaysWrong)

/-- 'leveelaw13.SiteNil': WHATEVER THE INPUT: true; the input reads as it did. -/
def siteNilSpec : ChangeSpec := { name := "siteNil", fn := fun _ => fun
  | [] => { results := [.lit (.bool true)], args := [] }
  | _ => none }
def siteNilRow : OpenClaim := { program := "ytedefebdfcgjeaa", sum := "904efeba3d12d115e9ec3baccd30c3e7b6d2116774f0ad0b8a48c20206ceb175", func := "levee/leveelaw13.SiteNil", spec := "siteNil", unfollowed := true, recurses := true, apart := false }
def SiteNilSaid : Prop := siteNilRow.holds Try.pinned (OpenSpec.ofChange siteNilSpec)

/-- ITS FALSE NEIGHBOUR: 'it returns false'. Refute it at one input. -/
def siteNilWrong : ChangeSpec := { name := "siteNil", fn := fun _ => fun
  | [] => { results := [.lit (.bool false)], args := [] }
  | _ => none }
def SiteNilWrongFalsely : Prop := siteNilRow.holds Try.pinned (OpenSpec.ofChange siteNilWrong)

/- THE SECOND FORM. 'bulk': how many values and letters a reading holds, each counted each time it is reached (what is shared counts as often as it is met; a slice's spare places count too). A statement '..UptoSaid' is the law's where the arguments, and the package variables that the reading takes, are together of bulk at most 1048576: NARROWER than '..Said'. Prove '..Said' where nothing that the law and all that it calls make is longer than what came in: it says more and counts as full. Else prove '..UptoSaid'. A law counts once. -/
mutual
def uptoBulk {H : Type} : DataW H → Nat
  | .lit (.string bytes) => bytes.length + 1
  | .lit _ => 1
  | .nil => 1
  | .ptr d => uptoBulk d + 1
  | .slice elems spare => uptoBulkAll elems + uptoBulkAll spare + 1
  | .agg parts => uptoBulkAll parts + 1
  | .iface _ d => uptoBulk d + 1
  | .map entries => uptoBulkEntries entries + 1
  | .held _ => 1
def uptoBulkAll {H : Type} : List (DataW H) → Nat
  | [] => 0
  | d :: r => uptoBulk d + uptoBulkAll r
def uptoBulkEntries {H : Type} : List (Lit × DataW H) → Nat
  | [] => 0
  | x :: r => uptoBulkEntry x + uptoBulkEntries r
def uptoBulkEntry {H : Type} : Lit × DataW H → Nat
  | (.string bytes, d) => bytes.length + uptoBulk d + 1
  | (_, d) => uptoBulk d + 1
 end
def uptoSmall : (H : Type) → List (DataW H) → Bool := fun _ ds => decide (uptoBulkAll ds ≤ 1048576)
def OpenSpec.upto (s : _root_.Go.ChangeSpec) : _root_.Go.OpenSpec := { _root_.Go.OpenSpec.ofChange s with cond := some uptoSmall }

/-- 'leveelaw13.SiteWhole', WHERE WHAT IT READS IS OF BULK AT MOST 1048576: true; the input reads as it did. -/
def siteWholeUptoRow : OpenClaim := { program := "ytedefebdfcgjeaa", sum := "904efeba3d12d115e9ec3baccd30c3e7b6d2116774f0ad0b8a48c20206ceb175", func := "levee/leveelaw13.SiteWhole", spec := "siteWhole", unfollowed := true, recurses := true, apart := false, narrowed := true }
def SiteWholeUptoSaid : Prop := siteWholeUptoRow.holds Try.pinned (OpenSpec.upto siteWholeSpec)

/-- 'leveelaw13.SiteStays', WHERE WHAT IT READS IS OF BULK AT MOST 1048576: true; the input reads as it did. -/
def siteStaysUptoRow : OpenClaim := { program := "ytedefebdfcgjeaa", sum := "904efeba3d12d115e9ec3baccd30c3e7b6d2116774f0ad0b8a48c20206ceb175", func := "levee/leveelaw13.SiteStays", spec := "siteStays", unfollowed := true, recurses := true, apart := false, narrowed := true }
def SiteStaysUptoSaid : Prop := siteStaysUptoRow.holds Try.pinned (OpenSpec.upto siteStaysSpec)

/-- 'leveelaw13.SiteNil', WHERE WHAT IT READS IS OF BULK AT MOST 1048576: true; the input reads as it did. -/
def siteNilUptoRow : OpenClaim := { program := "ytedefebdfcgjeaa", sum := "904efeba3d12d115e9ec3baccd30c3e7b6d2116774f0ad0b8a48c20206ceb175", func := "levee/leveelaw13.SiteNil", spec := "siteNil", unfollowed := true, recurses := true, apart := false, narrowed := true }
def SiteNilUptoSaid : Prop := siteNilUptoRow.holds Try.pinned (OpenSpec.upto siteNilSpec)

end Rows
end Go.Proofs.Ytedefebdfcgjeaa
