/-
  No cell of these rows narrows 'for every input' (looked for: loops, veiled, ifaces, maps, wideKeys, modest, calm, conditions, laid).
  DERIVED. THE GIVEN ROWS OF THIS SEAT. 4 by the template 'for every input the law returns true; each argument reads behind the call as it read before'; 0 by the template 'total and deterministic' (their statements: YtkeajfedlhgejaaTotals.lean).
  GIVEN WITH THE SEED: the statements are not yours to turn. If you find one false, say at which input.
  Laid BY PROGRAM, IN A SANDBOX (cutbox-rows.mjs): the forced cells as the released guide's own fill.sh prints them over the translation dcd80a411c82ec95… (all of the seat's roots in one cut). By AI agents, Wed Nov 11 2026. No macro, syntax, notation, axiom, sorry.
-/
import Derived.Test.YtkeajfedlhgejaaChecked
import GoSem.Claim
import GoSem.ClaimJoined
import GoSem.ClaimMapViews
import Derived.JoinedTies
import Derived.KernelRfl
namespace Go.Proofs.Ytkeajfedlhgejaa
/- THE CELL 'sum', in the pinned program and in every row, IS THE sha256 OF THE DUMP (.gsa) THAT YtkeajfedlhgejaaProg.lean LOADS. Nothing in Lean hashes anything: it is a label: what it is worth is what the hold of that sum in a sandbox is worth. -/
noncomputable def Try.pinned : Pinned := { name := "ytkeajfedlhgejaa", sum := "dcd80a411c82ec9534ba53a2073183693965cb4dc5585b9b73c9b7b10e41a5d4", checked := Try.checked }
namespace Rows
def none {H : Type} : Left H := { results := [], args := [] }

/-- 'leveelaw02.PmemPlays': WHATEVER THE INPUT: true; the input reads as it did. -/
def pmemPlaysSpec : ChangeSpec := { name := "pmemPlays", fn := fun _ => fun
  | [d1, d2] => { results := [.lit (.bool true)], args := [d1, d2] }
  | _ => none }
def pmemPlaysRow : OpenClaim := { program := "ytkeajfedlhgejaa", sum := "dcd80a411c82ec9534ba53a2073183693965cb4dc5585b9b73c9b7b10e41a5d4", func := "levee/leveelaw02.PmemPlays", spec := "pmemPlays", inPlace := ["maps.clone"], unfollowed := true, recurses := true, apart := false }
def PmemPlaysSaid : Prop := pmemPlaysRow.holds Try.pinned (OpenSpec.ofChange pmemPlaysSpec)

/-- ITS FALSE NEIGHBOUR: 'it returns false'. Refute it at one input. -/
def pmemPlaysWrong : ChangeSpec := { name := "pmemPlays", fn := fun _ => fun
  | [d1, d2] => { results := [.lit (.bool false)], args := [d1, d2] }
  | _ => none }
def PmemPlaysWrongFalsely : Prop := pmemPlaysRow.holds Try.pinned (OpenSpec.ofChange pmemPlaysWrong)

/-- 'leveelaw02.PmemFronts': WHATEVER THE INPUT: true; the input reads as it did. -/
def pmemFrontsSpec : ChangeSpec := { name := "pmemFronts", fn := fun _ => fun
  | [d1, d2] => { results := [.lit (.bool true)], args := [d1, d2] }
  | _ => none }
def pmemFrontsRow : OpenClaim := { program := "ytkeajfedlhgejaa", sum := "dcd80a411c82ec9534ba53a2073183693965cb4dc5585b9b73c9b7b10e41a5d4", func := "levee/leveelaw02.PmemFronts", spec := "pmemFronts", inPlace := ["maps.clone"], unfollowed := true, recurses := true, apart := false }
def PmemFrontsSaid : Prop := pmemFrontsRow.holds Try.pinned (OpenSpec.ofChange pmemFrontsSpec)

/-- ITS FALSE NEIGHBOUR: 'it returns false'. Refute it at one input. -/
def pmemFrontsWrong : ChangeSpec := { name := "pmemFronts", fn := fun _ => fun
  | [d1, d2] => { results := [.lit (.bool false)], args := [d1, d2] }
  | _ => none }
def PmemFrontsWrongFalsely : Prop := pmemFrontsRow.holds Try.pinned (OpenSpec.ofChange pmemFrontsWrong)

/-- 'leveelaw02.PmemLasts': WHATEVER THE INPUT: true; the input reads as it did. -/
def pmemLastsSpec : ChangeSpec := { name := "pmemLasts", fn := fun _ => fun
  | [d1, d2, d3, d4, d5] => { results := [.lit (.bool true)], args := [d1, d2, d3, d4, d5] }
  | _ => none }
def pmemLastsRow : OpenClaim := { program := "ytkeajfedlhgejaa", sum := "dcd80a411c82ec9534ba53a2073183693965cb4dc5585b9b73c9b7b10e41a5d4", func := "levee/leveelaw02.PmemLasts", spec := "pmemLasts", inPlace := ["maps.clone"], unfollowed := true, recurses := true, apart := false }
def PmemLastsSaid : Prop := pmemLastsRow.holds Try.pinned (OpenSpec.ofChange pmemLastsSpec)

/-- ITS FALSE NEIGHBOUR: 'it returns false'. Refute it at one input. -/
def pmemLastsWrong : ChangeSpec := { name := "pmemLasts", fn := fun _ => fun
  | [d1, d2, d3, d4, d5] => { results := [.lit (.bool false)], args := [d1, d2, d3, d4, d5] }
  | _ => none }
def PmemLastsWrongFalsely : Prop := pmemLastsRow.holds Try.pinned (OpenSpec.ofChange pmemLastsWrong)

/-- 'leveelaw02.PmemCopies': WHATEVER THE INPUT: true; the input reads as it did. -/
def pmemCopiesSpec : ChangeSpec := { name := "pmemCopies", fn := fun _ => fun
  | [d1, d2, d3, d4] => { results := [.lit (.bool true)], args := [d1, d2, d3, d4] }
  | _ => none }
def pmemCopiesRow : OpenClaim := { program := "ytkeajfedlhgejaa", sum := "dcd80a411c82ec9534ba53a2073183693965cb4dc5585b9b73c9b7b10e41a5d4", func := "levee/leveelaw02.PmemCopies", spec := "pmemCopies", inPlace := ["maps.clone"], unfollowed := true, recurses := true, apart := false }
def PmemCopiesSaid : Prop := pmemCopiesRow.holds Try.pinned (OpenSpec.ofChange pmemCopiesSpec)

/-- ITS FALSE NEIGHBOUR: 'it returns false'. Refute it at one input. -/
def pmemCopiesWrong : ChangeSpec := { name := "pmemCopies", fn := fun _ => fun
  | [d1, d2, d3, d4] => { results := [.lit (.bool false)], args := [d1, d2, d3, d4] }
  | _ => none }
def PmemCopiesWrongFalsely : Prop := pmemCopiesRow.holds Try.pinned (OpenSpec.ofChange pmemCopiesWrong)

/- THE SECOND FORM. 'bulk': how many values and letters a reading holds, each counted each time it is reached (what is shared counts as often as it is met; a slice's spare places count too). A statement '..UptoSaid' is the law's where the arguments, and the package variables that the reading takes, are together of bulk at most 1048576: NARROWER than '..Said'. Prove '..Said' where nothing that the law and all that it calls make is longer than what came in: it says more and counts as full. Else prove '..UptoSaid'. A law counts once. -/
mutual
def uptoBulk {H : Type} : DataW H → Nat
  | .lit (.string bytes) => bytes.length + 1
  | .lit _ => 1
  | .nil => 1
  | .ptr d => uptoBulk d + 1
  | .slice elems spare => uptoBulkAll elems + uptoBulkAll spare + 1
  | .agg parts => uptoBulkAll parts + 1
  | .iface _ d => uptoBulk d + 1
  | .map entries => uptoBulkEntries entries + 1
  | .held _ => 1
def uptoBulkAll {H : Type} : List (DataW H) → Nat
  | [] => 0
  | d :: r => uptoBulk d + uptoBulkAll r
def uptoBulkEntries {H : Type} : List (Lit × DataW H) → Nat
  | [] => 0
  | x :: r => uptoBulkEntry x + uptoBulkEntries r
def uptoBulkEntry {H : Type} : Lit × DataW H → Nat
  | (.string bytes, d) => bytes.length + uptoBulk d + 1
  | (_, d) => uptoBulk d + 1
 end
def uptoSmall : (H : Type) → List (DataW H) → Bool := fun _ ds => decide (uptoBulkAll ds ≤ 1048576)
def OpenSpec.upto (s : _root_.Go.ChangeSpec) : _root_.Go.OpenSpec := { _root_.Go.OpenSpec.ofChange s with cond := some uptoSmall }

/-- 'leveelaw02.PmemPlays', WHERE WHAT IT READS IS OF BULK AT MOST 1048576: true; the input reads as it did. -/
def pmemPlaysUptoRow : OpenClaim := { program := "ytkeajfedlhgejaa", sum := "dcd80a411c82ec9534ba53a2073183693965cb4dc5585b9b73c9b7b10e41a5d4", func := "levee/leveelaw02.PmemPlays", spec := "pmemPlays", inPlace := ["maps.clone"], unfollowed := true, recurses := true, apart := false, narrowed := true }
def PmemPlaysUptoSaid : Prop := pmemPlaysUptoRow.holds Try.pinned (OpenSpec.upto pmemPlaysSpec)

/-- 'leveelaw02.PmemFronts', WHERE WHAT IT READS IS OF BULK AT MOST 1048576: true; the input reads as it did. -/
def pmemFrontsUptoRow : OpenClaim := { program := "ytkeajfedlhgejaa", sum := "dcd80a411c82ec9534ba53a2073183693965cb4dc5585b9b73c9b7b10e41a5d4", func := "levee/leveelaw02.PmemFronts", spec := "pmemFronts", inPlace := ["maps.clone"], unfollowed := true, recurses := true, apart := false, narrowed := true }
def PmemFrontsUptoSaid : Prop := pmemFrontsUptoRow.holds Try.pinned (OpenSpec.upto pmemFrontsSpec)

/-- 'leveelaw02.PmemLasts', WHERE WHAT IT READS IS OF BULK AT MOST 1048576: true; the input reads as it did. -/
def pmemLastsUptoRow : OpenClaim := { program := "ytkeajfedlhgejaa", sum := "dcd80a411c82ec9534ba53a2073183693965cb4dc5585b9b73c9b7b10e41a5d4", func := "levee/leveelaw02.PmemLasts", spec := "pmemLasts", inPlace := ["maps.clone"], unfollowed := true, recurses := true, apart := false, narrowed := true }
def PmemLastsUptoSaid : Prop := pmemLastsUptoRow.holds Try.pinned (OpenSpec.upto pmemLastsSpec)

/-- 'leveelaw02.PmemCopies', WHERE WHAT IT READS IS OF BULK AT MOST 1048576: true; the input reads as it did. -/
def pmemCopiesUptoRow : OpenClaim := { program := "ytkeajfedlhgejaa", sum := "dcd80a411c82ec9534ba53a2073183693965cb4dc5585b9b73c9b7b10e41a5d4", func := "levee/leveelaw02.PmemCopies", spec := "pmemCopies", inPlace := ["maps.clone"], unfollowed := true, recurses := true, apart := false, narrowed := true }
def PmemCopiesUptoSaid : Prop := pmemCopiesUptoRow.holds Try.pinned (OpenSpec.upto pmemCopiesSpec)

end Rows
end Go.Proofs.Ytkeajfedlhgejaa
