/-
  No cell of these rows narrows 'for every input' (looked for: loops, veiled, ifaces, maps, wideKeys, modest, calm, conditions, laid).
  DERIVED. THE GIVEN ROWS OF THIS SEAT. 6 by the template 'for every input the law returns true; each argument reads behind the call as it read before'; 0 by the template 'total and deterministic' (their statements: YtbadlmicbbjkaaaTotals.lean).
  GIVEN WITH THE SEED: the statements are not yours to turn. If you find one false, say at which input.
  Laid BY PROGRAM, IN A SANDBOX (cutbox-rows.mjs): the forced cells as the released guide's own fill.sh prints them over the translation c205a02a55f723a3… (all of the seat's roots in one cut). By AI agents, Wed Nov 11 2026. No macro, syntax, notation, axiom, sorry.
-/
import Derived.Test.YtbadlmicbbjkaaaChecked
import GoSem.Claim
import GoSem.ClaimJoined
import GoSem.ClaimMapViews
import Derived.JoinedTies
import Derived.KernelRfl
namespace Go.Proofs.Ytbadlmicbbjkaaa
/- THE CELL 'sum', in the pinned program and in every row, IS THE sha256 OF THE DUMP (.gsa) THAT YtbadlmicbbjkaaaProg.lean LOADS. Nothing in Lean hashes anything: it is a label: what it is worth is what the hold of that sum in a sandbox is worth. -/
noncomputable def Try.pinned : Pinned := { name := "ytbadlmicbbjkaaa", sum := "c205a02a55f723a332f51f868f4b2bfe2fc8cfdd8d27c04bc6a7b98f66735fad", checked := Try.checked }
namespace Rows
def none {H : Type} : Left H := { results := [], args := [] }

/-- 'leveelaw09.FastStores': WHATEVER THE INPUT: true; the input reads as it did. -/
def fastStoresSpec : ChangeSpec := { name := "fastStores", fn := fun _ => fun
  | [d1, d2, d3] => { results := [.lit (.bool true)], args := [d1, d2, d3] }
  | _ => none }
def fastStoresRow : OpenClaim := { program := "ytbadlmicbbjkaaa", sum := "c205a02a55f723a332f51f868f4b2bfe2fc8cfdd8d27c04bc6a7b98f66735fad", func := "levee/leveelaw09.FastStores", spec := "fastStores", unfollowed := true, recurses := true, apart := false }
def FastStoresSaid : Prop := fastStoresRow.holds Try.pinned (OpenSpec.ofChange fastStoresSpec)

/-- ITS FALSE NEIGHBOUR: 'it returns false'. Refute it at one input. -/
def fastStoresWrong : ChangeSpec := { name := "fastStores", fn := fun _ => fun
  | [d1, d2, d3] => { results := [.lit (.bool false)], args := [d1, d2, d3] }
  | _ => none }
def FastStoresWrongFalsely : Prop := fastStoresRow.holds Try.pinned (OpenSpec.ofChange fastStoresWrong)

/-- 'leveelaw09.FastHolds': WHATEVER THE INPUT: true; the input reads as it did. -/
def fastHoldsSpec : ChangeSpec := { name := "fastHolds", fn := fun _ => fun
  | [d1, d2, d3] => { results := [.lit (.bool true)], args := [d1, d2, d3] }
  | _ => none }
def fastHoldsRow : OpenClaim := { program := "ytbadlmicbbjkaaa", sum := "c205a02a55f723a332f51f868f4b2bfe2fc8cfdd8d27c04bc6a7b98f66735fad", func := "levee/leveelaw09.FastHolds", spec := "fastHolds", unfollowed := true, recurses := true, apart := false }
def FastHoldsSaid : Prop := fastHoldsRow.holds Try.pinned (OpenSpec.ofChange fastHoldsSpec)

/-- ITS FALSE NEIGHBOUR: 'it returns false'. Refute it at one input. -/
def fastHoldsWrong : ChangeSpec := { name := "fastHolds", fn := fun _ => fun
  | [d1, d2, d3] => { results := [.lit (.bool false)], args := [d1, d2, d3] }
  | _ => none }
def FastHoldsWrongFalsely : Prop := fastHoldsRow.holds Try.pinned (OpenSpec.ofChange fastHoldsWrong)

/-- 'leveelaw09.FastEffect': WHATEVER THE INPUT: true; the input reads as it did. -/
def fastEffectSpec : ChangeSpec := { name := "fastEffect", fn := fun _ => fun
  | [d1, d2, d3] => { results := [.lit (.bool true)], args := [d1, d2, d3] }
  | _ => none }
def fastEffectRow : OpenClaim := { program := "ytbadlmicbbjkaaa", sum := "c205a02a55f723a332f51f868f4b2bfe2fc8cfdd8d27c04bc6a7b98f66735fad", func := "levee/leveelaw09.FastEffect", spec := "fastEffect", unfollowed := true, recurses := true, apart := false }
def FastEffectSaid : Prop := fastEffectRow.holds Try.pinned (OpenSpec.ofChange fastEffectSpec)

/-- ITS FALSE NEIGHBOUR: 'it returns false'. Refute it at one input. -/
def fastEffectWrong : ChangeSpec := { name := "fastEffect", fn := fun _ => fun
  | [d1, d2, d3] => { results := [.lit (.bool false)], args := [d1, d2, d3] }
  | _ => none }
def FastEffectWrongFalsely : Prop := fastEffectRow.holds Try.pinned (OpenSpec.ofChange fastEffectWrong)

/-- 'leveelaw09.FastOnce': WHATEVER THE INPUT: true; the input reads as it did. -/
def fastOnceSpec : ChangeSpec := { name := "fastOnce", fn := fun _ => fun
  | [d1, d2, d3] => { results := [.lit (.bool true)], args := [d1, d2, d3] }
  | _ => none }
def fastOnceRow : OpenClaim := { program := "ytbadlmicbbjkaaa", sum := "c205a02a55f723a332f51f868f4b2bfe2fc8cfdd8d27c04bc6a7b98f66735fad", func := "levee/leveelaw09.FastOnce", spec := "fastOnce", unfollowed := true, recurses := true, apart := false }
def FastOnceSaid : Prop := fastOnceRow.holds Try.pinned (OpenSpec.ofChange fastOnceSpec)

/-- ITS FALSE NEIGHBOUR: 'it returns false'. Refute it at one input. -/
def fastOnceWrong : ChangeSpec := { name := "fastOnce", fn := fun _ => fun
  | [d1, d2, d3] => { results := [.lit (.bool false)], args := [d1, d2, d3] }
  | _ => none }
def FastOnceWrongFalsely : Prop := fastOnceRow.holds Try.pinned (OpenSpec.ofChange fastOnceWrong)

/-- 'leveelaw09.FastApplies': WHATEVER THE INPUT: true; the input reads as it did. -/
def fastAppliesSpec : ChangeSpec := { name := "fastApplies", fn := fun _ => fun
  | [d1, d2, d3] => { results := [.lit (.bool true)], args := [d1, d2, d3] }
  | _ => none }
def fastAppliesRow : OpenClaim := { program := "ytbadlmicbbjkaaa", sum := "c205a02a55f723a332f51f868f4b2bfe2fc8cfdd8d27c04bc6a7b98f66735fad", func := "levee/leveelaw09.FastApplies", spec := "fastApplies", unfollowed := true, recurses := true, apart := false }
def FastAppliesSaid : Prop := fastAppliesRow.holds Try.pinned (OpenSpec.ofChange fastAppliesSpec)

/-- ITS FALSE NEIGHBOUR: 'it returns false'. Refute it at one input. -/
def fastAppliesWrong : ChangeSpec := { name := "fastApplies", fn := fun _ => fun
  | [d1, d2, d3] => { results := [.lit (.bool false)], args := [d1, d2, d3] }
  | _ => none }
def FastAppliesWrongFalsely : Prop := fastAppliesRow.holds Try.pinned (OpenSpec.ofChange fastAppliesWrong)

/-- 'leveelaw09.FastTorn': WHATEVER THE INPUT: true; the input reads as it did. -/
def fastTornSpec : ChangeSpec := { name := "fastTorn", fn := fun _ => fun
  | [d1, d2, d3, d4, d5] => { results := [.lit (.bool true)], args := [d1, d2, d3, d4, d5] }
  | _ => none }
def fastTornRow : OpenClaim := { program := "ytbadlmicbbjkaaa", sum := "c205a02a55f723a332f51f868f4b2bfe2fc8cfdd8d27c04bc6a7b98f66735fad", func := "levee/leveelaw09.FastTorn", spec := "fastTorn", unfollowed := true, recurses := true, apart := false }
def FastTornSaid : Prop := fastTornRow.holds Try.pinned (OpenSpec.ofChange fastTornSpec)

/-- ITS FALSE NEIGHBOUR: 'it returns false'. Refute it at one input. -/
def fastTornWrong : ChangeSpec := { name := "fastTorn", fn := fun _ => fun
  | [d1, d2, d3, d4, d5] => { results := [.lit (.bool false)], args := [d1, d2, d3, d4, d5] }
  | _ => none }
def FastTornWrongFalsely : Prop := fastTornRow.holds Try.pinned (OpenSpec.ofChange fastTornWrong)

/- THE SECOND FORM. 'bulk': how many values and letters a reading holds, each counted each time it is reached (what is shared counts as often as it is met; a slice's spare places count too). A statement '..UptoSaid' is the law's where the arguments, and the package variables that the reading takes, are together of bulk at most 1048576: NARROWER than '..Said'. Prove '..Said' where nothing that the law and all that it calls make is longer than what came in: it says more and counts as full. Else prove '..UptoSaid'. A law counts once. -/
mutual
def uptoBulk {H : Type} : DataW H → Nat
  | .lit (.string bytes) => bytes.length + 1
  | .lit _ => 1
  | .nil => 1
  | .ptr d => uptoBulk d + 1
  | .slice elems spare => uptoBulkAll elems + uptoBulkAll spare + 1
  | .agg parts => uptoBulkAll parts + 1
  | .iface _ d => uptoBulk d + 1
  | .map entries => uptoBulkEntries entries + 1
  | .held _ => 1
def uptoBulkAll {H : Type} : List (DataW H) → Nat
  | [] => 0
  | d :: r => uptoBulk d + uptoBulkAll r
def uptoBulkEntries {H : Type} : List (Lit × DataW H) → Nat
  | [] => 0
  | x :: r => uptoBulkEntry x + uptoBulkEntries r
def uptoBulkEntry {H : Type} : Lit × DataW H → Nat
  | (.string bytes, d) => bytes.length + uptoBulk d + 1
  | (_, d) => uptoBulk d + 1
 end
def uptoSmall : (H : Type) → List (DataW H) → Bool := fun _ ds => decide (uptoBulkAll ds ≤ 1048576)
def OpenSpec.upto (s : _root_.Go.ChangeSpec) : _root_.Go.OpenSpec := { _root_.Go.OpenSpec.ofChange s with cond := some uptoSmall }

/-- 'leveelaw09.FastStores', WHERE WHAT IT READS IS OF BULK AT MOST 1048576: true; the input reads as it did. -/
def fastStoresUptoRow : OpenClaim := { program := "ytbadlmicbbjkaaa", sum := "c205a02a55f723a332f51f868f4b2bfe2fc8cfdd8d27c04bc6a7b98f66735fad", func := "levee/leveelaw09.FastStores", spec := "fastStores", unfollowed := true, recurses := true, apart := false, narrowed := true }
def FastStoresUptoSaid : Prop := fastStoresUptoRow.holds Try.pinned (OpenSpec.upto fastStoresSpec)

/-- 'leveelaw09.FastHolds', WHERE WHAT IT READS IS OF BULK AT MOST 1048576: true; the input reads as it did. -/
def fastHoldsUptoRow : OpenClaim := { program := "ytbadlmicbbjkaaa", sum := "c205a02a55f723a332f51f868f4b2bfe2fc8cfdd8d27c04bc6a7b98f66735fad", func := "levee/leveelaw09.FastHolds", spec := "fastHolds", unfollowed := true, recurses := true, apart := false, narrowed := true }
def FastHoldsUptoSaid : Prop := fastHoldsUptoRow.holds Try.pinned (OpenSpec.upto fastHoldsSpec)

/-- 'leveelaw09.FastEffect', WHERE WHAT IT READS IS OF BULK AT MOST 1048576: true; the input reads as it did. -/
def fastEffectUptoRow : OpenClaim := { program := "ytbadlmicbbjkaaa", sum := "c205a02a55f723a332f51f868f4b2bfe2fc8cfdd8d27c04bc6a7b98f66735fad", func := "levee/leveelaw09.FastEffect", spec := "fastEffect", unfollowed := true, recurses := true, apart := false, narrowed := true }
def FastEffectUptoSaid : Prop := fastEffectUptoRow.holds Try.pinned (OpenSpec.upto fastEffectSpec)

/-- 'leveelaw09.FastOnce', WHERE WHAT IT READS IS OF BULK AT MOST 1048576: true; the input reads as it did. -/
def fastOnceUptoRow : OpenClaim := { program := "ytbadlmicbbjkaaa", sum := "c205a02a55f723a332f51f868f4b2bfe2fc8cfdd8d27c04bc6a7b98f66735fad", func := "levee/leveelaw09.FastOnce", spec := "fastOnce", unfollowed := true, recurses := true, apart := false, narrowed := true }
def FastOnceUptoSaid : Prop := fastOnceUptoRow.holds Try.pinned (OpenSpec.upto fastOnceSpec)

/-- 'leveelaw09.FastApplies', WHERE WHAT IT READS IS OF BULK AT MOST 1048576: true; the input reads as it did. -/
def fastAppliesUptoRow : OpenClaim := { program := "ytbadlmicbbjkaaa", sum := "c205a02a55f723a332f51f868f4b2bfe2fc8cfdd8d27c04bc6a7b98f66735fad", func := "levee/leveelaw09.FastApplies", spec := "fastApplies", unfollowed := true, recurses := true, apart := false, narrowed := true }
def FastAppliesUptoSaid : Prop := fastAppliesUptoRow.holds Try.pinned (OpenSpec.upto fastAppliesSpec)

/-- 'leveelaw09.FastTorn', WHERE WHAT IT READS IS OF BULK AT MOST 1048576: true; the input reads as it did. -/
def fastTornUptoRow : OpenClaim := { program := "ytbadlmicbbjkaaa", sum := "c205a02a55f723a332f51f868f4b2bfe2fc8cfdd8d27c04bc6a7b98f66735fad", func := "levee/leveelaw09.FastTorn", spec := "fastTorn", unfollowed := true, recurses := true, apart := false, narrowed := true }
def FastTornUptoSaid : Prop := fastTornUptoRow.holds Try.pinned (OpenSpec.upto fastTornSpec)

end Rows
end Go.Proofs.Ytbadlmicbbjkaaa
