/-
  No cell of these rows narrows 'for every input' (looked for: loops, veiled, ifaces, maps, wideKeys, modest, calm, conditions, laid).
  DERIVED. THE GIVEN ROWS OF THIS SEAT. 6 by the template 'for every input the law returns true; each argument reads behind the call as it read before'; 0 by the template 'total and deterministic' (their statements: YtcpmocjdkfkliaaTotals.lean).
  GIVEN WITH THE SEED: the statements are not yours to turn. If you find one false, say at which input.
  Laid BY PROGRAM, IN A SANDBOX (cutbox-rows.mjs): the forced cells as the released guide's own fill.sh prints them over the translation 50bb542d239cc40d… (all of the seat's roots in one cut). By AI agents, Wed Nov 11 2026. No macro, syntax, notation, axiom, sorry.
-/
import Derived.Test.YtcpmocjdkfkliaaChecked
import GoSem.Claim
import GoSem.ClaimJoined
import GoSem.ClaimMapViews
import Derived.JoinedTies
import Derived.KernelRfl
namespace Go.Proofs.Ytcpmocjdkfkliaa
/- THE CELL 'sum', in the pinned program and in every row, IS THE sha256 OF THE DUMP (.gsa) THAT YtcpmocjdkfkliaaProg.lean LOADS. Nothing in Lean hashes anything: it is a label: what it is worth is what the hold of that sum in a sandbox is worth. -/
noncomputable def Try.pinned : Pinned := { name := "ytcpmocjdkfkliaa", sum := "50bb542d239cc40d1774834c2a07be73615820f941e328039e5e2689edae86cc", checked := Try.checked }
namespace Rows
def none {H : Type} : Left H := { results := [], args := [] }

/-- 'laws.FnExactConjugateOf': WHATEVER THE INPUT: true; the input reads as it did. -/
def fnExactConjugateOfSpec : ChangeSpec := { name := "fnExactConjugateOf", fn := fun _ => fun
  | [d1, d2] => { results := [.lit (.bool true)], args := [d1, d2] }
  | _ => none }
def fnExactConjugateOfRow : OpenClaim := { program := "ytcpmocjdkfkliaa", sum := "50bb542d239cc40d1774834c2a07be73615820f941e328039e5e2689edae86cc", func := "loop.example/g00860/laws.FnExactConjugateOf", spec := "fnExactConjugateOf", unfollowed := true, recurses := true, apart := false }
def FnExactConjugateOfSaid : Prop := fnExactConjugateOfRow.holds Try.pinned (OpenSpec.ofChange fnExactConjugateOfSpec)

/-- ITS FALSE NEIGHBOUR: 'it returns false'. Refute it at one input. -/
def fnExactConjugateOfWrong : ChangeSpec := { name := "fnExactConjugateOf", fn := fun _ => fun
  | [d1, d2] => { results := [.lit (.bool false)], args := [d1, d2] }
  | _ => none }
def FnExactConjugateOfWrongFalsely : Prop := fnExactConjugateOfRow.holds Try.pinned (OpenSpec.ofChange fnExactConjugateOfWrong)

/-- 'laws.FnExactSortedDown': WHATEVER THE INPUT: true; the input reads as it did. -/
def fnExactSortedDownSpec : ChangeSpec := { name := "fnExactSortedDown", fn := fun _ => fun
  | [d] => { results := [.lit (.bool true)], args := [d] }
  | _ => none }
def fnExactSortedDownRow : OpenClaim := { program := "ytcpmocjdkfkliaa", sum := "50bb542d239cc40d1774834c2a07be73615820f941e328039e5e2689edae86cc", func := "loop.example/g00860/laws.FnExactSortedDown", spec := "fnExactSortedDown", unfollowed := true, recurses := true, apart := false }
def FnExactSortedDownSaid : Prop := fnExactSortedDownRow.holds Try.pinned (OpenSpec.ofChange fnExactSortedDownSpec)

/-- ITS FALSE NEIGHBOUR: 'it returns false'. Refute it at one input. -/
def fnExactSortedDownWrong : ChangeSpec := { name := "fnExactSortedDown", fn := fun _ => fun
  | [d] => { results := [.lit (.bool false)], args := [d] }
  | _ => none }
def FnExactSortedDownWrongFalsely : Prop := fnExactSortedDownRow.holds Try.pinned (OpenSpec.ofChange fnExactSortedDownWrong)

/-- 'laws.FnExactWorstColumns': WHATEVER THE INPUT: true; the input reads as it did. -/
def fnExactWorstColumnsSpec : ChangeSpec := { name := "fnExactWorstColumns", fn := fun _ => fun
  | [d1, d2] => { results := [.lit (.bool true)], args := [d1, d2] }
  | _ => none }
def fnExactWorstColumnsRow : OpenClaim := { program := "ytcpmocjdkfkliaa", sum := "50bb542d239cc40d1774834c2a07be73615820f941e328039e5e2689edae86cc", func := "loop.example/g00860/laws.FnExactWorstColumns", spec := "fnExactWorstColumns", unfollowed := true, recurses := true, apart := false }
def FnExactWorstColumnsSaid : Prop := fnExactWorstColumnsRow.holds Try.pinned (OpenSpec.ofChange fnExactWorstColumnsSpec)

/-- ITS FALSE NEIGHBOUR: 'it returns false'. Refute it at one input. -/
def fnExactWorstColumnsWrong : ChangeSpec := { name := "fnExactWorstColumns", fn := fun _ => fun
  | [d1, d2] => { results := [.lit (.bool false)], args := [d1, d2] }
  | _ => none }
def FnExactWorstColumnsWrongFalsely : Prop := fnExactWorstColumnsRow.holds Try.pinned (OpenSpec.ofChange fnExactWorstColumnsWrong)

/-- 'laws.FnExactExists': WHATEVER THE INPUT: true; the input reads as it did. -/
def fnExactExistsSpec : ChangeSpec := { name := "fnExactExists", fn := fun _ => fun
  | [d1, d2] => { results := [.lit (.bool true)], args := [d1, d2] }
  | _ => none }
def fnExactExistsRow : OpenClaim := { program := "ytcpmocjdkfkliaa", sum := "50bb542d239cc40d1774834c2a07be73615820f941e328039e5e2689edae86cc", func := "loop.example/g00860/laws.FnExactExists", spec := "fnExactExists", unfollowed := true, recurses := true, apart := false }
def FnExactExistsSaid : Prop := fnExactExistsRow.holds Try.pinned (OpenSpec.ofChange fnExactExistsSpec)

/-- ITS FALSE NEIGHBOUR: 'it returns false'. Refute it at one input. -/
def fnExactExistsWrong : ChangeSpec := { name := "fnExactExists", fn := fun _ => fun
  | [d1, d2] => { results := [.lit (.bool false)], args := [d1, d2] }
  | _ => none }
def FnExactExistsWrongFalsely : Prop := fnExactExistsRow.holds Try.pinned (OpenSpec.ofChange fnExactExistsWrong)

/-- 'laws.FnExactMostIn': WHATEVER THE INPUT: true; the input reads as it did. -/
def fnExactMostInSpec : ChangeSpec := { name := "fnExactMostIn", fn := fun _ => fun
  | [d1, d2, d3] => { results := [.lit (.bool true)], args := [d1, d2, d3] }
  | _ => none }
def fnExactMostInRow : OpenClaim := { program := "ytcpmocjdkfkliaa", sum := "50bb542d239cc40d1774834c2a07be73615820f941e328039e5e2689edae86cc", func := "loop.example/g00860/laws.FnExactMostIn", spec := "fnExactMostIn", unfollowed := true, recurses := true, apart := false }
def FnExactMostInSaid : Prop := fnExactMostInRow.holds Try.pinned (OpenSpec.ofChange fnExactMostInSpec)

/-- ITS FALSE NEIGHBOUR: 'it returns false'. Refute it at one input. -/
def fnExactMostInWrong : ChangeSpec := { name := "fnExactMostIn", fn := fun _ => fun
  | [d1, d2, d3] => { results := [.lit (.bool false)], args := [d1, d2, d3] }
  | _ => none }
def FnExactMostInWrongFalsely : Prop := fnExactMostInRow.holds Try.pinned (OpenSpec.ofChange fnExactMostInWrong)

/-- 'laws.FnExactSlackOf': WHATEVER THE INPUT: true; the input reads as it did. -/
def fnExactSlackOfSpec : ChangeSpec := { name := "fnExactSlackOf", fn := fun _ => fun
  | [d1, d2] => { results := [.lit (.bool true)], args := [d1, d2] }
  | _ => none }
def fnExactSlackOfRow : OpenClaim := { program := "ytcpmocjdkfkliaa", sum := "50bb542d239cc40d1774834c2a07be73615820f941e328039e5e2689edae86cc", func := "loop.example/g00860/laws.FnExactSlackOf", spec := "fnExactSlackOf", unfollowed := true, recurses := true, apart := false }
def FnExactSlackOfSaid : Prop := fnExactSlackOfRow.holds Try.pinned (OpenSpec.ofChange fnExactSlackOfSpec)

/-- ITS FALSE NEIGHBOUR: 'it returns false'. Refute it at one input. -/
def fnExactSlackOfWrong : ChangeSpec := { name := "fnExactSlackOf", fn := fun _ => fun
  | [d1, d2] => { results := [.lit (.bool false)], args := [d1, d2] }
  | _ => none }
def FnExactSlackOfWrongFalsely : Prop := fnExactSlackOfRow.holds Try.pinned (OpenSpec.ofChange fnExactSlackOfWrong)

/- THE SECOND FORM. 'bulk': how many values and letters a reading holds, each counted each time it is reached (what is shared counts as often as it is met; a slice's spare places count too). A statement '..UptoSaid' is the law's where the arguments, and the package variables that the reading takes, are together of bulk at most 1048576: NARROWER than '..Said'. Prove '..Said' where nothing that the law and all that it calls make is longer than what came in: it says more and counts as full. Else prove '..UptoSaid'. A law counts once. -/
mutual
def uptoBulk {H : Type} : DataW H → Nat
  | .lit (.string bytes) => bytes.length + 1
  | .lit _ => 1
  | .nil => 1
  | .ptr d => uptoBulk d + 1
  | .slice elems spare => uptoBulkAll elems + uptoBulkAll spare + 1
  | .agg parts => uptoBulkAll parts + 1
  | .iface _ d => uptoBulk d + 1
  | .map entries => uptoBulkEntries entries + 1
  | .held _ => 1
def uptoBulkAll {H : Type} : List (DataW H) → Nat
  | [] => 0
  | d :: r => uptoBulk d + uptoBulkAll r
def uptoBulkEntries {H : Type} : List (Lit × DataW H) → Nat
  | [] => 0
  | x :: r => uptoBulkEntry x + uptoBulkEntries r
def uptoBulkEntry {H : Type} : Lit × DataW H → Nat
  | (.string bytes, d) => bytes.length + uptoBulk d + 1
  | (_, d) => uptoBulk d + 1
 end
def uptoSmall : (H : Type) → List (DataW H) → Bool := fun _ ds => decide (uptoBulkAll ds ≤ 1048576)
def OpenSpec.upto (s : _root_.Go.ChangeSpec) : _root_.Go.OpenSpec := { _root_.Go.OpenSpec.ofChange s with cond := some uptoSmall }

/-- 'laws.FnExactConjugateOf', WHERE WHAT IT READS IS OF BULK AT MOST 1048576: true; the input reads as it did. -/
def fnExactConjugateOfUptoRow : OpenClaim := { program := "ytcpmocjdkfkliaa", sum := "50bb542d239cc40d1774834c2a07be73615820f941e328039e5e2689edae86cc", func := "loop.example/g00860/laws.FnExactConjugateOf", spec := "fnExactConjugateOf", unfollowed := true, recurses := true, apart := false, narrowed := true }
def FnExactConjugateOfUptoSaid : Prop := fnExactConjugateOfUptoRow.holds Try.pinned (OpenSpec.upto fnExactConjugateOfSpec)

/-- 'laws.FnExactSortedDown', WHERE WHAT IT READS IS OF BULK AT MOST 1048576: true; the input reads as it did. -/
def fnExactSortedDownUptoRow : OpenClaim := { program := "ytcpmocjdkfkliaa", sum := "50bb542d239cc40d1774834c2a07be73615820f941e328039e5e2689edae86cc", func := "loop.example/g00860/laws.FnExactSortedDown", spec := "fnExactSortedDown", unfollowed := true, recurses := true, apart := false, narrowed := true }
def FnExactSortedDownUptoSaid : Prop := fnExactSortedDownUptoRow.holds Try.pinned (OpenSpec.upto fnExactSortedDownSpec)

/-- 'laws.FnExactWorstColumns', WHERE WHAT IT READS IS OF BULK AT MOST 1048576: true; the input reads as it did. -/
def fnExactWorstColumnsUptoRow : OpenClaim := { program := "ytcpmocjdkfkliaa", sum := "50bb542d239cc40d1774834c2a07be73615820f941e328039e5e2689edae86cc", func := "loop.example/g00860/laws.FnExactWorstColumns", spec := "fnExactWorstColumns", unfollowed := true, recurses := true, apart := false, narrowed := true }
def FnExactWorstColumnsUptoSaid : Prop := fnExactWorstColumnsUptoRow.holds Try.pinned (OpenSpec.upto fnExactWorstColumnsSpec)

/-- 'laws.FnExactExists', WHERE WHAT IT READS IS OF BULK AT MOST 1048576: true; the input reads as it did. -/
def fnExactExistsUptoRow : OpenClaim := { program := "ytcpmocjdkfkliaa", sum := "50bb542d239cc40d1774834c2a07be73615820f941e328039e5e2689edae86cc", func := "loop.example/g00860/laws.FnExactExists", spec := "fnExactExists", unfollowed := true, recurses := true, apart := false, narrowed := true }
def FnExactExistsUptoSaid : Prop := fnExactExistsUptoRow.holds Try.pinned (OpenSpec.upto fnExactExistsSpec)

/-- 'laws.FnExactMostIn', WHERE WHAT IT READS IS OF BULK AT MOST 1048576: true; the input reads as it did. -/
def fnExactMostInUptoRow : OpenClaim := { program := "ytcpmocjdkfkliaa", sum := "50bb542d239cc40d1774834c2a07be73615820f941e328039e5e2689edae86cc", func := "loop.example/g00860/laws.FnExactMostIn", spec := "fnExactMostIn", unfollowed := true, recurses := true, apart := false, narrowed := true }
def FnExactMostInUptoSaid : Prop := fnExactMostInUptoRow.holds Try.pinned (OpenSpec.upto fnExactMostInSpec)

/-- 'laws.FnExactSlackOf', WHERE WHAT IT READS IS OF BULK AT MOST 1048576: true; the input reads as it did. -/
def fnExactSlackOfUptoRow : OpenClaim := { program := "ytcpmocjdkfkliaa", sum := "50bb542d239cc40d1774834c2a07be73615820f941e328039e5e2689edae86cc", func := "loop.example/g00860/laws.FnExactSlackOf", spec := "fnExactSlackOf", unfollowed := true, recurses := true, apart := false, narrowed := true }
def FnExactSlackOfUptoSaid : Prop := fnExactSlackOfUptoRow.holds Try.pinned (OpenSpec.upto fnExactSlackOfSpec)

end Rows
end Go.Proofs.Ytcpmocjdkfkliaa
