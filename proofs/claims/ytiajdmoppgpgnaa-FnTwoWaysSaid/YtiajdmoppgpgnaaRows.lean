/-
  No cell of these rows narrows 'for every input' (looked for: loops, veiled, ifaces, maps, wideKeys, modest, calm, conditions, laid).
  DERIVED. THE GIVEN ROWS OF THIS SEAT. 11 by the template 'for every input the law returns true; each argument reads behind the call as it read before'; 0 by the template 'total and deterministic' (their statements: YtiajdmoppgpgnaaTotals.lean).
  GIVEN WITH THE SEED: the statements are not yours to turn. If you find one false, say at which input.
  Laid BY PROGRAM, IN A SANDBOX (cutbox-rows.mjs): the forced cells as the released guide's own fill.sh prints them over the translation cdfa8d28fd897040… (all of the seat's roots in one cut). By AI agents, Wed Nov 11 2026. No macro, syntax, notation, axiom, sorry.
-/
import Derived.Test.YtiajdmoppgpgnaaChecked
import GoSem.Claim
import GoSem.ClaimJoined
import GoSem.ClaimMapViews
import Derived.JoinedTies
import Derived.KernelRfl
namespace Go.Proofs.Ytiajdmoppgpgnaa
/- THE CELL 'sum', in the pinned program and in every row, IS THE sha256 OF THE DUMP (.gsa) THAT YtiajdmoppgpgnaaProg.lean LOADS. Nothing in Lean hashes anything: it is a label: what it is worth is what the hold of that sum in a sandbox is worth. -/
noncomputable def Try.pinned : Pinned := { name := "ytiajdmoppgpgnaa", sum := "cdfa8d28fd89704099c20043d21f915726a58b53126bbbcb6631a3d1bb887cc5", checked := Try.checked }
namespace Rows
def none {H : Type} : Left H := { results := [], args := [] }

/-- 'laws.FnExactDirectionsOk': WHATEVER THE INPUT: true; the input reads as it did. -/
def fnExactDirectionsOkSpec : ChangeSpec := { name := "fnExactDirectionsOk", fn := fun _ => fun
  | [d] => { results := [.lit (.bool true)], args := [d] }
  | _ => none }
def fnExactDirectionsOkRow : OpenClaim := { program := "ytiajdmoppgpgnaa", sum := "cdfa8d28fd89704099c20043d21f915726a58b53126bbbcb6631a3d1bb887cc5", func := "loop.example/g00860/laws.FnExactDirectionsOk", spec := "fnExactDirectionsOk", plainKeys := false, apart := false }
def FnExactDirectionsOkSaid : Prop := fnExactDirectionsOkRow.holds Try.pinned (OpenSpec.ofChange fnExactDirectionsOkSpec)

/-- ITS FALSE NEIGHBOUR: 'it returns false'. Refute it at one input. -/
def fnExactDirectionsOkWrong : ChangeSpec := { name := "fnExactDirectionsOk", fn := fun _ => fun
  | [d] => { results := [.lit (.bool false)], args := [d] }
  | _ => none }
def FnExactDirectionsOkWrongFalsely : Prop := fnExactDirectionsOkRow.holds Try.pinned (OpenSpec.ofChange fnExactDirectionsOkWrong)

/-- 'laws.FnExactGridSums': WHATEVER THE INPUT: true; the input reads as it did. -/
def fnExactGridSumsSpec : ChangeSpec := { name := "fnExactGridSums", fn := fun _ => fun
  | [d1, d2] => { results := [.lit (.bool true)], args := [d1, d2] }
  | _ => none }
def fnExactGridSumsRow : OpenClaim := { program := "ytiajdmoppgpgnaa", sum := "cdfa8d28fd89704099c20043d21f915726a58b53126bbbcb6631a3d1bb887cc5", func := "loop.example/g00860/laws.FnExactGridSums", spec := "fnExactGridSums", unfollowed := true, recurses := true, plainKeys := false, apart := false }
def FnExactGridSumsSaid : Prop := fnExactGridSumsRow.holds Try.pinned (OpenSpec.ofChange fnExactGridSumsSpec)

/-- ITS FALSE NEIGHBOUR: 'it returns false'. Refute it at one input. -/
def fnExactGridSumsWrong : ChangeSpec := { name := "fnExactGridSums", fn := fun _ => fun
  | [d1, d2] => { results := [.lit (.bool false)], args := [d1, d2] }
  | _ => none }
def FnExactGridSumsWrongFalsely : Prop := fnExactGridSumsRow.holds Try.pinned (OpenSpec.ofChange fnExactGridSumsWrong)

/-- 'laws.FnExactIsGhost': WHATEVER THE INPUT: true; the input reads as it did. -/
def fnExactIsGhostSpec : ChangeSpec := { name := "fnExactIsGhost", fn := fun _ => fun
  | [d1, d2] => { results := [.lit (.bool true)], args := [d1, d2] }
  | _ => none }
def fnExactIsGhostRow : OpenClaim := { program := "ytiajdmoppgpgnaa", sum := "cdfa8d28fd89704099c20043d21f915726a58b53126bbbcb6631a3d1bb887cc5", func := "loop.example/g00860/laws.FnExactIsGhost", spec := "fnExactIsGhost", unfollowed := true, recurses := true, plainKeys := false, apart := false }
def FnExactIsGhostSaid : Prop := fnExactIsGhostRow.holds Try.pinned (OpenSpec.ofChange fnExactIsGhostSpec)

/-- ITS FALSE NEIGHBOUR: 'it returns false'. Refute it at one input. -/
def fnExactIsGhostWrong : ChangeSpec := { name := "fnExactIsGhost", fn := fun _ => fun
  | [d1, d2] => { results := [.lit (.bool false)], args := [d1, d2] }
  | _ => none }
def FnExactIsGhostWrongFalsely : Prop := fnExactIsGhostRow.holds Try.pinned (OpenSpec.ofChange fnExactIsGhostWrong)

/-- 'laws.FnExactBasicGhost': WHATEVER THE INPUT: true; the input reads as it did. -/
def fnExactBasicGhostSpec : ChangeSpec := { name := "fnExactBasicGhost", fn := fun _ => fun
  | [d] => { results := [.lit (.bool true)], args := [d] }
  | _ => none }
def fnExactBasicGhostRow : OpenClaim := { program := "ytiajdmoppgpgnaa", sum := "cdfa8d28fd89704099c20043d21f915726a58b53126bbbcb6631a3d1bb887cc5", func := "loop.example/g00860/laws.FnExactBasicGhost", spec := "fnExactBasicGhost", unfollowed := true, recurses := true, plainKeys := false, apart := false }
def FnExactBasicGhostSaid : Prop := fnExactBasicGhostRow.holds Try.pinned (OpenSpec.ofChange fnExactBasicGhostSpec)

/-- ITS FALSE NEIGHBOUR: 'it returns false'. Refute it at one input. -/
def fnExactBasicGhostWrong : ChangeSpec := { name := "fnExactBasicGhost", fn := fun _ => fun
  | [d] => { results := [.lit (.bool false)], args := [d] }
  | _ => none }
def FnExactBasicGhostWrongFalsely : Prop := fnExactBasicGhostRow.holds Try.pinned (OpenSpec.ofChange fnExactBasicGhostWrong)

/-- 'laws.FnExactGhostSize': WHATEVER THE INPUT: true; the input reads as it did. -/
def fnExactGhostSizeSpec : ChangeSpec := { name := "fnExactGhostSize", fn := fun _ => fun
  | [d] => { results := [.lit (.bool true)], args := [d] }
  | _ => none }
def fnExactGhostSizeRow : OpenClaim := { program := "ytiajdmoppgpgnaa", sum := "cdfa8d28fd89704099c20043d21f915726a58b53126bbbcb6631a3d1bb887cc5", func := "loop.example/g00860/laws.FnExactGhostSize", spec := "fnExactGhostSize", plainKeys := false, apart := false }
def FnExactGhostSizeSaid : Prop := fnExactGhostSizeRow.holds Try.pinned (OpenSpec.ofChange fnExactGhostSizeSpec)

/-- ITS FALSE NEIGHBOUR: 'it returns false'. Refute it at one input. -/
def fnExactGhostSizeWrong : ChangeSpec := { name := "fnExactGhostSize", fn := fun _ => fun
  | [d] => { results := [.lit (.bool false)], args := [d] }
  | _ => none }
def FnExactGhostSizeWrongFalsely : Prop := fnExactGhostSizeRow.holds Try.pinned (OpenSpec.ofChange fnExactGhostSizeWrong)

/-- 'laws.FnExactIsDetermined': WHATEVER THE INPUT: true; the input reads as it did. -/
def fnExactIsDeterminedSpec : ChangeSpec := { name := "fnExactIsDetermined", fn := fun _ => fun
  | [d1, d2, d3] => { results := [.lit (.bool true)], args := [d1, d2, d3] }
  | _ => none }
def fnExactIsDeterminedRow : OpenClaim := { program := "ytiajdmoppgpgnaa", sum := "cdfa8d28fd89704099c20043d21f915726a58b53126bbbcb6631a3d1bb887cc5", func := "loop.example/g00860/laws.FnExactIsDetermined", spec := "fnExactIsDetermined", plainKeys := false, apart := false }
def FnExactIsDeterminedSaid : Prop := fnExactIsDeterminedRow.holds Try.pinned (OpenSpec.ofChange fnExactIsDeterminedSpec)

/-- ITS FALSE NEIGHBOUR: 'it returns false'. Refute it at one input. -/
def fnExactIsDeterminedWrong : ChangeSpec := { name := "fnExactIsDetermined", fn := fun _ => fun
  | [d1, d2, d3] => { results := [.lit (.bool false)], args := [d1, d2, d3] }
  | _ => none }
def FnExactIsDeterminedWrongFalsely : Prop := fnExactIsDeterminedRow.holds Try.pinned (OpenSpec.ofChange fnExactIsDeterminedWrong)

/-- 'laws.FnExactAddGhost': WHATEVER THE INPUT: true; the input reads as it did. -/
def fnExactAddGhostSpec : ChangeSpec := { name := "fnExactAddGhost", fn := fun _ => fun
  | [d1, d2, d3, d4] => { results := [.lit (.bool true)], args := [d1, d2, d3, d4] }
  | _ => none }
def fnExactAddGhostRow : OpenClaim := { program := "ytiajdmoppgpgnaa", sum := "cdfa8d28fd89704099c20043d21f915726a58b53126bbbcb6631a3d1bb887cc5", func := "loop.example/g00860/laws.FnExactAddGhost", spec := "fnExactAddGhost", unfollowed := true, recurses := true, plainKeys := false, apart := false }
def FnExactAddGhostSaid : Prop := fnExactAddGhostRow.holds Try.pinned (OpenSpec.ofChange fnExactAddGhostSpec)

/-- ITS FALSE NEIGHBOUR: 'it returns false'. Refute it at one input. -/
def fnExactAddGhostWrong : ChangeSpec := { name := "fnExactAddGhost", fn := fun _ => fun
  | [d1, d2, d3, d4] => { results := [.lit (.bool false)], args := [d1, d2, d3, d4] }
  | _ => none }
def FnExactAddGhostWrongFalsely : Prop := fnExactAddGhostRow.holds Try.pinned (OpenSpec.ofChange fnExactAddGhostWrong)

/-- 'laws.FnSums': WHATEVER THE INPUT: true; the input reads as it did. -/
def fnSumsSpec : ChangeSpec := { name := "fnSums", fn := fun _ => fun
  | [d] => { results := [.lit (.bool true)], args := [d] }
  | _ => none }
def fnSumsRow : OpenClaim := { program := "ytiajdmoppgpgnaa", sum := "cdfa8d28fd89704099c20043d21f915726a58b53126bbbcb6631a3d1bb887cc5", func := "loop.example/g00860/laws.FnSums", spec := "fnSums", unfollowed := true, recurses := true, plainKeys := false, apart := false }
def FnSumsSaid : Prop := fnSumsRow.holds Try.pinned (OpenSpec.ofChange fnSumsSpec)

/-- ITS FALSE NEIGHBOUR: 'it returns false'. Refute it at one input. -/
def fnSumsWrong : ChangeSpec := { name := "fnSums", fn := fun _ => fun
  | [d] => { results := [.lit (.bool false)], args := [d] }
  | _ => none }
def FnSumsWrongFalsely : Prop := fnSumsRow.holds Try.pinned (OpenSpec.ofChange fnSumsWrong)

/-- 'laws.FnGhosts': WHATEVER THE INPUT: true; the input reads as it did. -/
def fnGhostsSpec : ChangeSpec := { name := "fnGhosts", fn := fun _ => fun
  | [d] => { results := [.lit (.bool true)], args := [d] }
  | _ => none }
def fnGhostsRow : OpenClaim := { program := "ytiajdmoppgpgnaa", sum := "cdfa8d28fd89704099c20043d21f915726a58b53126bbbcb6631a3d1bb887cc5", func := "loop.example/g00860/laws.FnGhosts", spec := "fnGhosts", unfollowed := true, recurses := true, plainKeys := false, apart := false }
def FnGhostsSaid : Prop := fnGhostsRow.holds Try.pinned (OpenSpec.ofChange fnGhostsSpec)

/-- ITS FALSE NEIGHBOUR: 'it returns false'. Refute it at one input. -/
def fnGhostsWrong : ChangeSpec := { name := "fnGhosts", fn := fun _ => fun
  | [d] => { results := [.lit (.bool false)], args := [d] }
  | _ => none }
def FnGhostsWrongFalsely : Prop := fnGhostsRow.holds Try.pinned (OpenSpec.ofChange fnGhostsWrong)

/-- 'laws.FnDetermined': WHATEVER THE INPUT: true; the input reads as it did. -/
def fnDeterminedSpec : ChangeSpec := { name := "fnDetermined", fn := fun _ => fun
  | [d] => { results := [.lit (.bool true)], args := [d] }
  | _ => none }
def fnDeterminedRow : OpenClaim := { program := "ytiajdmoppgpgnaa", sum := "cdfa8d28fd89704099c20043d21f915726a58b53126bbbcb6631a3d1bb887cc5", func := "loop.example/g00860/laws.FnDetermined", spec := "fnDetermined", plainKeys := false, apart := false }
def FnDeterminedSaid : Prop := fnDeterminedRow.holds Try.pinned (OpenSpec.ofChange fnDeterminedSpec)

/-- ITS FALSE NEIGHBOUR: 'it returns false'. Refute it at one input. -/
def fnDeterminedWrong : ChangeSpec := { name := "fnDetermined", fn := fun _ => fun
  | [d] => { results := [.lit (.bool false)], args := [d] }
  | _ => none }
def FnDeterminedWrongFalsely : Prop := fnDeterminedRow.holds Try.pinned (OpenSpec.ofChange fnDeterminedWrong)

/-- 'laws.FnTwoWays': WHATEVER THE INPUT: true; the input reads as it did. -/
def fnTwoWaysSpec : ChangeSpec := { name := "fnTwoWays", fn := fun _ => fun
  | [d] => { results := [.lit (.bool true)], args := [d] }
  | _ => none }
def fnTwoWaysRow : OpenClaim := { program := "ytiajdmoppgpgnaa", sum := "cdfa8d28fd89704099c20043d21f915726a58b53126bbbcb6631a3d1bb887cc5", func := "loop.example/g00860/laws.FnTwoWays", spec := "fnTwoWays", unfollowed := true, recurses := true, plainKeys := false, apart := false }
def FnTwoWaysSaid : Prop := fnTwoWaysRow.holds Try.pinned (OpenSpec.ofChange fnTwoWaysSpec)

/-- ITS FALSE NEIGHBOUR: 'it returns false'. Refute it at one input. -/
def fnTwoWaysWrong : ChangeSpec := { name := "fnTwoWays", fn := fun _ => fun
  | [d] => { results := [.lit (.bool false)], args := [d] }
  | _ => none }
def FnTwoWaysWrongFalsely : Prop := fnTwoWaysRow.holds Try.pinned (OpenSpec.ofChange fnTwoWaysWrong)

/- THE SECOND FORM. 'bulk': how many values and letters a reading holds, each counted each time it is reached (what is shared counts as often as it is met; a slice's spare places count too). A statement '..UptoSaid' is the law's where the arguments, and the package variables that the reading takes, are together of bulk at most 1048576: NARROWER than '..Said'. Prove '..Said' where nothing that the law and all that it calls make is longer than what came in: it says more and counts as full. Else prove '..UptoSaid'. A law counts once. -/
mutual
def uptoBulk {H : Type} : DataW H → Nat
  | .lit (.string bytes) => bytes.length + 1
  | .lit _ => 1
  | .nil => 1
  | .ptr d => uptoBulk d + 1
  | .slice elems spare => uptoBulkAll elems + uptoBulkAll spare + 1
  | .agg parts => uptoBulkAll parts + 1
  | .iface _ d => uptoBulk d + 1
  | .map entries => uptoBulkEntries entries + 1
  | .held _ => 1
def uptoBulkAll {H : Type} : List (DataW H) → Nat
  | [] => 0
  | d :: r => uptoBulk d + uptoBulkAll r
def uptoBulkEntries {H : Type} : List (Lit × DataW H) → Nat
  | [] => 0
  | x :: r => uptoBulkEntry x + uptoBulkEntries r
def uptoBulkEntry {H : Type} : Lit × DataW H → Nat
  | (.string bytes, d) => bytes.length + uptoBulk d + 1
  | (_, d) => uptoBulk d + 1
 end
def uptoSmall : (H : Type) → List (DataW H) → Bool := fun _ ds => decide (uptoBulkAll ds ≤ 1048576)
def OpenSpec.upto (s : _root_.Go.ChangeSpec) : _root_.Go.OpenSpec := { _root_.Go.OpenSpec.ofChange s with cond := some uptoSmall }

/-- 'laws.FnExactDirectionsOk', WHERE WHAT IT READS IS OF BULK AT MOST 1048576: true; the input reads as it did. -/
def fnExactDirectionsOkUptoRow : OpenClaim := { program := "ytiajdmoppgpgnaa", sum := "cdfa8d28fd89704099c20043d21f915726a58b53126bbbcb6631a3d1bb887cc5", func := "loop.example/g00860/laws.FnExactDirectionsOk", spec := "fnExactDirectionsOk", plainKeys := false, apart := false, narrowed := true }
def FnExactDirectionsOkUptoSaid : Prop := fnExactDirectionsOkUptoRow.holds Try.pinned (OpenSpec.upto fnExactDirectionsOkSpec)

/-- 'laws.FnExactGridSums', WHERE WHAT IT READS IS OF BULK AT MOST 1048576: true; the input reads as it did. -/
def fnExactGridSumsUptoRow : OpenClaim := { program := "ytiajdmoppgpgnaa", sum := "cdfa8d28fd89704099c20043d21f915726a58b53126bbbcb6631a3d1bb887cc5", func := "loop.example/g00860/laws.FnExactGridSums", spec := "fnExactGridSums", unfollowed := true, recurses := true, plainKeys := false, apart := false, narrowed := true }
def FnExactGridSumsUptoSaid : Prop := fnExactGridSumsUptoRow.holds Try.pinned (OpenSpec.upto fnExactGridSumsSpec)

/-- 'laws.FnExactIsGhost', WHERE WHAT IT READS IS OF BULK AT MOST 1048576: true; the input reads as it did. -/
def fnExactIsGhostUptoRow : OpenClaim := { program := "ytiajdmoppgpgnaa", sum := "cdfa8d28fd89704099c20043d21f915726a58b53126bbbcb6631a3d1bb887cc5", func := "loop.example/g00860/laws.FnExactIsGhost", spec := "fnExactIsGhost", unfollowed := true, recurses := true, plainKeys := false, apart := false, narrowed := true }
def FnExactIsGhostUptoSaid : Prop := fnExactIsGhostUptoRow.holds Try.pinned (OpenSpec.upto fnExactIsGhostSpec)

/-- 'laws.FnExactBasicGhost', WHERE WHAT IT READS IS OF BULK AT MOST 1048576: true; the input reads as it did. -/
def fnExactBasicGhostUptoRow : OpenClaim := { program := "ytiajdmoppgpgnaa", sum := "cdfa8d28fd89704099c20043d21f915726a58b53126bbbcb6631a3d1bb887cc5", func := "loop.example/g00860/laws.FnExactBasicGhost", spec := "fnExactBasicGhost", unfollowed := true, recurses := true, plainKeys := false, apart := false, narrowed := true }
def FnExactBasicGhostUptoSaid : Prop := fnExactBasicGhostUptoRow.holds Try.pinned (OpenSpec.upto fnExactBasicGhostSpec)

/-- 'laws.FnExactGhostSize', WHERE WHAT IT READS IS OF BULK AT MOST 1048576: true; the input reads as it did. -/
def fnExactGhostSizeUptoRow : OpenClaim := { program := "ytiajdmoppgpgnaa", sum := "cdfa8d28fd89704099c20043d21f915726a58b53126bbbcb6631a3d1bb887cc5", func := "loop.example/g00860/laws.FnExactGhostSize", spec := "fnExactGhostSize", plainKeys := false, apart := false, narrowed := true }
def FnExactGhostSizeUptoSaid : Prop := fnExactGhostSizeUptoRow.holds Try.pinned (OpenSpec.upto fnExactGhostSizeSpec)

/-- 'laws.FnExactIsDetermined', WHERE WHAT IT READS IS OF BULK AT MOST 1048576: true; the input reads as it did. -/
def fnExactIsDeterminedUptoRow : OpenClaim := { program := "ytiajdmoppgpgnaa", sum := "cdfa8d28fd89704099c20043d21f915726a58b53126bbbcb6631a3d1bb887cc5", func := "loop.example/g00860/laws.FnExactIsDetermined", spec := "fnExactIsDetermined", plainKeys := false, apart := false, narrowed := true }
def FnExactIsDeterminedUptoSaid : Prop := fnExactIsDeterminedUptoRow.holds Try.pinned (OpenSpec.upto fnExactIsDeterminedSpec)

/-- 'laws.FnExactAddGhost', WHERE WHAT IT READS IS OF BULK AT MOST 1048576: true; the input reads as it did. -/
def fnExactAddGhostUptoRow : OpenClaim := { program := "ytiajdmoppgpgnaa", sum := "cdfa8d28fd89704099c20043d21f915726a58b53126bbbcb6631a3d1bb887cc5", func := "loop.example/g00860/laws.FnExactAddGhost", spec := "fnExactAddGhost", unfollowed := true, recurses := true, plainKeys := false, apart := false, narrowed := true }
def FnExactAddGhostUptoSaid : Prop := fnExactAddGhostUptoRow.holds Try.pinned (OpenSpec.upto fnExactAddGhostSpec)

/-- 'laws.FnSums', WHERE WHAT IT READS IS OF BULK AT MOST 1048576: true; the input reads as it did. -/
def fnSumsUptoRow : OpenClaim := { program := "ytiajdmoppgpgnaa", sum := "cdfa8d28fd89704099c20043d21f915726a58b53126bbbcb6631a3d1bb887cc5", func := "loop.example/g00860/laws.FnSums", spec := "fnSums", unfollowed := true, recurses := true, plainKeys := false, apart := false, narrowed := true }
def FnSumsUptoSaid : Prop := fnSumsUptoRow.holds Try.pinned (OpenSpec.upto fnSumsSpec)

/-- 'laws.FnGhosts', WHERE WHAT IT READS IS OF BULK AT MOST 1048576: true; the input reads as it did. -/
def fnGhostsUptoRow : OpenClaim := { program := "ytiajdmoppgpgnaa", sum := "cdfa8d28fd89704099c20043d21f915726a58b53126bbbcb6631a3d1bb887cc5", func := "loop.example/g00860/laws.FnGhosts", spec := "fnGhosts", unfollowed := true, recurses := true, plainKeys := false, apart := false, narrowed := true }
def FnGhostsUptoSaid : Prop := fnGhostsUptoRow.holds Try.pinned (OpenSpec.upto fnGhostsSpec)

/-- 'laws.FnDetermined', WHERE WHAT IT READS IS OF BULK AT MOST 1048576: true; the input reads as it did. -/
def fnDeterminedUptoRow : OpenClaim := { program := "ytiajdmoppgpgnaa", sum := "cdfa8d28fd89704099c20043d21f915726a58b53126bbbcb6631a3d1bb887cc5", func := "loop.example/g00860/laws.FnDetermined", spec := "fnDetermined", plainKeys := false, apart := false, narrowed := true }
def FnDeterminedUptoSaid : Prop := fnDeterminedUptoRow.holds Try.pinned (OpenSpec.upto fnDeterminedSpec)

/-- 'laws.FnTwoWays', WHERE WHAT IT READS IS OF BULK AT MOST 1048576: true; the input reads as it did. -/
def fnTwoWaysUptoRow : OpenClaim := { program := "ytiajdmoppgpgnaa", sum := "cdfa8d28fd89704099c20043d21f915726a58b53126bbbcb6631a3d1bb887cc5", func := "loop.example/g00860/laws.FnTwoWays", spec := "fnTwoWays", unfollowed := true, recurses := true, plainKeys := false, apart := false, narrowed := true }
def FnTwoWaysUptoSaid : Prop := fnTwoWaysUptoRow.holds Try.pinned (OpenSpec.upto fnTwoWaysSpec)

end Rows
end Go.Proofs.Ytiajdmoppgpgnaa
