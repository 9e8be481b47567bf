/-
  No cell of these rows narrows 'for every input' (looked for: loops, veiled, ifaces, maps, wideKeys, modest, calm, conditions, laid).
  DERIVED. THE GIVEN ROWS OF THIS SEAT. 9 by the template 'for every input the law returns true; each argument reads behind the call as it read before'; 0 by the template 'total and deterministic' (their statements: YtnhijmhambggbaaTotals.lean).
  GIVEN WITH THE SEED: the statements are not yours to turn. If you find one false, say at which input.
  Laid BY PROGRAM, IN A SANDBOX (cutbox-rows.mjs): the forced cells as the released guide's own fill.sh prints them over the translation f98d787ccb95aa6d… (all of the seat's roots in one cut). By AI agents, Wed Nov 11 2026. No macro, syntax, notation, axiom, sorry.
-/
import Derived.Test.YtnhijmhambggbaaChecked
import GoSem.Claim
import GoSem.ClaimJoined
import GoSem.ClaimMapViews
import Derived.JoinedTies
import Derived.KernelRfl
namespace Go.Proofs.Ytnhijmhambggbaa
/- THE CELL 'sum', in the pinned program and in every row, IS THE sha256 OF THE DUMP (.gsa) THAT YtnhijmhambggbaaProg.lean LOADS. Nothing in Lean hashes anything: it is a label: what it is worth is what the hold of that sum in a sandbox is worth. -/
noncomputable def Try.pinned : Pinned := { name := "ytnhijmhambggbaa", sum := "f98d787ccb95aa6dc35eabb8ab5c41fbaedd7c671c899180f5d90f40279ead56", checked := Try.checked }
namespace Rows
def none {H : Type} : Left H := { results := [], args := [] }

/-- 'laws.FnConjugates': WHATEVER THE INPUT: true; the input reads as it did. -/
def fnConjugatesSpec : ChangeSpec := { name := "fnConjugates", fn := fun _ => fun
  | [d] => { results := [.lit (.bool true)], args := [d] }
  | _ => none }
def fnConjugatesRow : OpenClaim := { program := "ytnhijmhambggbaa", sum := "f98d787ccb95aa6dc35eabb8ab5c41fbaedd7c671c899180f5d90f40279ead56", func := "loop.example/g00860/laws.FnConjugates", spec := "fnConjugates", unfollowed := true, recurses := true, plainKeys := false, apart := false }
def FnConjugatesSaid : Prop := fnConjugatesRow.holds Try.pinned (OpenSpec.ofChange fnConjugatesSpec)

/-- ITS FALSE NEIGHBOUR: 'it returns false'. Refute it at one input. -/
def fnConjugatesWrong : ChangeSpec := { name := "fnConjugates", fn := fun _ => fun
  | [d] => { results := [.lit (.bool false)], args := [d] }
  | _ => none }
def FnConjugatesWrongFalsely : Prop := fnConjugatesRow.holds Try.pinned (OpenSpec.ofChange fnConjugatesWrong)

/-- 'laws.FnPaths': WHATEVER THE INPUT: true; the input reads as it did. -/
def fnPathsSpec : ChangeSpec := { name := "fnPaths", fn := fun _ => fun
  | [d] => { results := [.lit (.bool true)], args := [d] }
  | _ => none }
def fnPathsRow : OpenClaim := { program := "ytnhijmhambggbaa", sum := "f98d787ccb95aa6dc35eabb8ab5c41fbaedd7c671c899180f5d90f40279ead56", func := "loop.example/g00860/laws.FnPaths", spec := "fnPaths", plainKeys := false, apart := false }
def FnPathsSaid : Prop := fnPathsRow.holds Try.pinned (OpenSpec.ofChange fnPathsSpec)

/-- ITS FALSE NEIGHBOUR: 'it returns false'. Refute it at one input. -/
def fnPathsWrong : ChangeSpec := { name := "fnPaths", fn := fun _ => fun
  | [d] => { results := [.lit (.bool false)], args := [d] }
  | _ => none }
def FnPathsWrongFalsely : Prop := fnPathsRow.holds Try.pinned (OpenSpec.ofChange fnPathsWrong)

/-- 'laws.FnExactSwitchOk': WHATEVER THE INPUT: true; the input reads as it did. -/
def fnExactSwitchOkSpec : ChangeSpec := { name := "fnExactSwitchOk", fn := fun _ => fun
  | [d1, d2] => { results := [.lit (.bool true)], args := [d1, d2] }
  | _ => none }
def fnExactSwitchOkRow : OpenClaim := { program := "ytnhijmhambggbaa", sum := "f98d787ccb95aa6dc35eabb8ab5c41fbaedd7c671c899180f5d90f40279ead56", func := "loop.example/g00860/laws.FnExactSwitchOk", spec := "fnExactSwitchOk", plainKeys := false, apart := false }
def FnExactSwitchOkSaid : Prop := fnExactSwitchOkRow.holds Try.pinned (OpenSpec.ofChange fnExactSwitchOkSpec)

/-- ITS FALSE NEIGHBOUR: 'it returns false'. Refute it at one input. -/
def fnExactSwitchOkWrong : ChangeSpec := { name := "fnExactSwitchOk", fn := fun _ => fun
  | [d1, d2] => { results := [.lit (.bool false)], args := [d1, d2] }
  | _ => none }
def FnExactSwitchOkWrongFalsely : Prop := fnExactSwitchOkRow.holds Try.pinned (OpenSpec.ofChange fnExactSwitchOkWrong)

/-- 'laws.FnExactSwitchesOf': WHATEVER THE INPUT: true; the input reads as it did. -/
def fnExactSwitchesOfSpec : ChangeSpec := { name := "fnExactSwitchesOf", fn := fun _ => fun
  | [d] => { results := [.lit (.bool true)], args := [d] }
  | _ => none }
def fnExactSwitchesOfRow : OpenClaim := { program := "ytnhijmhambggbaa", sum := "f98d787ccb95aa6dc35eabb8ab5c41fbaedd7c671c899180f5d90f40279ead56", func := "loop.example/g00860/laws.FnExactSwitchesOf", spec := "fnExactSwitchesOf", plainKeys := false, apart := false }
def FnExactSwitchesOfSaid : Prop := fnExactSwitchesOfRow.holds Try.pinned (OpenSpec.ofChange fnExactSwitchesOfSpec)

/-- ITS FALSE NEIGHBOUR: 'it returns false'. Refute it at one input. -/
def fnExactSwitchesOfWrong : ChangeSpec := { name := "fnExactSwitchesOf", fn := fun _ => fun
  | [d] => { results := [.lit (.bool false)], args := [d] }
  | _ => none }
def FnExactSwitchesOfWrongFalsely : Prop := fnExactSwitchesOfRow.holds Try.pinned (OpenSpec.ofChange fnExactSwitchesOfWrong)

/-- 'laws.FnExactApplySwitch': WHATEVER THE INPUT: true; the input reads as it did. -/
def fnExactApplySwitchSpec : ChangeSpec := { name := "fnExactApplySwitch", fn := fun _ => fun
  | [d1, d2] => { results := [.lit (.bool true)], args := [d1, d2] }
  | _ => none }
def fnExactApplySwitchRow : OpenClaim := { program := "ytnhijmhambggbaa", sum := "f98d787ccb95aa6dc35eabb8ab5c41fbaedd7c671c899180f5d90f40279ead56", func := "loop.example/g00860/laws.FnExactApplySwitch", spec := "fnExactApplySwitch", plainKeys := false, apart := false }
def FnExactApplySwitchSaid : Prop := fnExactApplySwitchRow.holds Try.pinned (OpenSpec.ofChange fnExactApplySwitchSpec)

/-- ITS FALSE NEIGHBOUR: 'it returns false'. Refute it at one input. -/
def fnExactApplySwitchWrong : ChangeSpec := { name := "fnExactApplySwitch", fn := fun _ => fun
  | [d1, d2] => { results := [.lit (.bool false)], args := [d1, d2] }
  | _ => none }
def FnExactApplySwitchWrongFalsely : Prop := fnExactApplySwitchRow.holds Try.pinned (OpenSpec.ofChange fnExactApplySwitchWrong)

/-- 'laws.FnExactIsUnique': WHATEVER THE INPUT: true; the input reads as it did. -/
def fnExactIsUniqueSpec : ChangeSpec := { name := "fnExactIsUnique", fn := fun _ => fun
  | [d] => { results := [.lit (.bool true)], args := [d] }
  | _ => none }
def fnExactIsUniqueRow : OpenClaim := { program := "ytnhijmhambggbaa", sum := "f98d787ccb95aa6dc35eabb8ab5c41fbaedd7c671c899180f5d90f40279ead56", func := "loop.example/g00860/laws.FnExactIsUnique", spec := "fnExactIsUnique", plainKeys := false, apart := false }
def FnExactIsUniqueSaid : Prop := fnExactIsUniqueRow.holds Try.pinned (OpenSpec.ofChange fnExactIsUniqueSpec)

/-- ITS FALSE NEIGHBOUR: 'it returns false'. Refute it at one input. -/
def fnExactIsUniqueWrong : ChangeSpec := { name := "fnExactIsUnique", fn := fun _ => fun
  | [d] => { results := [.lit (.bool false)], args := [d] }
  | _ => none }
def FnExactIsUniqueWrongFalsely : Prop := fnExactIsUniqueRow.holds Try.pinned (OpenSpec.ofChange fnExactIsUniqueWrong)

/-- 'laws.FnExactNextTo': WHATEVER THE INPUT: true; the input reads as it did. -/
def fnExactNextToSpec : ChangeSpec := { name := "fnExactNextTo", fn := fun _ => fun
  | [d1, d2] => { results := [.lit (.bool true)], args := [d1, d2] }
  | _ => none }
def fnExactNextToRow : OpenClaim := { program := "ytnhijmhambggbaa", sum := "f98d787ccb95aa6dc35eabb8ab5c41fbaedd7c671c899180f5d90f40279ead56", func := "loop.example/g00860/laws.FnExactNextTo", spec := "fnExactNextTo", plainKeys := false, apart := false }
def FnExactNextToSaid : Prop := fnExactNextToRow.holds Try.pinned (OpenSpec.ofChange fnExactNextToSpec)

/-- ITS FALSE NEIGHBOUR: 'it returns false'. Refute it at one input. -/
def fnExactNextToWrong : ChangeSpec := { name := "fnExactNextTo", fn := fun _ => fun
  | [d1, d2] => { results := [.lit (.bool false)], args := [d1, d2] }
  | _ => none }
def FnExactNextToWrongFalsely : Prop := fnExactNextToRow.holds Try.pinned (OpenSpec.ofChange fnExactNextToWrong)

/-- 'laws.FnExactPathTo': WHATEVER THE INPUT: true; the input reads as it did. -/
def fnExactPathToSpec : ChangeSpec := { name := "fnExactPathTo", fn := fun _ => fun
  | [d1, d2] => { results := [.lit (.bool true)], args := [d1, d2] }
  | _ => none }
def fnExactPathToRow : OpenClaim := { program := "ytnhijmhambggbaa", sum := "f98d787ccb95aa6dc35eabb8ab5c41fbaedd7c671c899180f5d90f40279ead56", func := "loop.example/g00860/laws.FnExactPathTo", spec := "fnExactPathTo", plainKeys := false, apart := false }
def FnExactPathToSaid : Prop := fnExactPathToRow.holds Try.pinned (OpenSpec.ofChange fnExactPathToSpec)

/-- ITS FALSE NEIGHBOUR: 'it returns false'. Refute it at one input. -/
def fnExactPathToWrong : ChangeSpec := { name := "fnExactPathTo", fn := fun _ => fun
  | [d1, d2] => { results := [.lit (.bool false)], args := [d1, d2] }
  | _ => none }
def FnExactPathToWrongFalsely : Prop := fnExactPathToRow.holds Try.pinned (OpenSpec.ofChange fnExactPathToWrong)

/-- 'laws.FnExactApplyAll': WHATEVER THE INPUT: true; the input reads as it did. -/
def fnExactApplyAllSpec : ChangeSpec := { name := "fnExactApplyAll", fn := fun _ => fun
  | [d1, d2] => { results := [.lit (.bool true)], args := [d1, d2] }
  | _ => none }
def fnExactApplyAllRow : OpenClaim := { program := "ytnhijmhambggbaa", sum := "f98d787ccb95aa6dc35eabb8ab5c41fbaedd7c671c899180f5d90f40279ead56", func := "loop.example/g00860/laws.FnExactApplyAll", spec := "fnExactApplyAll", plainKeys := false, apart := false }
def FnExactApplyAllSaid : Prop := fnExactApplyAllRow.holds Try.pinned (OpenSpec.ofChange fnExactApplyAllSpec)

/-- ITS FALSE NEIGHBOUR: 'it returns false'. Refute it at one input. -/
def fnExactApplyAllWrong : ChangeSpec := { name := "fnExactApplyAll", fn := fun _ => fun
  | [d1, d2] => { results := [.lit (.bool false)], args := [d1, d2] }
  | _ => none }
def FnExactApplyAllWrongFalsely : Prop := fnExactApplyAllRow.holds Try.pinned (OpenSpec.ofChange fnExactApplyAllWrong)

/- THE SECOND FORM. 'bulk': how many values and letters a reading holds, each counted each time it is reached (what is shared counts as often as it is met; a slice's spare places count too). A statement '..UptoSaid' is the law's where the arguments, and the package variables that the reading takes, are together of bulk at most 1048576: NARROWER than '..Said'. Prove '..Said' where nothing that the law and all that it calls make is longer than what came in: it says more and counts as full. Else prove '..UptoSaid'. A law counts once. -/
mutual
def uptoBulk {H : Type} : DataW H → Nat
  | .lit (.string bytes) => bytes.length + 1
  | .lit _ => 1
  | .nil => 1
  | .ptr d => uptoBulk d + 1
  | .slice elems spare => uptoBulkAll elems + uptoBulkAll spare + 1
  | .agg parts => uptoBulkAll parts + 1
  | .iface _ d => uptoBulk d + 1
  | .map entries => uptoBulkEntries entries + 1
  | .held _ => 1
def uptoBulkAll {H : Type} : List (DataW H) → Nat
  | [] => 0
  | d :: r => uptoBulk d + uptoBulkAll r
def uptoBulkEntries {H : Type} : List (Lit × DataW H) → Nat
  | [] => 0
  | x :: r => uptoBulkEntry x + uptoBulkEntries r
def uptoBulkEntry {H : Type} : Lit × DataW H → Nat
  | (.string bytes, d) => bytes.length + uptoBulk d + 1
  | (_, d) => uptoBulk d + 1
 end
def uptoSmall : (H : Type) → List (DataW H) → Bool := fun _ ds => decide (uptoBulkAll ds ≤ 1048576)
def OpenSpec.upto (s : _root_.Go.ChangeSpec) : _root_.Go.OpenSpec := { _root_.Go.OpenSpec.ofChange s with cond := some uptoSmall }

/-- 'laws.FnConjugates', WHERE WHAT IT READS IS OF BULK AT MOST 1048576: true; the input reads as it did. -/
def fnConjugatesUptoRow : OpenClaim := { program := "ytnhijmhambggbaa", sum := "f98d787ccb95aa6dc35eabb8ab5c41fbaedd7c671c899180f5d90f40279ead56", func := "loop.example/g00860/laws.FnConjugates", spec := "fnConjugates", unfollowed := true, recurses := true, plainKeys := false, apart := false, narrowed := true }
def FnConjugatesUptoSaid : Prop := fnConjugatesUptoRow.holds Try.pinned (OpenSpec.upto fnConjugatesSpec)

/-- 'laws.FnPaths', WHERE WHAT IT READS IS OF BULK AT MOST 1048576: true; the input reads as it did. -/
def fnPathsUptoRow : OpenClaim := { program := "ytnhijmhambggbaa", sum := "f98d787ccb95aa6dc35eabb8ab5c41fbaedd7c671c899180f5d90f40279ead56", func := "loop.example/g00860/laws.FnPaths", spec := "fnPaths", plainKeys := false, apart := false, narrowed := true }
def FnPathsUptoSaid : Prop := fnPathsUptoRow.holds Try.pinned (OpenSpec.upto fnPathsSpec)

/-- 'laws.FnExactSwitchOk', WHERE WHAT IT READS IS OF BULK AT MOST 1048576: true; the input reads as it did. -/
def fnExactSwitchOkUptoRow : OpenClaim := { program := "ytnhijmhambggbaa", sum := "f98d787ccb95aa6dc35eabb8ab5c41fbaedd7c671c899180f5d90f40279ead56", func := "loop.example/g00860/laws.FnExactSwitchOk", spec := "fnExactSwitchOk", plainKeys := false, apart := false, narrowed := true }
def FnExactSwitchOkUptoSaid : Prop := fnExactSwitchOkUptoRow.holds Try.pinned (OpenSpec.upto fnExactSwitchOkSpec)

/-- 'laws.FnExactSwitchesOf', WHERE WHAT IT READS IS OF BULK AT MOST 1048576: true; the input reads as it did. -/
def fnExactSwitchesOfUptoRow : OpenClaim := { program := "ytnhijmhambggbaa", sum := "f98d787ccb95aa6dc35eabb8ab5c41fbaedd7c671c899180f5d90f40279ead56", func := "loop.example/g00860/laws.FnExactSwitchesOf", spec := "fnExactSwitchesOf", plainKeys := false, apart := false, narrowed := true }
def FnExactSwitchesOfUptoSaid : Prop := fnExactSwitchesOfUptoRow.holds Try.pinned (OpenSpec.upto fnExactSwitchesOfSpec)

/-- 'laws.FnExactApplySwitch', WHERE WHAT IT READS IS OF BULK AT MOST 1048576: true; the input reads as it did. -/
def fnExactApplySwitchUptoRow : OpenClaim := { program := "ytnhijmhambggbaa", sum := "f98d787ccb95aa6dc35eabb8ab5c41fbaedd7c671c899180f5d90f40279ead56", func := "loop.example/g00860/laws.FnExactApplySwitch", spec := "fnExactApplySwitch", plainKeys := false, apart := false, narrowed := true }
def FnExactApplySwitchUptoSaid : Prop := fnExactApplySwitchUptoRow.holds Try.pinned (OpenSpec.upto fnExactApplySwitchSpec)

/-- 'laws.FnExactIsUnique', WHERE WHAT IT READS IS OF BULK AT MOST 1048576: true; the input reads as it did. -/
def fnExactIsUniqueUptoRow : OpenClaim := { program := "ytnhijmhambggbaa", sum := "f98d787ccb95aa6dc35eabb8ab5c41fbaedd7c671c899180f5d90f40279ead56", func := "loop.example/g00860/laws.FnExactIsUnique", spec := "fnExactIsUnique", plainKeys := false, apart := false, narrowed := true }
def FnExactIsUniqueUptoSaid : Prop := fnExactIsUniqueUptoRow.holds Try.pinned (OpenSpec.upto fnExactIsUniqueSpec)

/-- 'laws.FnExactNextTo', WHERE WHAT IT READS IS OF BULK AT MOST 1048576: true; the input reads as it did. -/
def fnExactNextToUptoRow : OpenClaim := { program := "ytnhijmhambggbaa", sum := "f98d787ccb95aa6dc35eabb8ab5c41fbaedd7c671c899180f5d90f40279ead56", func := "loop.example/g00860/laws.FnExactNextTo", spec := "fnExactNextTo", plainKeys := false, apart := false, narrowed := true }
def FnExactNextToUptoSaid : Prop := fnExactNextToUptoRow.holds Try.pinned (OpenSpec.upto fnExactNextToSpec)

/-- 'laws.FnExactPathTo', WHERE WHAT IT READS IS OF BULK AT MOST 1048576: true; the input reads as it did. -/
def fnExactPathToUptoRow : OpenClaim := { program := "ytnhijmhambggbaa", sum := "f98d787ccb95aa6dc35eabb8ab5c41fbaedd7c671c899180f5d90f40279ead56", func := "loop.example/g00860/laws.FnExactPathTo", spec := "fnExactPathTo", plainKeys := false, apart := false, narrowed := true }
def FnExactPathToUptoSaid : Prop := fnExactPathToUptoRow.holds Try.pinned (OpenSpec.upto fnExactPathToSpec)

/-- 'laws.FnExactApplyAll', WHERE WHAT IT READS IS OF BULK AT MOST 1048576: true; the input reads as it did. -/
def fnExactApplyAllUptoRow : OpenClaim := { program := "ytnhijmhambggbaa", sum := "f98d787ccb95aa6dc35eabb8ab5c41fbaedd7c671c899180f5d90f40279ead56", func := "loop.example/g00860/laws.FnExactApplyAll", spec := "fnExactApplyAll", plainKeys := false, apart := false, narrowed := true }
def FnExactApplyAllUptoSaid : Prop := fnExactApplyAllUptoRow.holds Try.pinned (OpenSpec.upto fnExactApplyAllSpec)

end Rows
end Go.Proofs.Ytnhijmhambggbaa
