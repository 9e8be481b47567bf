/-
  No cell of these rows narrows 'for every input' (looked for: loops, veiled, ifaces, maps, wideKeys, modest, calm, conditions, laid).
  DERIVED. THE GIVEN ROWS OF THIS SEAT. 9 by the template 'for every input the law returns true; each argument reads behind the call as it read before'; 0 by the template 'total and deterministic' (their statements: YtcliiefedmiokaaTotals.lean).
  GIVEN WITH THE SEED: the statements are not yours to turn. If you find one false, say at which input.
  Laid BY PROGRAM, IN A SANDBOX (cutbox-rows.mjs): the forced cells as the released guide's own fill.sh prints them over the translation b46b75e1c70099bd… (all of the seat's roots in one cut). By AI agents, Wed Nov 11 2026. No macro, syntax, notation, axiom, sorry.
-/
import Derived.Test.YtcliiefedmiokaaChecked
import GoSem.Claim
import GoSem.ClaimJoined
import GoSem.ClaimMapViews
import Derived.JoinedTies
import Derived.KernelRfl
namespace Go.Proofs.Ytcliiefedmiokaa
/- THE CELL 'sum', in the pinned program and in every row, IS THE sha256 OF THE DUMP (.gsa) THAT YtcliiefedmiokaaProg.lean LOADS. Nothing in Lean hashes anything: it is a label: what it is worth is what the hold of that sum in a sandbox is worth. -/
noncomputable def Try.pinned : Pinned := { name := "ytcliiefedmiokaa", sum := "b46b75e1c70099bd9bfbb545ce92c3a9064ae66ab16b236a5eef0f5714b214ca", checked := Try.checked }
namespace Rows
def none {H : Type} : Left H := { results := [], args := [] }

/-- 'laws.FnExactRowSums': WHATEVER THE INPUT: true; the input reads as it did. -/
def fnExactRowSumsSpec : ChangeSpec := { name := "fnExactRowSums", fn := fun _ => fun
  | [d] => { results := [.lit (.bool true)], args := [d] }
  | _ => none }
def fnExactRowSumsRow : OpenClaim := { program := "ytcliiefedmiokaa", sum := "b46b75e1c70099bd9bfbb545ce92c3a9064ae66ab16b236a5eef0f5714b214ca", func := "loop.example/g00860/laws.FnExactRowSums", spec := "fnExactRowSums", plainKeys := false, apart := false }
def FnExactRowSumsSaid : Prop := fnExactRowSumsRow.holds Try.pinned (OpenSpec.ofChange fnExactRowSumsSpec)

/-- ITS FALSE NEIGHBOUR: 'it returns false'. Refute it at one input. -/
def fnExactRowSumsWrong : ChangeSpec := { name := "fnExactRowSums", fn := fun _ => fun
  | [d] => { results := [.lit (.bool false)], args := [d] }
  | _ => none }
def FnExactRowSumsWrongFalsely : Prop := fnExactRowSumsRow.holds Try.pinned (OpenSpec.ofChange fnExactRowSumsWrong)

/-- 'laws.FnExactColSums': WHATEVER THE INPUT: true; the input reads as it did. -/
def fnExactColSumsSpec : ChangeSpec := { name := "fnExactColSums", fn := fun _ => fun
  | [d] => { results := [.lit (.bool true)], args := [d] }
  | _ => none }
def fnExactColSumsRow : OpenClaim := { program := "ytcliiefedmiokaa", sum := "b46b75e1c70099bd9bfbb545ce92c3a9064ae66ab16b236a5eef0f5714b214ca", func := "loop.example/g00860/laws.FnExactColSums", spec := "fnExactColSums", plainKeys := false, apart := false }
def FnExactColSumsSaid : Prop := fnExactColSumsRow.holds Try.pinned (OpenSpec.ofChange fnExactColSumsSpec)

/-- ITS FALSE NEIGHBOUR: 'it returns false'. Refute it at one input. -/
def fnExactColSumsWrong : ChangeSpec := { name := "fnExactColSums", fn := fun _ => fun
  | [d] => { results := [.lit (.bool false)], args := [d] }
  | _ => none }
def FnExactColSumsWrongFalsely : Prop := fnExactColSumsRow.holds Try.pinned (OpenSpec.ofChange fnExactColSumsWrong)

/-- 'laws.FnExactLineSums': WHATEVER THE INPUT: true; the input reads as it did. -/
def fnExactLineSumsSpec : ChangeSpec := { name := "fnExactLineSums", fn := fun _ => fun
  | [d1, d2] => { results := [.lit (.bool true)], args := [d1, d2] }
  | _ => none }
def fnExactLineSumsRow : OpenClaim := { program := "ytcliiefedmiokaa", sum := "b46b75e1c70099bd9bfbb545ce92c3a9064ae66ab16b236a5eef0f5714b214ca", func := "loop.example/g00860/laws.FnExactLineSums", spec := "fnExactLineSums", plainKeys := false, apart := false }
def FnExactLineSumsSaid : Prop := fnExactLineSumsRow.holds Try.pinned (OpenSpec.ofChange fnExactLineSumsSpec)

/-- ITS FALSE NEIGHBOUR: 'it returns false'. Refute it at one input. -/
def fnExactLineSumsWrong : ChangeSpec := { name := "fnExactLineSums", fn := fun _ => fun
  | [d1, d2] => { results := [.lit (.bool false)], args := [d1, d2] }
  | _ => none }
def FnExactLineSumsWrongFalsely : Prop := fnExactLineSumsRow.holds Try.pinned (OpenSpec.ofChange fnExactLineSumsWrong)

/-- 'laws.FnExactSameSums': WHATEVER THE INPUT: true; the input reads as it did. -/
def fnExactSameSumsSpec : ChangeSpec := { name := "fnExactSameSums", fn := fun _ => fun
  | [d1, d2] => { results := [.lit (.bool true)], args := [d1, d2] }
  | _ => none }
def fnExactSameSumsRow : OpenClaim := { program := "ytcliiefedmiokaa", sum := "b46b75e1c70099bd9bfbb545ce92c3a9064ae66ab16b236a5eef0f5714b214ca", func := "loop.example/g00860/laws.FnExactSameSums", spec := "fnExactSameSums", plainKeys := false, apart := false }
def FnExactSameSumsSaid : Prop := fnExactSameSumsRow.holds Try.pinned (OpenSpec.ofChange fnExactSameSumsSpec)

/-- ITS FALSE NEIGHBOUR: 'it returns false'. Refute it at one input. -/
def fnExactSameSumsWrong : ChangeSpec := { name := "fnExactSameSums", fn := fun _ => fun
  | [d1, d2] => { results := [.lit (.bool false)], args := [d1, d2] }
  | _ => none }
def FnExactSameSumsWrongFalsely : Prop := fnExactSameSumsRow.holds Try.pinned (OpenSpec.ofChange fnExactSameSumsWrong)

/-- 'laws.FnPaths': WHATEVER THE INPUT: true; the input reads as it did. -/
def fnPathsSpec : ChangeSpec := { name := "fnPaths", fn := fun _ => fun
  | [d] => { results := [.lit (.bool true)], args := [d] }
  | _ => none }
def fnPathsRow : OpenClaim := { program := "ytcliiefedmiokaa", sum := "b46b75e1c70099bd9bfbb545ce92c3a9064ae66ab16b236a5eef0f5714b214ca", func := "loop.example/g00860/laws.FnPaths", spec := "fnPaths", plainKeys := false, apart := false }
def FnPathsSaid : Prop := fnPathsRow.holds Try.pinned (OpenSpec.ofChange fnPathsSpec)

/-- ITS FALSE NEIGHBOUR: 'it returns false'. Refute it at one input. -/
def fnPathsWrong : ChangeSpec := { name := "fnPaths", fn := fun _ => fun
  | [d] => { results := [.lit (.bool false)], args := [d] }
  | _ => none }
def FnPathsWrongFalsely : Prop := fnPathsRow.holds Try.pinned (OpenSpec.ofChange fnPathsWrong)

/-- 'laws.FnExactNextTo': WHATEVER THE INPUT: true; the input reads as it did. -/
def fnExactNextToSpec : ChangeSpec := { name := "fnExactNextTo", fn := fun _ => fun
  | [d1, d2] => { results := [.lit (.bool true)], args := [d1, d2] }
  | _ => none }
def fnExactNextToRow : OpenClaim := { program := "ytcliiefedmiokaa", sum := "b46b75e1c70099bd9bfbb545ce92c3a9064ae66ab16b236a5eef0f5714b214ca", func := "loop.example/g00860/laws.FnExactNextTo", spec := "fnExactNextTo", plainKeys := false, apart := false }
def FnExactNextToSaid : Prop := fnExactNextToRow.holds Try.pinned (OpenSpec.ofChange fnExactNextToSpec)

/-- ITS FALSE NEIGHBOUR: 'it returns false'. Refute it at one input. -/
def fnExactNextToWrong : ChangeSpec := { name := "fnExactNextTo", fn := fun _ => fun
  | [d1, d2] => { results := [.lit (.bool false)], args := [d1, d2] }
  | _ => none }
def FnExactNextToWrongFalsely : Prop := fnExactNextToRow.holds Try.pinned (OpenSpec.ofChange fnExactNextToWrong)

/-- 'laws.FnExactPathTo': WHATEVER THE INPUT: true; the input reads as it did. -/
def fnExactPathToSpec : ChangeSpec := { name := "fnExactPathTo", fn := fun _ => fun
  | [d1, d2] => { results := [.lit (.bool true)], args := [d1, d2] }
  | _ => none }
def fnExactPathToRow : OpenClaim := { program := "ytcliiefedmiokaa", sum := "b46b75e1c70099bd9bfbb545ce92c3a9064ae66ab16b236a5eef0f5714b214ca", func := "loop.example/g00860/laws.FnExactPathTo", spec := "fnExactPathTo", plainKeys := false, apart := false }
def FnExactPathToSaid : Prop := fnExactPathToRow.holds Try.pinned (OpenSpec.ofChange fnExactPathToSpec)

/-- ITS FALSE NEIGHBOUR: 'it returns false'. Refute it at one input. -/
def fnExactPathToWrong : ChangeSpec := { name := "fnExactPathTo", fn := fun _ => fun
  | [d1, d2] => { results := [.lit (.bool false)], args := [d1, d2] }
  | _ => none }
def FnExactPathToWrongFalsely : Prop := fnExactPathToRow.holds Try.pinned (OpenSpec.ofChange fnExactPathToWrong)

/-- 'laws.FnExactIsFixed': WHATEVER THE INPUT: true; the input reads as it did. -/
def fnExactIsFixedSpec : ChangeSpec := { name := "fnExactIsFixed", fn := fun _ => fun
  | [d1, d2, d3] => { results := [.lit (.bool true)], args := [d1, d2, d3] }
  | _ => none }
def fnExactIsFixedRow : OpenClaim := { program := "ytcliiefedmiokaa", sum := "b46b75e1c70099bd9bfbb545ce92c3a9064ae66ab16b236a5eef0f5714b214ca", func := "loop.example/g00860/laws.FnExactIsFixed", spec := "fnExactIsFixed", unfollowed := true, recurses := true, plainKeys := false, apart := false }
def FnExactIsFixedSaid : Prop := fnExactIsFixedRow.holds Try.pinned (OpenSpec.ofChange fnExactIsFixedSpec)

/-- ITS FALSE NEIGHBOUR: 'it returns false'. Refute it at one input. -/
def fnExactIsFixedWrong : ChangeSpec := { name := "fnExactIsFixed", fn := fun _ => fun
  | [d1, d2, d3] => { results := [.lit (.bool false)], args := [d1, d2, d3] }
  | _ => none }
def FnExactIsFixedWrongFalsely : Prop := fnExactIsFixedRow.holds Try.pinned (OpenSpec.ofChange fnExactIsFixedWrong)

/-- 'laws.FnConjugates': WHATEVER THE INPUT: true; the input reads as it did. -/
def fnConjugatesSpec : ChangeSpec := { name := "fnConjugates", fn := fun _ => fun
  | [d] => { results := [.lit (.bool true)], args := [d] }
  | _ => none }
def fnConjugatesRow : OpenClaim := { program := "ytcliiefedmiokaa", sum := "b46b75e1c70099bd9bfbb545ce92c3a9064ae66ab16b236a5eef0f5714b214ca", func := "loop.example/g00860/laws.FnConjugates", spec := "fnConjugates", unfollowed := true, recurses := true, plainKeys := false, apart := false }
def FnConjugatesSaid : Prop := fnConjugatesRow.holds Try.pinned (OpenSpec.ofChange fnConjugatesSpec)

/-- ITS FALSE NEIGHBOUR: 'it returns false'. Refute it at one input. -/
def fnConjugatesWrong : ChangeSpec := { name := "fnConjugates", fn := fun _ => fun
  | [d] => { results := [.lit (.bool false)], args := [d] }
  | _ => none }
def FnConjugatesWrongFalsely : Prop := fnConjugatesRow.holds Try.pinned (OpenSpec.ofChange fnConjugatesWrong)

/- THE SECOND FORM. 'bulk': how many values and letters a reading holds, each counted each time it is reached (what is shared counts as often as it is met; a slice's spare places count too). A statement '..UptoSaid' is the law's where the arguments, and the package variables that the reading takes, are together of bulk at most 1048576: NARROWER than '..Said'. Prove '..Said' where nothing that the law and all that it calls make is longer than what came in: it says more and counts as full. Else prove '..UptoSaid'. A law counts once. -/
mutual
def uptoBulk {H : Type} : DataW H → Nat
  | .lit (.string bytes) => bytes.length + 1
  | .lit _ => 1
  | .nil => 1
  | .ptr d => uptoBulk d + 1
  | .slice elems spare => uptoBulkAll elems + uptoBulkAll spare + 1
  | .agg parts => uptoBulkAll parts + 1
  | .iface _ d => uptoBulk d + 1
  | .map entries => uptoBulkEntries entries + 1
  | .held _ => 1
def uptoBulkAll {H : Type} : List (DataW H) → Nat
  | [] => 0
  | d :: r => uptoBulk d + uptoBulkAll r
def uptoBulkEntries {H : Type} : List (Lit × DataW H) → Nat
  | [] => 0
  | x :: r => uptoBulkEntry x + uptoBulkEntries r
def uptoBulkEntry {H : Type} : Lit × DataW H → Nat
  | (.string bytes, d) => bytes.length + uptoBulk d + 1
  | (_, d) => uptoBulk d + 1
 end
def uptoSmall : (H : Type) → List (DataW H) → Bool := fun _ ds => decide (uptoBulkAll ds ≤ 1048576)
def OpenSpec.upto (s : _root_.Go.ChangeSpec) : _root_.Go.OpenSpec := { _root_.Go.OpenSpec.ofChange s with cond := some uptoSmall }

/-- 'laws.FnExactRowSums', WHERE WHAT IT READS IS OF BULK AT MOST 1048576: true; the input reads as it did. -/
def fnExactRowSumsUptoRow : OpenClaim := { program := "ytcliiefedmiokaa", sum := "b46b75e1c70099bd9bfbb545ce92c3a9064ae66ab16b236a5eef0f5714b214ca", func := "loop.example/g00860/laws.FnExactRowSums", spec := "fnExactRowSums", plainKeys := false, apart := false, narrowed := true }
def FnExactRowSumsUptoSaid : Prop := fnExactRowSumsUptoRow.holds Try.pinned (OpenSpec.upto fnExactRowSumsSpec)

/-- 'laws.FnExactColSums', WHERE WHAT IT READS IS OF BULK AT MOST 1048576: true; the input reads as it did. -/
def fnExactColSumsUptoRow : OpenClaim := { program := "ytcliiefedmiokaa", sum := "b46b75e1c70099bd9bfbb545ce92c3a9064ae66ab16b236a5eef0f5714b214ca", func := "loop.example/g00860/laws.FnExactColSums", spec := "fnExactColSums", plainKeys := false, apart := false, narrowed := true }
def FnExactColSumsUptoSaid : Prop := fnExactColSumsUptoRow.holds Try.pinned (OpenSpec.upto fnExactColSumsSpec)

/-- 'laws.FnExactLineSums', WHERE WHAT IT READS IS OF BULK AT MOST 1048576: true; the input reads as it did. -/
def fnExactLineSumsUptoRow : OpenClaim := { program := "ytcliiefedmiokaa", sum := "b46b75e1c70099bd9bfbb545ce92c3a9064ae66ab16b236a5eef0f5714b214ca", func := "loop.example/g00860/laws.FnExactLineSums", spec := "fnExactLineSums", plainKeys := false, apart := false, narrowed := true }
def FnExactLineSumsUptoSaid : Prop := fnExactLineSumsUptoRow.holds Try.pinned (OpenSpec.upto fnExactLineSumsSpec)

/-- 'laws.FnExactSameSums', WHERE WHAT IT READS IS OF BULK AT MOST 1048576: true; the input reads as it did. -/
def fnExactSameSumsUptoRow : OpenClaim := { program := "ytcliiefedmiokaa", sum := "b46b75e1c70099bd9bfbb545ce92c3a9064ae66ab16b236a5eef0f5714b214ca", func := "loop.example/g00860/laws.FnExactSameSums", spec := "fnExactSameSums", plainKeys := false, apart := false, narrowed := true }
def FnExactSameSumsUptoSaid : Prop := fnExactSameSumsUptoRow.holds Try.pinned (OpenSpec.upto fnExactSameSumsSpec)

/-- 'laws.FnPaths', WHERE WHAT IT READS IS OF BULK AT MOST 1048576: true; the input reads as it did. -/
def fnPathsUptoRow : OpenClaim := { program := "ytcliiefedmiokaa", sum := "b46b75e1c70099bd9bfbb545ce92c3a9064ae66ab16b236a5eef0f5714b214ca", func := "loop.example/g00860/laws.FnPaths", spec := "fnPaths", plainKeys := false, apart := false, narrowed := true }
def FnPathsUptoSaid : Prop := fnPathsUptoRow.holds Try.pinned (OpenSpec.upto fnPathsSpec)

/-- 'laws.FnExactNextTo', WHERE WHAT IT READS IS OF BULK AT MOST 1048576: true; the input reads as it did. -/
def fnExactNextToUptoRow : OpenClaim := { program := "ytcliiefedmiokaa", sum := "b46b75e1c70099bd9bfbb545ce92c3a9064ae66ab16b236a5eef0f5714b214ca", func := "loop.example/g00860/laws.FnExactNextTo", spec := "fnExactNextTo", plainKeys := false, apart := false, narrowed := true }
def FnExactNextToUptoSaid : Prop := fnExactNextToUptoRow.holds Try.pinned (OpenSpec.upto fnExactNextToSpec)

/-- 'laws.FnExactPathTo', WHERE WHAT IT READS IS OF BULK AT MOST 1048576: true; the input reads as it did. -/
def fnExactPathToUptoRow : OpenClaim := { program := "ytcliiefedmiokaa", sum := "b46b75e1c70099bd9bfbb545ce92c3a9064ae66ab16b236a5eef0f5714b214ca", func := "loop.example/g00860/laws.FnExactPathTo", spec := "fnExactPathTo", plainKeys := false, apart := false, narrowed := true }
def FnExactPathToUptoSaid : Prop := fnExactPathToUptoRow.holds Try.pinned (OpenSpec.upto fnExactPathToSpec)

/-- 'laws.FnExactIsFixed', WHERE WHAT IT READS IS OF BULK AT MOST 1048576: true; the input reads as it did. -/
def fnExactIsFixedUptoRow : OpenClaim := { program := "ytcliiefedmiokaa", sum := "b46b75e1c70099bd9bfbb545ce92c3a9064ae66ab16b236a5eef0f5714b214ca", func := "loop.example/g00860/laws.FnExactIsFixed", spec := "fnExactIsFixed", unfollowed := true, recurses := true, plainKeys := false, apart := false, narrowed := true }
def FnExactIsFixedUptoSaid : Prop := fnExactIsFixedUptoRow.holds Try.pinned (OpenSpec.upto fnExactIsFixedSpec)

/-- 'laws.FnConjugates', WHERE WHAT IT READS IS OF BULK AT MOST 1048576: true; the input reads as it did. -/
def fnConjugatesUptoRow : OpenClaim := { program := "ytcliiefedmiokaa", sum := "b46b75e1c70099bd9bfbb545ce92c3a9064ae66ab16b236a5eef0f5714b214ca", func := "loop.example/g00860/laws.FnConjugates", spec := "fnConjugates", unfollowed := true, recurses := true, plainKeys := false, apart := false, narrowed := true }
def FnConjugatesUptoSaid : Prop := fnConjugatesUptoRow.holds Try.pinned (OpenSpec.upto fnConjugatesSpec)

end Rows
end Go.Proofs.Ytcliiefedmiokaa
