/-
  No cell of these rows narrows 'for every input' (looked for: loops, veiled, ifaces, maps, wideKeys, modest, calm, conditions, laid).
  DERIVED. THE GIVEN ROWS OF THIS SEAT. 7 by the template 'for every input the law returns true; each argument reads behind the call as it read before'; 0 by the template 'total and deterministic' (their statements: YtpfaaglaeholbaaTotals.lean).
  GIVEN WITH THE SEED: the statements are not yours to turn. If you find one false, say at which input.
  Laid BY PROGRAM, IN A SANDBOX (cutbox-rows.mjs): the forced cells as the released guide's own fill.sh prints them over the translation 97a1e0be91dc2e32… (all of the seat's roots in one cut). By AI agents, Wed Nov 11 2026. No macro, syntax, notation, axiom, sorry.
-/
import Derived.Test.YtpfaaglaeholbaaChecked
import GoSem.Claim
import GoSem.ClaimJoined
import GoSem.ClaimMapViews
import Derived.JoinedTies
import Derived.KernelRfl
namespace Go.Proofs.Ytpfaaglaeholbaa
/- THE CELL 'sum', in the pinned program and in every row, IS THE sha256 OF THE DUMP (.gsa) THAT YtpfaaglaeholbaaProg.lean LOADS. Nothing in Lean hashes anything: it is a label: what it is worth is what the hold of that sum in a sandbox is worth. -/
noncomputable def Try.pinned : Pinned := { name := "ytpfaaglaeholbaa", sum := "97a1e0be91dc2e32c4a0927805f91be069430c7b64270434dfb8dcdd042653c4", checked := Try.checked }
namespace Rows
def none {H : Type} : Left H := { results := [], args := [] }

/-- 'laws.FnPaths': WHATEVER THE INPUT: true; the input reads as it did. -/
def fnPathsSpec : ChangeSpec := { name := "fnPaths", fn := fun _ => fun
  | [d] => { results := [.lit (.bool true)], args := [d] }
  | _ => none }
def fnPathsRow : OpenClaim := { program := "ytpfaaglaeholbaa", sum := "97a1e0be91dc2e32c4a0927805f91be069430c7b64270434dfb8dcdd042653c4", func := "loop.example/g00860/laws.FnPaths", spec := "fnPaths", plainKeys := false, apart := false }
def FnPathsSaid : Prop := fnPathsRow.holds Try.pinned (OpenSpec.ofChange fnPathsSpec)

/-- ITS FALSE NEIGHBOUR: 'it returns false'. Refute it at one input. -/
def fnPathsWrong : ChangeSpec := { name := "fnPaths", fn := fun _ => fun
  | [d] => { results := [.lit (.bool false)], args := [d] }
  | _ => none }
def FnPathsWrongFalsely : Prop := fnPathsRow.holds Try.pinned (OpenSpec.ofChange fnPathsWrong)

/-- 'laws.FnExactNextTo': WHATEVER THE INPUT: true; the input reads as it did. -/
def fnExactNextToSpec : ChangeSpec := { name := "fnExactNextTo", fn := fun _ => fun
  | [d1, d2] => { results := [.lit (.bool true)], args := [d1, d2] }
  | _ => none }
def fnExactNextToRow : OpenClaim := { program := "ytpfaaglaeholbaa", sum := "97a1e0be91dc2e32c4a0927805f91be069430c7b64270434dfb8dcdd042653c4", func := "loop.example/g00860/laws.FnExactNextTo", spec := "fnExactNextTo", plainKeys := false, apart := false }
def FnExactNextToSaid : Prop := fnExactNextToRow.holds Try.pinned (OpenSpec.ofChange fnExactNextToSpec)

/-- ITS FALSE NEIGHBOUR: 'it returns false'. Refute it at one input. -/
def fnExactNextToWrong : ChangeSpec := { name := "fnExactNextTo", fn := fun _ => fun
  | [d1, d2] => { results := [.lit (.bool false)], args := [d1, d2] }
  | _ => none }
def FnExactNextToWrongFalsely : Prop := fnExactNextToRow.holds Try.pinned (OpenSpec.ofChange fnExactNextToWrong)

/-- 'laws.FnExactPathTo': WHATEVER THE INPUT: true; the input reads as it did. -/
def fnExactPathToSpec : ChangeSpec := { name := "fnExactPathTo", fn := fun _ => fun
  | [d1, d2] => { results := [.lit (.bool true)], args := [d1, d2] }
  | _ => none }
def fnExactPathToRow : OpenClaim := { program := "ytpfaaglaeholbaa", sum := "97a1e0be91dc2e32c4a0927805f91be069430c7b64270434dfb8dcdd042653c4", func := "loop.example/g00860/laws.FnExactPathTo", spec := "fnExactPathTo", plainKeys := false, apart := false }
def FnExactPathToSaid : Prop := fnExactPathToRow.holds Try.pinned (OpenSpec.ofChange fnExactPathToSpec)

/-- ITS FALSE NEIGHBOUR: 'it returns false'. Refute it at one input. -/
def fnExactPathToWrong : ChangeSpec := { name := "fnExactPathTo", fn := fun _ => fun
  | [d1, d2] => { results := [.lit (.bool false)], args := [d1, d2] }
  | _ => none }
def FnExactPathToWrongFalsely : Prop := fnExactPathToRow.holds Try.pinned (OpenSpec.ofChange fnExactPathToWrong)

/-- 'laws.FnExactAllImages': WHATEVER THE INPUT: true; the input reads as it did. -/
def fnExactAllImagesSpec : ChangeSpec := { name := "fnExactAllImages", fn := fun _ => fun
  | [d1, d2] => { results := [.lit (.bool true)], args := [d1, d2] }
  | _ => none }
def fnExactAllImagesRow : OpenClaim := { program := "ytpfaaglaeholbaa", sum := "97a1e0be91dc2e32c4a0927805f91be069430c7b64270434dfb8dcdd042653c4", func := "loop.example/g00860/laws.FnExactAllImages", spec := "fnExactAllImages", unfollowed := true, recurses := true, plainKeys := false, apart := false }
def FnExactAllImagesSaid : Prop := fnExactAllImagesRow.holds Try.pinned (OpenSpec.ofChange fnExactAllImagesSpec)

/-- ITS FALSE NEIGHBOUR: 'it returns false'. Refute it at one input. -/
def fnExactAllImagesWrong : ChangeSpec := { name := "fnExactAllImages", fn := fun _ => fun
  | [d1, d2] => { results := [.lit (.bool false)], args := [d1, d2] }
  | _ => none }
def FnExactAllImagesWrongFalsely : Prop := fnExactAllImagesRow.holds Try.pinned (OpenSpec.ofChange fnExactAllImagesWrong)

/-- 'laws.FnExactCountImages': WHATEVER THE INPUT: true; the input reads as it did. -/
def fnExactCountImagesSpec : ChangeSpec := { name := "fnExactCountImages", fn := fun _ => fun
  | [d1, d2] => { results := [.lit (.bool true)], args := [d1, d2] }
  | _ => none }
def fnExactCountImagesRow : OpenClaim := { program := "ytpfaaglaeholbaa", sum := "97a1e0be91dc2e32c4a0927805f91be069430c7b64270434dfb8dcdd042653c4", func := "loop.example/g00860/laws.FnExactCountImages", spec := "fnExactCountImages", unfollowed := true, recurses := true, plainKeys := false, apart := false }
def FnExactCountImagesSaid : Prop := fnExactCountImagesRow.holds Try.pinned (OpenSpec.ofChange fnExactCountImagesSpec)

/-- ITS FALSE NEIGHBOUR: 'it returns false'. Refute it at one input. -/
def fnExactCountImagesWrong : ChangeSpec := { name := "fnExactCountImages", fn := fun _ => fun
  | [d1, d2] => { results := [.lit (.bool false)], args := [d1, d2] }
  | _ => none }
def FnExactCountImagesWrongFalsely : Prop := fnExactCountImagesRow.holds Try.pinned (OpenSpec.ofChange fnExactCountImagesWrong)

/-- 'laws.FnExactFixedCells': WHATEVER THE INPUT: true; the input reads as it did. -/
def fnExactFixedCellsSpec : ChangeSpec := { name := "fnExactFixedCells", fn := fun _ => fun
  | [d1, d2] => { results := [.lit (.bool true)], args := [d1, d2] }
  | _ => none }
def fnExactFixedCellsRow : OpenClaim := { program := "ytpfaaglaeholbaa", sum := "97a1e0be91dc2e32c4a0927805f91be069430c7b64270434dfb8dcdd042653c4", func := "loop.example/g00860/laws.FnExactFixedCells", spec := "fnExactFixedCells", unfollowed := true, recurses := true, plainKeys := false, apart := false }
def FnExactFixedCellsSaid : Prop := fnExactFixedCellsRow.holds Try.pinned (OpenSpec.ofChange fnExactFixedCellsSpec)

/-- ITS FALSE NEIGHBOUR: 'it returns false'. Refute it at one input. -/
def fnExactFixedCellsWrong : ChangeSpec := { name := "fnExactFixedCells", fn := fun _ => fun
  | [d1, d2] => { results := [.lit (.bool false)], args := [d1, d2] }
  | _ => none }
def FnExactFixedCellsWrongFalsely : Prop := fnExactFixedCellsRow.holds Try.pinned (OpenSpec.ofChange fnExactFixedCellsWrong)

/-- 'laws.FnExactIsFixed': WHATEVER THE INPUT: true; the input reads as it did. -/
def fnExactIsFixedSpec : ChangeSpec := { name := "fnExactIsFixed", fn := fun _ => fun
  | [d1, d2, d3] => { results := [.lit (.bool true)], args := [d1, d2, d3] }
  | _ => none }
def fnExactIsFixedRow : OpenClaim := { program := "ytpfaaglaeholbaa", sum := "97a1e0be91dc2e32c4a0927805f91be069430c7b64270434dfb8dcdd042653c4", func := "loop.example/g00860/laws.FnExactIsFixed", spec := "fnExactIsFixed", unfollowed := true, recurses := true, plainKeys := false, apart := false }
def FnExactIsFixedSaid : Prop := fnExactIsFixedRow.holds Try.pinned (OpenSpec.ofChange fnExactIsFixedSpec)

/-- ITS FALSE NEIGHBOUR: 'it returns false'. Refute it at one input. -/
def fnExactIsFixedWrong : ChangeSpec := { name := "fnExactIsFixed", fn := fun _ => fun
  | [d1, d2, d3] => { results := [.lit (.bool false)], args := [d1, d2, d3] }
  | _ => none }
def FnExactIsFixedWrongFalsely : Prop := fnExactIsFixedRow.holds Try.pinned (OpenSpec.ofChange fnExactIsFixedWrong)

/- THE SECOND FORM. 'bulk': how many values and letters a reading holds, each counted each time it is reached (what is shared counts as often as it is met; a slice's spare places count too). A statement '..UptoSaid' is the law's where the arguments, and the package variables that the reading takes, are together of bulk at most 1048576: NARROWER than '..Said'. Prove '..Said' where nothing that the law and all that it calls make is longer than what came in: it says more and counts as full. Else prove '..UptoSaid'. A law counts once. -/
mutual
def uptoBulk {H : Type} : DataW H → Nat
  | .lit (.string bytes) => bytes.length + 1
  | .lit _ => 1
  | .nil => 1
  | .ptr d => uptoBulk d + 1
  | .slice elems spare => uptoBulkAll elems + uptoBulkAll spare + 1
  | .agg parts => uptoBulkAll parts + 1
  | .iface _ d => uptoBulk d + 1
  | .map entries => uptoBulkEntries entries + 1
  | .held _ => 1
def uptoBulkAll {H : Type} : List (DataW H) → Nat
  | [] => 0
  | d :: r => uptoBulk d + uptoBulkAll r
def uptoBulkEntries {H : Type} : List (Lit × DataW H) → Nat
  | [] => 0
  | x :: r => uptoBulkEntry x + uptoBulkEntries r
def uptoBulkEntry {H : Type} : Lit × DataW H → Nat
  | (.string bytes, d) => bytes.length + uptoBulk d + 1
  | (_, d) => uptoBulk d + 1
 end
def uptoSmall : (H : Type) → List (DataW H) → Bool := fun _ ds => decide (uptoBulkAll ds ≤ 1048576)
def OpenSpec.upto (s : _root_.Go.ChangeSpec) : _root_.Go.OpenSpec := { _root_.Go.OpenSpec.ofChange s with cond := some uptoSmall }

/-- 'laws.FnPaths', WHERE WHAT IT READS IS OF BULK AT MOST 1048576: true; the input reads as it did. -/
def fnPathsUptoRow : OpenClaim := { program := "ytpfaaglaeholbaa", sum := "97a1e0be91dc2e32c4a0927805f91be069430c7b64270434dfb8dcdd042653c4", func := "loop.example/g00860/laws.FnPaths", spec := "fnPaths", plainKeys := false, apart := false, narrowed := true }
def FnPathsUptoSaid : Prop := fnPathsUptoRow.holds Try.pinned (OpenSpec.upto fnPathsSpec)

/-- 'laws.FnExactNextTo', WHERE WHAT IT READS IS OF BULK AT MOST 1048576: true; the input reads as it did. -/
def fnExactNextToUptoRow : OpenClaim := { program := "ytpfaaglaeholbaa", sum := "97a1e0be91dc2e32c4a0927805f91be069430c7b64270434dfb8dcdd042653c4", func := "loop.example/g00860/laws.FnExactNextTo", spec := "fnExactNextTo", plainKeys := false, apart := false, narrowed := true }
def FnExactNextToUptoSaid : Prop := fnExactNextToUptoRow.holds Try.pinned (OpenSpec.upto fnExactNextToSpec)

/-- 'laws.FnExactPathTo', WHERE WHAT IT READS IS OF BULK AT MOST 1048576: true; the input reads as it did. -/
def fnExactPathToUptoRow : OpenClaim := { program := "ytpfaaglaeholbaa", sum := "97a1e0be91dc2e32c4a0927805f91be069430c7b64270434dfb8dcdd042653c4", func := "loop.example/g00860/laws.FnExactPathTo", spec := "fnExactPathTo", plainKeys := false, apart := false, narrowed := true }
def FnExactPathToUptoSaid : Prop := fnExactPathToUptoRow.holds Try.pinned (OpenSpec.upto fnExactPathToSpec)

/-- 'laws.FnExactAllImages', WHERE WHAT IT READS IS OF BULK AT MOST 1048576: true; the input reads as it did. -/
def fnExactAllImagesUptoRow : OpenClaim := { program := "ytpfaaglaeholbaa", sum := "97a1e0be91dc2e32c4a0927805f91be069430c7b64270434dfb8dcdd042653c4", func := "loop.example/g00860/laws.FnExactAllImages", spec := "fnExactAllImages", unfollowed := true, recurses := true, plainKeys := false, apart := false, narrowed := true }
def FnExactAllImagesUptoSaid : Prop := fnExactAllImagesUptoRow.holds Try.pinned (OpenSpec.upto fnExactAllImagesSpec)

/-- 'laws.FnExactCountImages', WHERE WHAT IT READS IS OF BULK AT MOST 1048576: true; the input reads as it did. -/
def fnExactCountImagesUptoRow : OpenClaim := { program := "ytpfaaglaeholbaa", sum := "97a1e0be91dc2e32c4a0927805f91be069430c7b64270434dfb8dcdd042653c4", func := "loop.example/g00860/laws.FnExactCountImages", spec := "fnExactCountImages", unfollowed := true, recurses := true, plainKeys := false, apart := false, narrowed := true }
def FnExactCountImagesUptoSaid : Prop := fnExactCountImagesUptoRow.holds Try.pinned (OpenSpec.upto fnExactCountImagesSpec)

/-- 'laws.FnExactFixedCells', WHERE WHAT IT READS IS OF BULK AT MOST 1048576: true; the input reads as it did. -/
def fnExactFixedCellsUptoRow : OpenClaim := { program := "ytpfaaglaeholbaa", sum := "97a1e0be91dc2e32c4a0927805f91be069430c7b64270434dfb8dcdd042653c4", func := "loop.example/g00860/laws.FnExactFixedCells", spec := "fnExactFixedCells", unfollowed := true, recurses := true, plainKeys := false, apart := false, narrowed := true }
def FnExactFixedCellsUptoSaid : Prop := fnExactFixedCellsUptoRow.holds Try.pinned (OpenSpec.upto fnExactFixedCellsSpec)

/-- 'laws.FnExactIsFixed', WHERE WHAT IT READS IS OF BULK AT MOST 1048576: true; the input reads as it did. -/
def fnExactIsFixedUptoRow : OpenClaim := { program := "ytpfaaglaeholbaa", sum := "97a1e0be91dc2e32c4a0927805f91be069430c7b64270434dfb8dcdd042653c4", func := "loop.example/g00860/laws.FnExactIsFixed", spec := "fnExactIsFixed", unfollowed := true, recurses := true, plainKeys := false, apart := false, narrowed := true }
def FnExactIsFixedUptoSaid : Prop := fnExactIsFixedUptoRow.holds Try.pinned (OpenSpec.upto fnExactIsFixedSpec)

end Rows
end Go.Proofs.Ytpfaaglaeholbaa
