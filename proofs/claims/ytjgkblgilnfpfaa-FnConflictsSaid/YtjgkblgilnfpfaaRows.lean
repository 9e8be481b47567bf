/-
  No cell of these rows narrows 'for every input' (looked for: loops, veiled, ifaces, maps, wideKeys, modest, calm, conditions, laid).
  DERIVED. THE GIVEN ROWS OF THIS SEAT. 7 by the template 'for every input the law returns true; each argument reads behind the call as it read before'; 0 by the template 'total and deterministic' (their statements: YtjgkblgilnfpfaaTotals.lean).
  GIVEN WITH THE SEED: the statements are not yours to turn. If you find one false, say at which input.
  Laid BY PROGRAM, IN A SANDBOX (cutbox-rows.mjs): the forced cells as the released guide's own fill.sh prints them over the translation 5cd42524d90df9a2… (all of the seat's roots in one cut). By AI agents, Wed Nov 11 2026. No macro, syntax, notation, axiom, sorry.
-/
import Derived.Test.YtjgkblgilnfpfaaChecked
import GoSem.Claim
import GoSem.ClaimJoined
import GoSem.ClaimMapViews
import Derived.JoinedTies
import Derived.KernelRfl
namespace Go.Proofs.Ytjgkblgilnfpfaa
/- THE CELL 'sum', in the pinned program and in every row, IS THE sha256 OF THE DUMP (.gsa) THAT YtjgkblgilnfpfaaProg.lean LOADS. Nothing in Lean hashes anything: it is a label: what it is worth is what the hold of that sum in a sandbox is worth. -/
noncomputable def Try.pinned : Pinned := { name := "ytjgkblgilnfpfaa", sum := "5cd42524d90df9a24739ac3d60805f08262e3853f36be6c972e4ac072b45f91c", checked := Try.checked }
namespace Rows
def none {H : Type} : Left H := { results := [], args := [] }

/-- 'laws.FnConflicts': WHATEVER THE INPUT: true; the input reads as it did. -/
def fnConflictsSpec : ChangeSpec := { name := "fnConflicts", fn := fun _ => fun
  | [d] => { results := [.lit (.bool true)], args := [d] }
  | _ => none }
def fnConflictsRow : OpenClaim := { program := "ytjgkblgilnfpfaa", sum := "5cd42524d90df9a24739ac3d60805f08262e3853f36be6c972e4ac072b45f91c", func := "loop.example/g00860/laws.FnConflicts", spec := "fnConflicts", unfollowed := true, recurses := true, apart := false }
def FnConflictsSaid : Prop := fnConflictsRow.holds Try.pinned (OpenSpec.ofChange fnConflictsSpec)

/-- ITS FALSE NEIGHBOUR: 'it returns false'. Refute it at one input. -/
def fnConflictsWrong : ChangeSpec := { name := "fnConflicts", fn := fun _ => fun
  | [d] => { results := [.lit (.bool false)], args := [d] }
  | _ => none }
def FnConflictsWrongFalsely : Prop := fnConflictsRow.holds Try.pinned (OpenSpec.ofChange fnConflictsWrong)

/-- 'laws.FnExactAllImages': WHATEVER THE INPUT: true; the input reads as it did. -/
def fnExactAllImagesSpec : ChangeSpec := { name := "fnExactAllImages", fn := fun _ => fun
  | [d1, d2] => { results := [.lit (.bool true)], args := [d1, d2] }
  | _ => none }
def fnExactAllImagesRow : OpenClaim := { program := "ytjgkblgilnfpfaa", sum := "5cd42524d90df9a24739ac3d60805f08262e3853f36be6c972e4ac072b45f91c", func := "loop.example/g00860/laws.FnExactAllImages", spec := "fnExactAllImages", unfollowed := true, recurses := true, apart := false }
def FnExactAllImagesSaid : Prop := fnExactAllImagesRow.holds Try.pinned (OpenSpec.ofChange fnExactAllImagesSpec)

/-- ITS FALSE NEIGHBOUR: 'it returns false'. Refute it at one input. -/
def fnExactAllImagesWrong : ChangeSpec := { name := "fnExactAllImages", fn := fun _ => fun
  | [d1, d2] => { results := [.lit (.bool false)], args := [d1, d2] }
  | _ => none }
def FnExactAllImagesWrongFalsely : Prop := fnExactAllImagesRow.holds Try.pinned (OpenSpec.ofChange fnExactAllImagesWrong)

/-- 'laws.FnExactCountImages': WHATEVER THE INPUT: true; the input reads as it did. -/
def fnExactCountImagesSpec : ChangeSpec := { name := "fnExactCountImages", fn := fun _ => fun
  | [d1, d2] => { results := [.lit (.bool true)], args := [d1, d2] }
  | _ => none }
def fnExactCountImagesRow : OpenClaim := { program := "ytjgkblgilnfpfaa", sum := "5cd42524d90df9a24739ac3d60805f08262e3853f36be6c972e4ac072b45f91c", func := "loop.example/g00860/laws.FnExactCountImages", spec := "fnExactCountImages", unfollowed := true, recurses := true, apart := false }
def FnExactCountImagesSaid : Prop := fnExactCountImagesRow.holds Try.pinned (OpenSpec.ofChange fnExactCountImagesSpec)

/-- ITS FALSE NEIGHBOUR: 'it returns false'. Refute it at one input. -/
def fnExactCountImagesWrong : ChangeSpec := { name := "fnExactCountImages", fn := fun _ => fun
  | [d1, d2] => { results := [.lit (.bool false)], args := [d1, d2] }
  | _ => none }
def FnExactCountImagesWrongFalsely : Prop := fnExactCountImagesRow.holds Try.pinned (OpenSpec.ofChange fnExactCountImagesWrong)

/-- 'laws.FnExactFixedCells': WHATEVER THE INPUT: true; the input reads as it did. -/
def fnExactFixedCellsSpec : ChangeSpec := { name := "fnExactFixedCells", fn := fun _ => fun
  | [d1, d2] => { results := [.lit (.bool true)], args := [d1, d2] }
  | _ => none }
def fnExactFixedCellsRow : OpenClaim := { program := "ytjgkblgilnfpfaa", sum := "5cd42524d90df9a24739ac3d60805f08262e3853f36be6c972e4ac072b45f91c", func := "loop.example/g00860/laws.FnExactFixedCells", spec := "fnExactFixedCells", unfollowed := true, recurses := true, apart := false }
def FnExactFixedCellsSaid : Prop := fnExactFixedCellsRow.holds Try.pinned (OpenSpec.ofChange fnExactFixedCellsSpec)

/-- ITS FALSE NEIGHBOUR: 'it returns false'. Refute it at one input. -/
def fnExactFixedCellsWrong : ChangeSpec := { name := "fnExactFixedCells", fn := fun _ => fun
  | [d1, d2] => { results := [.lit (.bool false)], args := [d1, d2] }
  | _ => none }
def FnExactFixedCellsWrongFalsely : Prop := fnExactFixedCellsRow.holds Try.pinned (OpenSpec.ofChange fnExactFixedCellsWrong)

/-- 'laws.FnExactMaskOk': WHATEVER THE INPUT: true; the input reads as it did. -/
def fnExactMaskOkSpec : ChangeSpec := { name := "fnExactMaskOk", fn := fun _ => fun
  | [d1, d2, d3] => { results := [.lit (.bool true)], args := [d1, d2, d3] }
  | _ => none }
def fnExactMaskOkRow : OpenClaim := { program := "ytjgkblgilnfpfaa", sum := "5cd42524d90df9a24739ac3d60805f08262e3853f36be6c972e4ac072b45f91c", func := "loop.example/g00860/laws.FnExactMaskOk", spec := "fnExactMaskOk", unfollowed := true, recurses := true, apart := false }
def FnExactMaskOkSaid : Prop := fnExactMaskOkRow.holds Try.pinned (OpenSpec.ofChange fnExactMaskOkSpec)

/-- ITS FALSE NEIGHBOUR: 'it returns false'. Refute it at one input. -/
def fnExactMaskOkWrong : ChangeSpec := { name := "fnExactMaskOk", fn := fun _ => fun
  | [d1, d2, d3] => { results := [.lit (.bool false)], args := [d1, d2, d3] }
  | _ => none }
def FnExactMaskOkWrongFalsely : Prop := fnExactMaskOkRow.holds Try.pinned (OpenSpec.ofChange fnExactMaskOkWrong)

/-- 'laws.FnExactMeetsMask': WHATEVER THE INPUT: true; the input reads as it did. -/
def fnExactMeetsMaskSpec : ChangeSpec := { name := "fnExactMeetsMask", fn := fun _ => fun
  | [d1, d2] => { results := [.lit (.bool true)], args := [d1, d2] }
  | _ => none }
def fnExactMeetsMaskRow : OpenClaim := { program := "ytjgkblgilnfpfaa", sum := "5cd42524d90df9a24739ac3d60805f08262e3853f36be6c972e4ac072b45f91c", func := "loop.example/g00860/laws.FnExactMeetsMask", spec := "fnExactMeetsMask", unfollowed := true, recurses := true, apart := false }
def FnExactMeetsMaskSaid : Prop := fnExactMeetsMaskRow.holds Try.pinned (OpenSpec.ofChange fnExactMeetsMaskSpec)

/-- ITS FALSE NEIGHBOUR: 'it returns false'. Refute it at one input. -/
def fnExactMeetsMaskWrong : ChangeSpec := { name := "fnExactMeetsMask", fn := fun _ => fun
  | [d1, d2] => { results := [.lit (.bool false)], args := [d1, d2] }
  | _ => none }
def FnExactMeetsMaskWrongFalsely : Prop := fnExactMeetsMaskRow.holds Try.pinned (OpenSpec.ofChange fnExactMeetsMaskWrong)

/-- 'laws.FnExactHasConflict': WHATEVER THE INPUT: true; the input reads as it did. -/
def fnExactHasConflictSpec : ChangeSpec := { name := "fnExactHasConflict", fn := fun _ => fun
  | [d1, d2, d3, d4, d5] => { results := [.lit (.bool true)], args := [d1, d2, d3, d4, d5] }
  | _ => none }
def fnExactHasConflictRow : OpenClaim := { program := "ytjgkblgilnfpfaa", sum := "5cd42524d90df9a24739ac3d60805f08262e3853f36be6c972e4ac072b45f91c", func := "loop.example/g00860/laws.FnExactHasConflict", spec := "fnExactHasConflict", unfollowed := true, recurses := true, apart := false }
def FnExactHasConflictSaid : Prop := fnExactHasConflictRow.holds Try.pinned (OpenSpec.ofChange fnExactHasConflictSpec)

/-- ITS FALSE NEIGHBOUR: 'it returns false'. Refute it at one input. -/
def fnExactHasConflictWrong : ChangeSpec := { name := "fnExactHasConflict", fn := fun _ => fun
  | [d1, d2, d3, d4, d5] => { results := [.lit (.bool false)], args := [d1, d2, d3, d4, d5] }
  | _ => none }
def FnExactHasConflictWrongFalsely : Prop := fnExactHasConflictRow.holds Try.pinned (OpenSpec.ofChange fnExactHasConflictWrong)

/- THE SECOND FORM. 'bulk': how many values and letters a reading holds, each counted each time it is reached (what is shared counts as often as it is met; a slice's spare places count too). A statement '..UptoSaid' is the law's where the arguments, and the package variables that the reading takes, are together of bulk at most 1048576: NARROWER than '..Said'. Prove '..Said' where nothing that the law and all that it calls make is longer than what came in: it says more and counts as full. Else prove '..UptoSaid'. A law counts once. -/
mutual
def uptoBulk {H : Type} : DataW H → Nat
  | .lit (.string bytes) => bytes.length + 1
  | .lit _ => 1
  | .nil => 1
  | .ptr d => uptoBulk d + 1
  | .slice elems spare => uptoBulkAll elems + uptoBulkAll spare + 1
  | .agg parts => uptoBulkAll parts + 1
  | .iface _ d => uptoBulk d + 1
  | .map entries => uptoBulkEntries entries + 1
  | .held _ => 1
def uptoBulkAll {H : Type} : List (DataW H) → Nat
  | [] => 0
  | d :: r => uptoBulk d + uptoBulkAll r
def uptoBulkEntries {H : Type} : List (Lit × DataW H) → Nat
  | [] => 0
  | x :: r => uptoBulkEntry x + uptoBulkEntries r
def uptoBulkEntry {H : Type} : Lit × DataW H → Nat
  | (.string bytes, d) => bytes.length + uptoBulk d + 1
  | (_, d) => uptoBulk d + 1
 end
def uptoSmall : (H : Type) → List (DataW H) → Bool := fun _ ds => decide (uptoBulkAll ds ≤ 1048576)
def OpenSpec.upto (s : _root_.Go.ChangeSpec) : _root_.Go.OpenSpec := { _root_.Go.OpenSpec.ofChange s with cond := some uptoSmall }

/-- 'laws.FnConflicts', WHERE WHAT IT READS IS OF BULK AT MOST 1048576: true; the input reads as it did. -/
def fnConflictsUptoRow : OpenClaim := { program := "ytjgkblgilnfpfaa", sum := "5cd42524d90df9a24739ac3d60805f08262e3853f36be6c972e4ac072b45f91c", func := "loop.example/g00860/laws.FnConflicts", spec := "fnConflicts", unfollowed := true, recurses := true, apart := false, narrowed := true }
def FnConflictsUptoSaid : Prop := fnConflictsUptoRow.holds Try.pinned (OpenSpec.upto fnConflictsSpec)

/-- 'laws.FnExactAllImages', WHERE WHAT IT READS IS OF BULK AT MOST 1048576: true; the input reads as it did. -/
def fnExactAllImagesUptoRow : OpenClaim := { program := "ytjgkblgilnfpfaa", sum := "5cd42524d90df9a24739ac3d60805f08262e3853f36be6c972e4ac072b45f91c", func := "loop.example/g00860/laws.FnExactAllImages", spec := "fnExactAllImages", unfollowed := true, recurses := true, apart := false, narrowed := true }
def FnExactAllImagesUptoSaid : Prop := fnExactAllImagesUptoRow.holds Try.pinned (OpenSpec.upto fnExactAllImagesSpec)

/-- 'laws.FnExactCountImages', WHERE WHAT IT READS IS OF BULK AT MOST 1048576: true; the input reads as it did. -/
def fnExactCountImagesUptoRow : OpenClaim := { program := "ytjgkblgilnfpfaa", sum := "5cd42524d90df9a24739ac3d60805f08262e3853f36be6c972e4ac072b45f91c", func := "loop.example/g00860/laws.FnExactCountImages", spec := "fnExactCountImages", unfollowed := true, recurses := true, apart := false, narrowed := true }
def FnExactCountImagesUptoSaid : Prop := fnExactCountImagesUptoRow.holds Try.pinned (OpenSpec.upto fnExactCountImagesSpec)

/-- 'laws.FnExactFixedCells', WHERE WHAT IT READS IS OF BULK AT MOST 1048576: true; the input reads as it did. -/
def fnExactFixedCellsUptoRow : OpenClaim := { program := "ytjgkblgilnfpfaa", sum := "5cd42524d90df9a24739ac3d60805f08262e3853f36be6c972e4ac072b45f91c", func := "loop.example/g00860/laws.FnExactFixedCells", spec := "fnExactFixedCells", unfollowed := true, recurses := true, apart := false, narrowed := true }
def FnExactFixedCellsUptoSaid : Prop := fnExactFixedCellsUptoRow.holds Try.pinned (OpenSpec.upto fnExactFixedCellsSpec)

/-- 'laws.FnExactMaskOk', WHERE WHAT IT READS IS OF BULK AT MOST 1048576: true; the input reads as it did. -/
def fnExactMaskOkUptoRow : OpenClaim := { program := "ytjgkblgilnfpfaa", sum := "5cd42524d90df9a24739ac3d60805f08262e3853f36be6c972e4ac072b45f91c", func := "loop.example/g00860/laws.FnExactMaskOk", spec := "fnExactMaskOk", unfollowed := true, recurses := true, apart := false, narrowed := true }
def FnExactMaskOkUptoSaid : Prop := fnExactMaskOkUptoRow.holds Try.pinned (OpenSpec.upto fnExactMaskOkSpec)

/-- 'laws.FnExactMeetsMask', WHERE WHAT IT READS IS OF BULK AT MOST 1048576: true; the input reads as it did. -/
def fnExactMeetsMaskUptoRow : OpenClaim := { program := "ytjgkblgilnfpfaa", sum := "5cd42524d90df9a24739ac3d60805f08262e3853f36be6c972e4ac072b45f91c", func := "loop.example/g00860/laws.FnExactMeetsMask", spec := "fnExactMeetsMask", unfollowed := true, recurses := true, apart := false, narrowed := true }
def FnExactMeetsMaskUptoSaid : Prop := fnExactMeetsMaskUptoRow.holds Try.pinned (OpenSpec.upto fnExactMeetsMaskSpec)

/-- 'laws.FnExactHasConflict', WHERE WHAT IT READS IS OF BULK AT MOST 1048576: true; the input reads as it did. -/
def fnExactHasConflictUptoRow : OpenClaim := { program := "ytjgkblgilnfpfaa", sum := "5cd42524d90df9a24739ac3d60805f08262e3853f36be6c972e4ac072b45f91c", func := "loop.example/g00860/laws.FnExactHasConflict", spec := "fnExactHasConflict", unfollowed := true, recurses := true, apart := false, narrowed := true }
def FnExactHasConflictUptoSaid : Prop := fnExactHasConflictUptoRow.holds Try.pinned (OpenSpec.upto fnExactHasConflictSpec)

end Rows
end Go.Proofs.Ytjgkblgilnfpfaa
