/-
  No cell of these rows narrows 'for every input' (looked for: loops, veiled, ifaces, maps, wideKeys, modest, calm, conditions, laid).
  DERIVED. THE GIVEN ROWS OF THIS SEAT. 3 by the template 'for every input the law returns true; each argument reads behind the call as it read before'; 0 by the template 'total and deterministic' (their statements: YtbogeghoekmbhaaGreatTotals.lean).
  GIVEN WITH THE SEED: the statements are not yours to turn. If you find one false, say at which input.
  Laid BY PROGRAM, IN A SANDBOX (cutbox-rows.mjs): the forced cells as the released guide's own fill.sh prints them over the translation c4e8c647cbc9b718… (all of the seat's roots in one cut). By AI agents, Wed Nov 11 2026. No macro, syntax, notation, axiom, sorry.
-/
import Derived.Test.YtbogeghoekmbhaaGreatChecked
import GoSem.Claim
import GoSem.ClaimJoined
import GoSem.ClaimMapViews
import Derived.JoinedTies
import Derived.KernelRfl
namespace Go.Proofs.YtbogeghoekmbhaaGreat
/- THE CELL 'sum', in the pinned program and in every row, IS THE sha256 OF THE DUMP (.gsa) THAT YtbogeghoekmbhaaGreatProg.lean LOADS. Nothing in Lean hashes anything: it is a label: what it is worth is what the hold of that sum in a sandbox is worth. -/
noncomputable def Tryz.pinned : Pinned := { name := "ytbogeghoekmbhaagreat", sum := "c4e8c647cbc9b7184400559c3cd830c32d6a59d98161c715aa796c22e3bfbe41", checked := Tryz.checked }
namespace Rows
def none {H : Type} : Left H := { results := [], args := [] }

/-- 'laws.FnExactFreeCells': WHATEVER THE INPUT: true; the input reads as it did. -/
def fnExactFreeCellsSpec : ChangeSpec := { name := "fnExactFreeCells", fn := fun _ => fun
  | [d] => { results := [.lit (.bool true)], args := [d] }
  | _ => none }
def fnExactFreeCellsRow : OpenClaim := { program := "ytbogeghoekmbhaagreat", sum := "c4e8c647cbc9b7184400559c3cd830c32d6a59d98161c715aa796c22e3bfbe41", func := "loop.example/g00860/laws.FnExactFreeCells", spec := "fnExactFreeCells", unfollowed := true, recurses := true, plainKeys := false, apart := false }
def FnExactFreeCellsSaid : Prop := fnExactFreeCellsRow.holds Tryz.pinned (OpenSpec.ofChange fnExactFreeCellsSpec)

/-- ITS FALSE NEIGHBOUR: 'it returns false'. Refute it at one input. -/
def fnExactFreeCellsWrong : ChangeSpec := { name := "fnExactFreeCells", fn := fun _ => fun
  | [d] => { results := [.lit (.bool false)], args := [d] }
  | _ => none }
def FnExactFreeCellsWrongFalsely : Prop := fnExactFreeCellsRow.holds Tryz.pinned (OpenSpec.ofChange fnExactFreeCellsWrong)

/-- 'laws.FnExactMaskedImage': WHATEVER THE INPUT: true; the input reads as it did. -/
def fnExactMaskedImageSpec : ChangeSpec := { name := "fnExactMaskedImage", fn := fun _ => fun
  | [d1, d2, d3] => { results := [.lit (.bool true)], args := [d1, d2, d3] }
  | _ => none }
def fnExactMaskedImageRow : OpenClaim := { program := "ytbogeghoekmbhaagreat", sum := "c4e8c647cbc9b7184400559c3cd830c32d6a59d98161c715aa796c22e3bfbe41", func := "loop.example/g00860/laws.FnExactMaskedImage", spec := "fnExactMaskedImage", unfollowed := true, recurses := true, plainKeys := false, apart := false }
def FnExactMaskedImageSaid : Prop := fnExactMaskedImageRow.holds Tryz.pinned (OpenSpec.ofChange fnExactMaskedImageSpec)

/-- ITS FALSE NEIGHBOUR: 'it returns false'. Refute it at one input. -/
def fnExactMaskedImageWrong : ChangeSpec := { name := "fnExactMaskedImage", fn := fun _ => fun
  | [d1, d2, d3] => { results := [.lit (.bool false)], args := [d1, d2, d3] }
  | _ => none }
def FnExactMaskedImageWrongFalsely : Prop := fnExactMaskedImageRow.holds Tryz.pinned (OpenSpec.ofChange fnExactMaskedImageWrong)

/-- 'laws.FnExactMaskedCount': WHATEVER THE INPUT: true; the input reads as it did. -/
def fnExactMaskedCountSpec : ChangeSpec := { name := "fnExactMaskedCount", fn := fun _ => fun
  | [d1, d2, d3] => { results := [.lit (.bool true)], args := [d1, d2, d3] }
  | _ => none }
def fnExactMaskedCountRow : OpenClaim := { program := "ytbogeghoekmbhaagreat", sum := "c4e8c647cbc9b7184400559c3cd830c32d6a59d98161c715aa796c22e3bfbe41", func := "loop.example/g00860/laws.FnExactMaskedCount", spec := "fnExactMaskedCount", unfollowed := true, recurses := true, plainKeys := false, apart := false }
def FnExactMaskedCountSaid : Prop := fnExactMaskedCountRow.holds Tryz.pinned (OpenSpec.ofChange fnExactMaskedCountSpec)

/-- ITS FALSE NEIGHBOUR: 'it returns false'. Refute it at one input. -/
def fnExactMaskedCountWrong : ChangeSpec := { name := "fnExactMaskedCount", fn := fun _ => fun
  | [d1, d2, d3] => { results := [.lit (.bool false)], args := [d1, d2, d3] }
  | _ => none }
def FnExactMaskedCountWrongFalsely : Prop := fnExactMaskedCountRow.holds Tryz.pinned (OpenSpec.ofChange fnExactMaskedCountWrong)

/- THE SECOND FORM. 'bulk': how many values and letters a reading holds, each counted each time it is reached (what is shared counts as often as it is met; a slice's spare places count too). A statement '..UptoSaid' is the law's where the arguments, and the package variables that the reading takes, are together of bulk at most 1048576: NARROWER than '..Said'. Prove '..Said' where nothing that the law and all that it calls make is longer than what came in: it says more and counts as full. Else prove '..UptoSaid'. A law counts once. -/
mutual
def uptoBulk {H : Type} : DataW H → Nat
  | .lit (.string bytes) => bytes.length + 1
  | .lit _ => 1
  | .nil => 1
  | .ptr d => uptoBulk d + 1
  | .slice elems spare => uptoBulkAll elems + uptoBulkAll spare + 1
  | .agg parts => uptoBulkAll parts + 1
  | .iface _ d => uptoBulk d + 1
  | .map entries => uptoBulkEntries entries + 1
  | .held _ => 1
def uptoBulkAll {H : Type} : List (DataW H) → Nat
  | [] => 0
  | d :: r => uptoBulk d + uptoBulkAll r
def uptoBulkEntries {H : Type} : List (Lit × DataW H) → Nat
  | [] => 0
  | x :: r => uptoBulkEntry x + uptoBulkEntries r
def uptoBulkEntry {H : Type} : Lit × DataW H → Nat
  | (.string bytes, d) => bytes.length + uptoBulk d + 1
  | (_, d) => uptoBulk d + 1
 end
def uptoSmall : (H : Type) → List (DataW H) → Bool := fun _ ds => decide (uptoBulkAll ds ≤ 1048576)
def OpenSpec.upto (s : _root_.Go.ChangeSpec) : _root_.Go.OpenSpec := { _root_.Go.OpenSpec.ofChange s with cond := some uptoSmall }

/-- 'laws.FnExactFreeCells', WHERE WHAT IT READS IS OF BULK AT MOST 1048576: true; the input reads as it did. -/
def fnExactFreeCellsUptoRow : OpenClaim := { program := "ytbogeghoekmbhaagreat", sum := "c4e8c647cbc9b7184400559c3cd830c32d6a59d98161c715aa796c22e3bfbe41", func := "loop.example/g00860/laws.FnExactFreeCells", spec := "fnExactFreeCells", unfollowed := true, recurses := true, plainKeys := false, apart := false, narrowed := true }
def FnExactFreeCellsUptoSaid : Prop := fnExactFreeCellsUptoRow.holds Tryz.pinned (OpenSpec.upto fnExactFreeCellsSpec)

/-- 'laws.FnExactMaskedImage', WHERE WHAT IT READS IS OF BULK AT MOST 1048576: true; the input reads as it did. -/
def fnExactMaskedImageUptoRow : OpenClaim := { program := "ytbogeghoekmbhaagreat", sum := "c4e8c647cbc9b7184400559c3cd830c32d6a59d98161c715aa796c22e3bfbe41", func := "loop.example/g00860/laws.FnExactMaskedImage", spec := "fnExactMaskedImage", unfollowed := true, recurses := true, plainKeys := false, apart := false, narrowed := true }
def FnExactMaskedImageUptoSaid : Prop := fnExactMaskedImageUptoRow.holds Tryz.pinned (OpenSpec.upto fnExactMaskedImageSpec)

/-- 'laws.FnExactMaskedCount', WHERE WHAT IT READS IS OF BULK AT MOST 1048576: true; the input reads as it did. -/
def fnExactMaskedCountUptoRow : OpenClaim := { program := "ytbogeghoekmbhaagreat", sum := "c4e8c647cbc9b7184400559c3cd830c32d6a59d98161c715aa796c22e3bfbe41", func := "loop.example/g00860/laws.FnExactMaskedCount", spec := "fnExactMaskedCount", unfollowed := true, recurses := true, plainKeys := false, apart := false, narrowed := true }
def FnExactMaskedCountUptoSaid : Prop := fnExactMaskedCountUptoRow.holds Tryz.pinned (OpenSpec.upto fnExactMaskedCountSpec)

end Rows
end Go.Proofs.YtbogeghoekmbhaaGreat
