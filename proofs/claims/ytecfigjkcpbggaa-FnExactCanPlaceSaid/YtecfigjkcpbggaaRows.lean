/-
  No cell of these rows narrows 'for every input' (looked for: loops, veiled, ifaces, maps, wideKeys, modest, calm, conditions, laid).
  DERIVED. THE GIVEN ROWS OF THIS SEAT. 5 by the template 'for every input the law returns true; each argument reads behind the call as it read before'; 0 by the template 'total and deterministic' (their statements: YtecfigjkcpbggaaTotals.lean).
  GIVEN WITH THE SEED: the statements are not yours to turn. If you find one false, say at which input.
  Laid BY PROGRAM, IN A SANDBOX (cutbox-rows.mjs): the forced cells as the released guide's own fill.sh prints them over the translation 083657b02985db6a… (all of the seat's roots in one cut). By AI agents, Wed Nov 11 2026. No macro, syntax, notation, axiom, sorry.
-/
import Derived.Test.YtecfigjkcpbggaaChecked
import GoSem.Claim
import GoSem.ClaimJoined
import GoSem.ClaimMapViews
import Derived.JoinedTies
import Derived.KernelRfl
namespace Go.Proofs.Ytecfigjkcpbggaa
/- THE CELL 'sum', in the pinned program and in every row, IS THE sha256 OF THE DUMP (.gsa) THAT YtecfigjkcpbggaaProg.lean LOADS. Nothing in Lean hashes anything: it is a label: what it is worth is what the hold of that sum in a sandbox is worth. -/
noncomputable def Try.pinned : Pinned := { name := "ytecfigjkcpbggaa", sum := "083657b02985db6a4daa005f0278bf36a805a5cd931874ffab51b1a9c8ad3de6", checked := Try.checked }
namespace Rows
def none {H : Type} : Left H := { results := [], args := [] }

/-- 'laws.FnExactBuildImage': WHATEVER THE INPUT: true; the input reads as it did. -/
def fnExactBuildImageSpec : ChangeSpec := { name := "fnExactBuildImage", fn := fun _ => fun
  | [d1, d2] => { results := [.lit (.bool true)], args := [d1, d2] }
  | _ => none }
def fnExactBuildImageRow : OpenClaim := { program := "ytecfigjkcpbggaa", sum := "083657b02985db6a4daa005f0278bf36a805a5cd931874ffab51b1a9c8ad3de6", func := "loop.example/g00860/laws.FnExactBuildImage", spec := "fnExactBuildImage", unfollowed := true, recurses := true, apart := false }
def FnExactBuildImageSaid : Prop := fnExactBuildImageRow.holds Try.pinned (OpenSpec.ofChange fnExactBuildImageSpec)

/-- ITS FALSE NEIGHBOUR: 'it returns false'. Refute it at one input. -/
def fnExactBuildImageWrong : ChangeSpec := { name := "fnExactBuildImage", fn := fun _ => fun
  | [d1, d2] => { results := [.lit (.bool false)], args := [d1, d2] }
  | _ => none }
def FnExactBuildImageWrongFalsely : Prop := fnExactBuildImageRow.holds Try.pinned (OpenSpec.ofChange fnExactBuildImageWrong)

/-- 'laws.FnExactLeastImage': WHATEVER THE INPUT: true; the input reads as it did. -/
def fnExactLeastImageSpec : ChangeSpec := { name := "fnExactLeastImage", fn := fun _ => fun
  | [d1, d2] => { results := [.lit (.bool true)], args := [d1, d2] }
  | _ => none }
def fnExactLeastImageRow : OpenClaim := { program := "ytecfigjkcpbggaa", sum := "083657b02985db6a4daa005f0278bf36a805a5cd931874ffab51b1a9c8ad3de6", func := "loop.example/g00860/laws.FnExactLeastImage", spec := "fnExactLeastImage", unfollowed := true, recurses := true, apart := false }
def FnExactLeastImageSaid : Prop := fnExactLeastImageRow.holds Try.pinned (OpenSpec.ofChange fnExactLeastImageSpec)

/-- ITS FALSE NEIGHBOUR: 'it returns false'. Refute it at one input. -/
def fnExactLeastImageWrong : ChangeSpec := { name := "fnExactLeastImage", fn := fun _ => fun
  | [d1, d2] => { results := [.lit (.bool false)], args := [d1, d2] }
  | _ => none }
def FnExactLeastImageWrongFalsely : Prop := fnExactLeastImageRow.holds Try.pinned (OpenSpec.ofChange fnExactLeastImageWrong)

/-- 'laws.FnExactCanPlace': WHATEVER THE INPUT: true; the input reads as it did. -/
def fnExactCanPlaceSpec : ChangeSpec := { name := "fnExactCanPlace", fn := fun _ => fun
  | [d1, d2, d3, d4, d5] => { results := [.lit (.bool true)], args := [d1, d2, d3, d4, d5] }
  | _ => none }
def fnExactCanPlaceRow : OpenClaim := { program := "ytecfigjkcpbggaa", sum := "083657b02985db6a4daa005f0278bf36a805a5cd931874ffab51b1a9c8ad3de6", func := "loop.example/g00860/laws.FnExactCanPlace", spec := "fnExactCanPlace", unfollowed := true, recurses := true, apart := false }
def FnExactCanPlaceSaid : Prop := fnExactCanPlaceRow.holds Try.pinned (OpenSpec.ofChange fnExactCanPlaceSpec)

/-- ITS FALSE NEIGHBOUR: 'it returns false'. Refute it at one input. -/
def fnExactCanPlaceWrong : ChangeSpec := { name := "fnExactCanPlace", fn := fun _ => fun
  | [d1, d2, d3, d4, d5] => { results := [.lit (.bool false)], args := [d1, d2, d3, d4, d5] }
  | _ => none }
def FnExactCanPlaceWrongFalsely : Prop := fnExactCanPlaceRow.holds Try.pinned (OpenSpec.ofChange fnExactCanPlaceWrong)

/-- 'laws.FnExactIsStaircase': WHATEVER THE INPUT: true; the input reads as it did. -/
def fnExactIsStaircaseSpec : ChangeSpec := { name := "fnExactIsStaircase", fn := fun _ => fun
  | [d] => { results := [.lit (.bool true)], args := [d] }
  | _ => none }
def fnExactIsStaircaseRow : OpenClaim := { program := "ytecfigjkcpbggaa", sum := "083657b02985db6a4daa005f0278bf36a805a5cd931874ffab51b1a9c8ad3de6", func := "loop.example/g00860/laws.FnExactIsStaircase", spec := "fnExactIsStaircase", unfollowed := true, recurses := true, apart := false }
def FnExactIsStaircaseSaid : Prop := fnExactIsStaircaseRow.holds Try.pinned (OpenSpec.ofChange fnExactIsStaircaseSpec)

/-- ITS FALSE NEIGHBOUR: 'it returns false'. Refute it at one input. -/
def fnExactIsStaircaseWrong : ChangeSpec := { name := "fnExactIsStaircase", fn := fun _ => fun
  | [d] => { results := [.lit (.bool false)], args := [d] }
  | _ => none }
def FnExactIsStaircaseWrongFalsely : Prop := fnExactIsStaircaseRow.holds Try.pinned (OpenSpec.ofChange fnExactIsStaircaseWrong)

/-- 'laws.FnExactStaircaseOf': WHATEVER THE INPUT: true; the input reads as it did. -/
def fnExactStaircaseOfSpec : ChangeSpec := { name := "fnExactStaircaseOf", fn := fun _ => fun
  | [d1, d2] => { results := [.lit (.bool true)], args := [d1, d2] }
  | _ => none }
def fnExactStaircaseOfRow : OpenClaim := { program := "ytecfigjkcpbggaa", sum := "083657b02985db6a4daa005f0278bf36a805a5cd931874ffab51b1a9c8ad3de6", func := "loop.example/g00860/laws.FnExactStaircaseOf", spec := "fnExactStaircaseOf", unfollowed := true, recurses := true, apart := false }
def FnExactStaircaseOfSaid : Prop := fnExactStaircaseOfRow.holds Try.pinned (OpenSpec.ofChange fnExactStaircaseOfSpec)

/-- ITS FALSE NEIGHBOUR: 'it returns false'. Refute it at one input. -/
def fnExactStaircaseOfWrong : ChangeSpec := { name := "fnExactStaircaseOf", fn := fun _ => fun
  | [d1, d2] => { results := [.lit (.bool false)], args := [d1, d2] }
  | _ => none }
def FnExactStaircaseOfWrongFalsely : Prop := fnExactStaircaseOfRow.holds Try.pinned (OpenSpec.ofChange fnExactStaircaseOfWrong)

/- THE SECOND FORM. 'bulk': how many values and letters a reading holds, each counted each time it is reached (what is shared counts as often as it is met; a slice's spare places count too). A statement '..UptoSaid' is the law's where the arguments, and the package variables that the reading takes, are together of bulk at most 1048576: NARROWER than '..Said'. Prove '..Said' where nothing that the law and all that it calls make is longer than what came in: it says more and counts as full. Else prove '..UptoSaid'. A law counts once. -/
mutual
def uptoBulk {H : Type} : DataW H → Nat
  | .lit (.string bytes) => bytes.length + 1
  | .lit _ => 1
  | .nil => 1
  | .ptr d => uptoBulk d + 1
  | .slice elems spare => uptoBulkAll elems + uptoBulkAll spare + 1
  | .agg parts => uptoBulkAll parts + 1
  | .iface _ d => uptoBulk d + 1
  | .map entries => uptoBulkEntries entries + 1
  | .held _ => 1
def uptoBulkAll {H : Type} : List (DataW H) → Nat
  | [] => 0
  | d :: r => uptoBulk d + uptoBulkAll r
def uptoBulkEntries {H : Type} : List (Lit × DataW H) → Nat
  | [] => 0
  | x :: r => uptoBulkEntry x + uptoBulkEntries r
def uptoBulkEntry {H : Type} : Lit × DataW H → Nat
  | (.string bytes, d) => bytes.length + uptoBulk d + 1
  | (_, d) => uptoBulk d + 1
 end
def uptoSmall : (H : Type) → List (DataW H) → Bool := fun _ ds => decide (uptoBulkAll ds ≤ 1048576)
def OpenSpec.upto (s : _root_.Go.ChangeSpec) : _root_.Go.OpenSpec := { _root_.Go.OpenSpec.ofChange s with cond := some uptoSmall }

/-- 'laws.FnExactBuildImage', WHERE WHAT IT READS IS OF BULK AT MOST 1048576: true; the input reads as it did. -/
def fnExactBuildImageUptoRow : OpenClaim := { program := "ytecfigjkcpbggaa", sum := "083657b02985db6a4daa005f0278bf36a805a5cd931874ffab51b1a9c8ad3de6", func := "loop.example/g00860/laws.FnExactBuildImage", spec := "fnExactBuildImage", unfollowed := true, recurses := true, apart := false, narrowed := true }
def FnExactBuildImageUptoSaid : Prop := fnExactBuildImageUptoRow.holds Try.pinned (OpenSpec.upto fnExactBuildImageSpec)

/-- 'laws.FnExactLeastImage', WHERE WHAT IT READS IS OF BULK AT MOST 1048576: true; the input reads as it did. -/
def fnExactLeastImageUptoRow : OpenClaim := { program := "ytecfigjkcpbggaa", sum := "083657b02985db6a4daa005f0278bf36a805a5cd931874ffab51b1a9c8ad3de6", func := "loop.example/g00860/laws.FnExactLeastImage", spec := "fnExactLeastImage", unfollowed := true, recurses := true, apart := false, narrowed := true }
def FnExactLeastImageUptoSaid : Prop := fnExactLeastImageUptoRow.holds Try.pinned (OpenSpec.upto fnExactLeastImageSpec)

/-- 'laws.FnExactCanPlace', WHERE WHAT IT READS IS OF BULK AT MOST 1048576: true; the input reads as it did. -/
def fnExactCanPlaceUptoRow : OpenClaim := { program := "ytecfigjkcpbggaa", sum := "083657b02985db6a4daa005f0278bf36a805a5cd931874ffab51b1a9c8ad3de6", func := "loop.example/g00860/laws.FnExactCanPlace", spec := "fnExactCanPlace", unfollowed := true, recurses := true, apart := false, narrowed := true }
def FnExactCanPlaceUptoSaid : Prop := fnExactCanPlaceUptoRow.holds Try.pinned (OpenSpec.upto fnExactCanPlaceSpec)

/-- 'laws.FnExactIsStaircase', WHERE WHAT IT READS IS OF BULK AT MOST 1048576: true; the input reads as it did. -/
def fnExactIsStaircaseUptoRow : OpenClaim := { program := "ytecfigjkcpbggaa", sum := "083657b02985db6a4daa005f0278bf36a805a5cd931874ffab51b1a9c8ad3de6", func := "loop.example/g00860/laws.FnExactIsStaircase", spec := "fnExactIsStaircase", unfollowed := true, recurses := true, apart := false, narrowed := true }
def FnExactIsStaircaseUptoSaid : Prop := fnExactIsStaircaseUptoRow.holds Try.pinned (OpenSpec.upto fnExactIsStaircaseSpec)

/-- 'laws.FnExactStaircaseOf', WHERE WHAT IT READS IS OF BULK AT MOST 1048576: true; the input reads as it did. -/
def fnExactStaircaseOfUptoRow : OpenClaim := { program := "ytecfigjkcpbggaa", sum := "083657b02985db6a4daa005f0278bf36a805a5cd931874ffab51b1a9c8ad3de6", func := "loop.example/g00860/laws.FnExactStaircaseOf", spec := "fnExactStaircaseOf", unfollowed := true, recurses := true, apart := false, narrowed := true }
def FnExactStaircaseOfUptoSaid : Prop := fnExactStaircaseOfUptoRow.holds Try.pinned (OpenSpec.upto fnExactStaircaseOfSpec)

end Rows
end Go.Proofs.Ytecfigjkcpbggaa
