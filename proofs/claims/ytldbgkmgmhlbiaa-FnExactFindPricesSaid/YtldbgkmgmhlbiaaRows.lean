/-
  No cell of these rows narrows 'for every input' (looked for: loops, veiled, ifaces, maps, wideKeys, modest, calm, conditions, laid).
  DERIVED. THE GIVEN ROWS OF THIS SEAT. 5 by the template 'for every input the law returns true; each argument reads behind the call as it read before'; 0 by the template 'total and deterministic' (their statements: YtldbgkmgmhlbiaaTotals.lean).
  GIVEN WITH THE SEED: the statements are not yours to turn. If you find one false, say at which input.
  Laid BY PROGRAM, IN A SANDBOX (cutbox-rows.mjs): the forced cells as the released guide's own fill.sh prints them over the translation 61077a5889abab1c… (all of the seat's roots in one cut). By AI agents, Wed Nov 11 2026. No macro, syntax, notation, axiom, sorry.
-/
import Derived.Test.YtldbgkmgmhlbiaaChecked
import GoSem.Claim
import GoSem.ClaimJoined
import GoSem.ClaimMapViews
import Derived.JoinedTies
import Derived.KernelRfl
namespace Go.Proofs.Ytldbgkmgmhlbiaa
/- THE CELL 'sum', in the pinned program and in every row, IS THE sha256 OF THE DUMP (.gsa) THAT YtldbgkmgmhlbiaaProg.lean LOADS. Nothing in Lean hashes anything: it is a label: what it is worth is what the hold of that sum in a sandbox is worth. -/
noncomputable def Try.pinned : Pinned := { name := "ytldbgkmgmhlbiaa", sum := "61077a5889abab1cc79c60ec4cbb155652cb5de83ce3f5caae94f87612c9ded3", checked := Try.checked }
namespace Rows
def none {H : Type} : Left H := { results := [], args := [] }

/-- 'laws.FnExactWeightOk': WHATEVER THE INPUT: true; the input reads as it did. -/
def fnExactWeightOkSpec : ChangeSpec := { name := "fnExactWeightOk", fn := fun _ => fun
  | [d1, d2, d3] => { results := [.lit (.bool true)], args := [d1, d2, d3] }
  | _ => none }
def fnExactWeightOkRow : OpenClaim := { program := "ytldbgkmgmhlbiaa", sum := "61077a5889abab1cc79c60ec4cbb155652cb5de83ce3f5caae94f87612c9ded3", func := "loop.example/g00860/laws.FnExactWeightOk", spec := "fnExactWeightOk", unfollowed := true, recurses := true, apart := false }
def FnExactWeightOkSaid : Prop := fnExactWeightOkRow.holds Try.pinned (OpenSpec.ofChange fnExactWeightOkSpec)

/-- ITS FALSE NEIGHBOUR: 'it returns false'. Refute it at one input. -/
def fnExactWeightOkWrong : ChangeSpec := { name := "fnExactWeightOk", fn := fun _ => fun
  | [d1, d2, d3] => { results := [.lit (.bool false)], args := [d1, d2, d3] }
  | _ => none }
def FnExactWeightOkWrongFalsely : Prop := fnExactWeightOkRow.holds Try.pinned (OpenSpec.ofChange fnExactWeightOkWrong)

/-- 'laws.FnExactWeightOf': WHATEVER THE INPUT: true; the input reads as it did. -/
def fnExactWeightOfSpec : ChangeSpec := { name := "fnExactWeightOf", fn := fun _ => fun
  | [d1, d2] => { results := [.lit (.bool true)], args := [d1, d2] }
  | _ => none }
def fnExactWeightOfRow : OpenClaim := { program := "ytldbgkmgmhlbiaa", sum := "61077a5889abab1cc79c60ec4cbb155652cb5de83ce3f5caae94f87612c9ded3", func := "loop.example/g00860/laws.FnExactWeightOf", spec := "fnExactWeightOf", unfollowed := true, recurses := true, apart := false }
def FnExactWeightOfSaid : Prop := fnExactWeightOfRow.holds Try.pinned (OpenSpec.ofChange fnExactWeightOfSpec)

/-- ITS FALSE NEIGHBOUR: 'it returns false'. Refute it at one input. -/
def fnExactWeightOfWrong : ChangeSpec := { name := "fnExactWeightOf", fn := fun _ => fun
  | [d1, d2] => { results := [.lit (.bool false)], args := [d1, d2] }
  | _ => none }
def FnExactWeightOfWrongFalsely : Prop := fnExactWeightOfRow.holds Try.pinned (OpenSpec.ofChange fnExactWeightOfWrong)

/-- 'laws.FnExactHeaviestImage': WHATEVER THE INPUT: true; the input reads as it did. -/
def fnExactHeaviestImageSpec : ChangeSpec := { name := "fnExactHeaviestImage", fn := fun _ => fun
  | [d1, d2, d3] => { results := [.lit (.bool true)], args := [d1, d2, d3] }
  | _ => none }
def fnExactHeaviestImageRow : OpenClaim := { program := "ytldbgkmgmhlbiaa", sum := "61077a5889abab1cc79c60ec4cbb155652cb5de83ce3f5caae94f87612c9ded3", func := "loop.example/g00860/laws.FnExactHeaviestImage", spec := "fnExactHeaviestImage", unfollowed := true, recurses := true, apart := false }
def FnExactHeaviestImageSaid : Prop := fnExactHeaviestImageRow.holds Try.pinned (OpenSpec.ofChange fnExactHeaviestImageSpec)

/-- ITS FALSE NEIGHBOUR: 'it returns false'. Refute it at one input. -/
def fnExactHeaviestImageWrong : ChangeSpec := { name := "fnExactHeaviestImage", fn := fun _ => fun
  | [d1, d2, d3] => { results := [.lit (.bool false)], args := [d1, d2, d3] }
  | _ => none }
def FnExactHeaviestImageWrongFalsely : Prop := fnExactHeaviestImageRow.holds Try.pinned (OpenSpec.ofChange fnExactHeaviestImageWrong)

/-- 'laws.FnExactPricesOk': WHATEVER THE INPUT: true; the input reads as it did. -/
def fnExactPricesOkSpec : ChangeSpec := { name := "fnExactPricesOk", fn := fun _ => fun
  | [d1, d2, d3, d4] => { results := [.lit (.bool true)], args := [d1, d2, d3, d4] }
  | _ => none }
def fnExactPricesOkRow : OpenClaim := { program := "ytldbgkmgmhlbiaa", sum := "61077a5889abab1cc79c60ec4cbb155652cb5de83ce3f5caae94f87612c9ded3", func := "loop.example/g00860/laws.FnExactPricesOk", spec := "fnExactPricesOk", unfollowed := true, recurses := true, apart := false }
def FnExactPricesOkSaid : Prop := fnExactPricesOkRow.holds Try.pinned (OpenSpec.ofChange fnExactPricesOkSpec)

/-- ITS FALSE NEIGHBOUR: 'it returns false'. Refute it at one input. -/
def fnExactPricesOkWrong : ChangeSpec := { name := "fnExactPricesOk", fn := fun _ => fun
  | [d1, d2, d3, d4] => { results := [.lit (.bool false)], args := [d1, d2, d3, d4] }
  | _ => none }
def FnExactPricesOkWrongFalsely : Prop := fnExactPricesOkRow.holds Try.pinned (OpenSpec.ofChange fnExactPricesOkWrong)

/-- 'laws.FnExactFindPrices': WHATEVER THE INPUT: true; the input reads as it did. -/
def fnExactFindPricesSpec : ChangeSpec := { name := "fnExactFindPrices", fn := fun _ => fun
  | [d1, d2] => { results := [.lit (.bool true)], args := [d1, d2] }
  | _ => none }
def fnExactFindPricesRow : OpenClaim := { program := "ytldbgkmgmhlbiaa", sum := "61077a5889abab1cc79c60ec4cbb155652cb5de83ce3f5caae94f87612c9ded3", func := "loop.example/g00860/laws.FnExactFindPrices", spec := "fnExactFindPrices", unfollowed := true, recurses := true, apart := false }
def FnExactFindPricesSaid : Prop := fnExactFindPricesRow.holds Try.pinned (OpenSpec.ofChange fnExactFindPricesSpec)

/-- ITS FALSE NEIGHBOUR: 'it returns false'. Refute it at one input. -/
def fnExactFindPricesWrong : ChangeSpec := { name := "fnExactFindPrices", fn := fun _ => fun
  | [d1, d2] => { results := [.lit (.bool false)], args := [d1, d2] }
  | _ => none }
def FnExactFindPricesWrongFalsely : Prop := fnExactFindPricesRow.holds Try.pinned (OpenSpec.ofChange fnExactFindPricesWrong)

/- THE SECOND FORM. 'bulk': how many values and letters a reading holds, each counted each time it is reached (what is shared counts as often as it is met; a slice's spare places count too). A statement '..UptoSaid' is the law's where the arguments, and the package variables that the reading takes, are together of bulk at most 1048576: NARROWER than '..Said'. Prove '..Said' where nothing that the law and all that it calls make is longer than what came in: it says more and counts as full. Else prove '..UptoSaid'. A law counts once. -/
mutual
def uptoBulk {H : Type} : DataW H → Nat
  | .lit (.string bytes) => bytes.length + 1
  | .lit _ => 1
  | .nil => 1
  | .ptr d => uptoBulk d + 1
  | .slice elems spare => uptoBulkAll elems + uptoBulkAll spare + 1
  | .agg parts => uptoBulkAll parts + 1
  | .iface _ d => uptoBulk d + 1
  | .map entries => uptoBulkEntries entries + 1
  | .held _ => 1
def uptoBulkAll {H : Type} : List (DataW H) → Nat
  | [] => 0
  | d :: r => uptoBulk d + uptoBulkAll r
def uptoBulkEntries {H : Type} : List (Lit × DataW H) → Nat
  | [] => 0
  | x :: r => uptoBulkEntry x + uptoBulkEntries r
def uptoBulkEntry {H : Type} : Lit × DataW H → Nat
  | (.string bytes, d) => bytes.length + uptoBulk d + 1
  | (_, d) => uptoBulk d + 1
 end
def uptoSmall : (H : Type) → List (DataW H) → Bool := fun _ ds => decide (uptoBulkAll ds ≤ 1048576)
def OpenSpec.upto (s : _root_.Go.ChangeSpec) : _root_.Go.OpenSpec := { _root_.Go.OpenSpec.ofChange s with cond := some uptoSmall }

/-- 'laws.FnExactWeightOk', WHERE WHAT IT READS IS OF BULK AT MOST 1048576: true; the input reads as it did. -/
def fnExactWeightOkUptoRow : OpenClaim := { program := "ytldbgkmgmhlbiaa", sum := "61077a5889abab1cc79c60ec4cbb155652cb5de83ce3f5caae94f87612c9ded3", func := "loop.example/g00860/laws.FnExactWeightOk", spec := "fnExactWeightOk", unfollowed := true, recurses := true, apart := false, narrowed := true }
def FnExactWeightOkUptoSaid : Prop := fnExactWeightOkUptoRow.holds Try.pinned (OpenSpec.upto fnExactWeightOkSpec)

/-- 'laws.FnExactWeightOf', WHERE WHAT IT READS IS OF BULK AT MOST 1048576: true; the input reads as it did. -/
def fnExactWeightOfUptoRow : OpenClaim := { program := "ytldbgkmgmhlbiaa", sum := "61077a5889abab1cc79c60ec4cbb155652cb5de83ce3f5caae94f87612c9ded3", func := "loop.example/g00860/laws.FnExactWeightOf", spec := "fnExactWeightOf", unfollowed := true, recurses := true, apart := false, narrowed := true }
def FnExactWeightOfUptoSaid : Prop := fnExactWeightOfUptoRow.holds Try.pinned (OpenSpec.upto fnExactWeightOfSpec)

/-- 'laws.FnExactHeaviestImage', WHERE WHAT IT READS IS OF BULK AT MOST 1048576: true; the input reads as it did. -/
def fnExactHeaviestImageUptoRow : OpenClaim := { program := "ytldbgkmgmhlbiaa", sum := "61077a5889abab1cc79c60ec4cbb155652cb5de83ce3f5caae94f87612c9ded3", func := "loop.example/g00860/laws.FnExactHeaviestImage", spec := "fnExactHeaviestImage", unfollowed := true, recurses := true, apart := false, narrowed := true }
def FnExactHeaviestImageUptoSaid : Prop := fnExactHeaviestImageUptoRow.holds Try.pinned (OpenSpec.upto fnExactHeaviestImageSpec)

/-- 'laws.FnExactPricesOk', WHERE WHAT IT READS IS OF BULK AT MOST 1048576: true; the input reads as it did. -/
def fnExactPricesOkUptoRow : OpenClaim := { program := "ytldbgkmgmhlbiaa", sum := "61077a5889abab1cc79c60ec4cbb155652cb5de83ce3f5caae94f87612c9ded3", func := "loop.example/g00860/laws.FnExactPricesOk", spec := "fnExactPricesOk", unfollowed := true, recurses := true, apart := false, narrowed := true }
def FnExactPricesOkUptoSaid : Prop := fnExactPricesOkUptoRow.holds Try.pinned (OpenSpec.upto fnExactPricesOkSpec)

/-- 'laws.FnExactFindPrices', WHERE WHAT IT READS IS OF BULK AT MOST 1048576: true; the input reads as it did. -/
def fnExactFindPricesUptoRow : OpenClaim := { program := "ytldbgkmgmhlbiaa", sum := "61077a5889abab1cc79c60ec4cbb155652cb5de83ce3f5caae94f87612c9ded3", func := "loop.example/g00860/laws.FnExactFindPrices", spec := "fnExactFindPrices", unfollowed := true, recurses := true, apart := false, narrowed := true }
def FnExactFindPricesUptoSaid : Prop := fnExactFindPricesUptoRow.holds Try.pinned (OpenSpec.upto fnExactFindPricesSpec)

end Rows
end Go.Proofs.Ytldbgkmgmhlbiaa
