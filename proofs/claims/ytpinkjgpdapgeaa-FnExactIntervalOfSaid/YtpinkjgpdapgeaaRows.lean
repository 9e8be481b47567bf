/-
  No cell of these rows narrows 'for every input' (looked for: loops, veiled, ifaces, maps, wideKeys, modest, calm, conditions, laid).
  DERIVED. THE GIVEN ROWS OF THIS SEAT. 4 by the template 'for every input the law returns true; each argument reads behind the call as it read before'; 0 by the template 'total and deterministic' (their statements: YtpinkjgpdapgeaaTotals.lean).
  GIVEN WITH THE SEED: the statements are not yours to turn. If you find one false, say at which input.
  Laid BY PROGRAM, IN A SANDBOX (cutbox-rows.mjs): the forced cells as the released guide's own fill.sh prints them over the translation 8afa8c052af899d9… (all of the seat's roots in one cut). By AI agents, Wed Nov 11 2026. No macro, syntax, notation, axiom, sorry.
-/
import Derived.Test.YtpinkjgpdapgeaaChecked
import GoSem.Claim
import GoSem.ClaimJoined
import GoSem.ClaimMapViews
import Derived.JoinedTies
import Derived.KernelRfl
namespace Go.Proofs.Ytpinkjgpdapgeaa
/- THE CELL 'sum', in the pinned program and in every row, IS THE sha256 OF THE DUMP (.gsa) THAT YtpinkjgpdapgeaaProg.lean LOADS. Nothing in Lean hashes anything: it is a label: what it is worth is what the hold of that sum in a sandbox is worth. -/
noncomputable def Try.pinned : Pinned := { name := "ytpinkjgpdapgeaa", sum := "8afa8c052af899d906242b79af5c96842c2608f24e76bb10c33a98272a6c40ff", checked := Try.checked }
namespace Rows
def none {H : Type} : Left H := { results := [], args := [] }

/-- 'laws.FnExactIntervalOf': WHATEVER THE INPUT: true; the input reads as it did. -/
def fnExactIntervalOfSpec : ChangeSpec := { name := "fnExactIntervalOf", fn := fun _ => fun
  | [d] => { results := [.lit (.bool true)], args := [d] }
  | _ => none }
def fnExactIntervalOfRow : OpenClaim := { program := "ytpinkjgpdapgeaa", sum := "8afa8c052af899d906242b79af5c96842c2608f24e76bb10c33a98272a6c40ff", func := "loop.example/g00860/laws.FnExactIntervalOf", spec := "fnExactIntervalOf", unfollowed := true, recurses := true, apart := false }
def FnExactIntervalOfSaid : Prop := fnExactIntervalOfRow.holds Try.pinned (OpenSpec.ofChange fnExactIntervalOfSpec)

/-- ITS FALSE NEIGHBOUR: 'it returns false'. Refute it at one input. -/
def fnExactIntervalOfWrong : ChangeSpec := { name := "fnExactIntervalOf", fn := fun _ => fun
  | [d] => { results := [.lit (.bool false)], args := [d] }
  | _ => none }
def FnExactIntervalOfWrongFalsely : Prop := fnExactIntervalOfRow.holds Try.pinned (OpenSpec.ofChange fnExactIntervalOfWrong)

/-- 'laws.FnExactIsHConvex': WHATEVER THE INPUT: true; the input reads as it did. -/
def fnExactIsHConvexSpec : ChangeSpec := { name := "fnExactIsHConvex", fn := fun _ => fun
  | [d] => { results := [.lit (.bool true)], args := [d] }
  | _ => none }
def fnExactIsHConvexRow : OpenClaim := { program := "ytpinkjgpdapgeaa", sum := "8afa8c052af899d906242b79af5c96842c2608f24e76bb10c33a98272a6c40ff", func := "loop.example/g00860/laws.FnExactIsHConvex", spec := "fnExactIsHConvex", unfollowed := true, recurses := true, apart := false }
def FnExactIsHConvexSaid : Prop := fnExactIsHConvexRow.holds Try.pinned (OpenSpec.ofChange fnExactIsHConvexSpec)

/-- ITS FALSE NEIGHBOUR: 'it returns false'. Refute it at one input. -/
def fnExactIsHConvexWrong : ChangeSpec := { name := "fnExactIsHConvex", fn := fun _ => fun
  | [d] => { results := [.lit (.bool false)], args := [d] }
  | _ => none }
def FnExactIsHConvexWrongFalsely : Prop := fnExactIsHConvexRow.holds Try.pinned (OpenSpec.ofChange fnExactIsHConvexWrong)

/-- 'laws.FnExactIsVConvex': WHATEVER THE INPUT: true; the input reads as it did. -/
def fnExactIsVConvexSpec : ChangeSpec := { name := "fnExactIsVConvex", fn := fun _ => fun
  | [d] => { results := [.lit (.bool true)], args := [d] }
  | _ => none }
def fnExactIsVConvexRow : OpenClaim := { program := "ytpinkjgpdapgeaa", sum := "8afa8c052af899d906242b79af5c96842c2608f24e76bb10c33a98272a6c40ff", func := "loop.example/g00860/laws.FnExactIsVConvex", spec := "fnExactIsVConvex", unfollowed := true, recurses := true, apart := false }
def FnExactIsVConvexSaid : Prop := fnExactIsVConvexRow.holds Try.pinned (OpenSpec.ofChange fnExactIsVConvexSpec)

/-- ITS FALSE NEIGHBOUR: 'it returns false'. Refute it at one input. -/
def fnExactIsVConvexWrong : ChangeSpec := { name := "fnExactIsVConvex", fn := fun _ => fun
  | [d] => { results := [.lit (.bool false)], args := [d] }
  | _ => none }
def FnExactIsVConvexWrongFalsely : Prop := fnExactIsVConvexRow.holds Try.pinned (OpenSpec.ofChange fnExactIsVConvexWrong)

/-- 'laws.FnExactIsConvex': WHATEVER THE INPUT: true; the input reads as it did. -/
def fnExactIsConvexSpec : ChangeSpec := { name := "fnExactIsConvex", fn := fun _ => fun
  | [d] => { results := [.lit (.bool true)], args := [d] }
  | _ => none }
def fnExactIsConvexRow : OpenClaim := { program := "ytpinkjgpdapgeaa", sum := "8afa8c052af899d906242b79af5c96842c2608f24e76bb10c33a98272a6c40ff", func := "loop.example/g00860/laws.FnExactIsConvex", spec := "fnExactIsConvex", unfollowed := true, recurses := true, apart := false }
def FnExactIsConvexSaid : Prop := fnExactIsConvexRow.holds Try.pinned (OpenSpec.ofChange fnExactIsConvexSpec)

/-- ITS FALSE NEIGHBOUR: 'it returns false'. Refute it at one input. -/
def fnExactIsConvexWrong : ChangeSpec := { name := "fnExactIsConvex", fn := fun _ => fun
  | [d] => { results := [.lit (.bool false)], args := [d] }
  | _ => none }
def FnExactIsConvexWrongFalsely : Prop := fnExactIsConvexRow.holds Try.pinned (OpenSpec.ofChange fnExactIsConvexWrong)

/- THE SECOND FORM. 'bulk': how many values and letters a reading holds, each counted each time it is reached (what is shared counts as often as it is met; a slice's spare places count too). A statement '..UptoSaid' is the law's where the arguments, and the package variables that the reading takes, are together of bulk at most 1048576: NARROWER than '..Said'. Prove '..Said' where nothing that the law and all that it calls make is longer than what came in: it says more and counts as full. Else prove '..UptoSaid'. A law counts once. -/
mutual
def uptoBulk {H : Type} : DataW H → Nat
  | .lit (.string bytes) => bytes.length + 1
  | .lit _ => 1
  | .nil => 1
  | .ptr d => uptoBulk d + 1
  | .slice elems spare => uptoBulkAll elems + uptoBulkAll spare + 1
  | .agg parts => uptoBulkAll parts + 1
  | .iface _ d => uptoBulk d + 1
  | .map entries => uptoBulkEntries entries + 1
  | .held _ => 1
def uptoBulkAll {H : Type} : List (DataW H) → Nat
  | [] => 0
  | d :: r => uptoBulk d + uptoBulkAll r
def uptoBulkEntries {H : Type} : List (Lit × DataW H) → Nat
  | [] => 0
  | x :: r => uptoBulkEntry x + uptoBulkEntries r
def uptoBulkEntry {H : Type} : Lit × DataW H → Nat
  | (.string bytes, d) => bytes.length + uptoBulk d + 1
  | (_, d) => uptoBulk d + 1
 end
def uptoSmall : (H : Type) → List (DataW H) → Bool := fun _ ds => decide (uptoBulkAll ds ≤ 1048576)
def OpenSpec.upto (s : _root_.Go.ChangeSpec) : _root_.Go.OpenSpec := { _root_.Go.OpenSpec.ofChange s with cond := some uptoSmall }

/-- 'laws.FnExactIntervalOf', WHERE WHAT IT READS IS OF BULK AT MOST 1048576: true; the input reads as it did. -/
def fnExactIntervalOfUptoRow : OpenClaim := { program := "ytpinkjgpdapgeaa", sum := "8afa8c052af899d906242b79af5c96842c2608f24e76bb10c33a98272a6c40ff", func := "loop.example/g00860/laws.FnExactIntervalOf", spec := "fnExactIntervalOf", unfollowed := true, recurses := true, apart := false, narrowed := true }
def FnExactIntervalOfUptoSaid : Prop := fnExactIntervalOfUptoRow.holds Try.pinned (OpenSpec.upto fnExactIntervalOfSpec)

/-- 'laws.FnExactIsHConvex', WHERE WHAT IT READS IS OF BULK AT MOST 1048576: true; the input reads as it did. -/
def fnExactIsHConvexUptoRow : OpenClaim := { program := "ytpinkjgpdapgeaa", sum := "8afa8c052af899d906242b79af5c96842c2608f24e76bb10c33a98272a6c40ff", func := "loop.example/g00860/laws.FnExactIsHConvex", spec := "fnExactIsHConvex", unfollowed := true, recurses := true, apart := false, narrowed := true }
def FnExactIsHConvexUptoSaid : Prop := fnExactIsHConvexUptoRow.holds Try.pinned (OpenSpec.upto fnExactIsHConvexSpec)

/-- 'laws.FnExactIsVConvex', WHERE WHAT IT READS IS OF BULK AT MOST 1048576: true; the input reads as it did. -/
def fnExactIsVConvexUptoRow : OpenClaim := { program := "ytpinkjgpdapgeaa", sum := "8afa8c052af899d906242b79af5c96842c2608f24e76bb10c33a98272a6c40ff", func := "loop.example/g00860/laws.FnExactIsVConvex", spec := "fnExactIsVConvex", unfollowed := true, recurses := true, apart := false, narrowed := true }
def FnExactIsVConvexUptoSaid : Prop := fnExactIsVConvexUptoRow.holds Try.pinned (OpenSpec.upto fnExactIsVConvexSpec)

/-- 'laws.FnExactIsConvex', WHERE WHAT IT READS IS OF BULK AT MOST 1048576: true; the input reads as it did. -/
def fnExactIsConvexUptoRow : OpenClaim := { program := "ytpinkjgpdapgeaa", sum := "8afa8c052af899d906242b79af5c96842c2608f24e76bb10c33a98272a6c40ff", func := "loop.example/g00860/laws.FnExactIsConvex", spec := "fnExactIsConvex", unfollowed := true, recurses := true, apart := false, narrowed := true }
def FnExactIsConvexUptoSaid : Prop := fnExactIsConvexUptoRow.holds Try.pinned (OpenSpec.upto fnExactIsConvexSpec)

end Rows
end Go.Proofs.Ytpinkjgpdapgeaa
