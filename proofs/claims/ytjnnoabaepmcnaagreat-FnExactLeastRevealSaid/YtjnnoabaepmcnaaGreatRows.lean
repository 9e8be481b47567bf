/-
  No cell of these rows narrows 'for every input' (looked for: loops, veiled, ifaces, maps, wideKeys, modest, calm, conditions, laid).
  DERIVED. THE GIVEN ROWS OF THIS SEAT. 3 by the template 'for every input the law returns true; each argument reads behind the call as it read before'; 0 by the template 'total and deterministic' (their statements: YtjnnoabaepmcnaaGreatTotals.lean).
  GIVEN WITH THE SEED: the statements are not yours to turn. If you find one false, say at which input.
  Laid BY PROGRAM, IN A SANDBOX (cutbox-rows.mjs): the forced cells as the released guide's own fill.sh prints them over the translation 57d3a34f3d426649… (all of the seat's roots in one cut). By AI agents, Wed Nov 11 2026. No macro, syntax, notation, axiom, sorry.
-/
import Derived.Test.YtjnnoabaepmcnaaGreatChecked
import GoSem.Claim
import GoSem.ClaimJoined
import GoSem.ClaimMapViews
import Derived.JoinedTies
import Derived.KernelRfl
namespace Go.Proofs.YtjnnoabaepmcnaaGreat
/- THE CELL 'sum', in the pinned program and in every row, IS THE sha256 OF THE DUMP (.gsa) THAT YtjnnoabaepmcnaaGreatProg.lean LOADS. Nothing in Lean hashes anything: it is a label: what it is worth is what the hold of that sum in a sandbox is worth. -/
noncomputable def Tryz.pinned : Pinned := { name := "ytjnnoabaepmcnaagreat", sum := "57d3a34f3d4266498e078fc11292fd09ae8e861329d6eb104225360fa7d7b36f", checked := Tryz.checked }
namespace Rows
def none {H : Type} : Left H := { results := [], args := [] }

/-- 'laws.FnExactCountAgreeing': WHATEVER THE INPUT: true; the input reads as it did. -/
def fnExactCountAgreeingSpec : ChangeSpec := { name := "fnExactCountAgreeing", fn := fun _ => fun
  | [d1, d2] => { results := [.lit (.bool true)], args := [d1, d2] }
  | _ => none }
def fnExactCountAgreeingRow : OpenClaim := { program := "ytjnnoabaepmcnaagreat", sum := "57d3a34f3d4266498e078fc11292fd09ae8e861329d6eb104225360fa7d7b36f", func := "loop.example/g00860/laws.FnExactCountAgreeing", spec := "fnExactCountAgreeing", unfollowed := true, recurses := true, plainKeys := false, apart := false }
def FnExactCountAgreeingSaid : Prop := fnExactCountAgreeingRow.holds Tryz.pinned (OpenSpec.ofChange fnExactCountAgreeingSpec)

/-- ITS FALSE NEIGHBOUR: 'it returns false'. Refute it at one input. -/
def fnExactCountAgreeingWrong : ChangeSpec := { name := "fnExactCountAgreeing", fn := fun _ => fun
  | [d1, d2] => { results := [.lit (.bool false)], args := [d1, d2] }
  | _ => none }
def FnExactCountAgreeingWrongFalsely : Prop := fnExactCountAgreeingRow.holds Tryz.pinned (OpenSpec.ofChange fnExactCountAgreeingWrong)

/-- 'laws.FnExactIsEnough': WHATEVER THE INPUT: true; the input reads as it did. -/
def fnExactIsEnoughSpec : ChangeSpec := { name := "fnExactIsEnough", fn := fun _ => fun
  | [d1, d2] => { results := [.lit (.bool true)], args := [d1, d2] }
  | _ => none }
def fnExactIsEnoughRow : OpenClaim := { program := "ytjnnoabaepmcnaagreat", sum := "57d3a34f3d4266498e078fc11292fd09ae8e861329d6eb104225360fa7d7b36f", func := "loop.example/g00860/laws.FnExactIsEnough", spec := "fnExactIsEnough", unfollowed := true, recurses := true, plainKeys := false, apart := false }
def FnExactIsEnoughSaid : Prop := fnExactIsEnoughRow.holds Tryz.pinned (OpenSpec.ofChange fnExactIsEnoughSpec)

/-- ITS FALSE NEIGHBOUR: 'it returns false'. Refute it at one input. -/
def fnExactIsEnoughWrong : ChangeSpec := { name := "fnExactIsEnough", fn := fun _ => fun
  | [d1, d2] => { results := [.lit (.bool false)], args := [d1, d2] }
  | _ => none }
def FnExactIsEnoughWrongFalsely : Prop := fnExactIsEnoughRow.holds Tryz.pinned (OpenSpec.ofChange fnExactIsEnoughWrong)

/-- 'laws.FnExactLeastReveal': WHATEVER THE INPUT: true; the input reads as it did. -/
def fnExactLeastRevealSpec : ChangeSpec := { name := "fnExactLeastReveal", fn := fun _ => fun
  | [d] => { results := [.lit (.bool true)], args := [d] }
  | _ => none }
def fnExactLeastRevealRow : OpenClaim := { program := "ytjnnoabaepmcnaagreat", sum := "57d3a34f3d4266498e078fc11292fd09ae8e861329d6eb104225360fa7d7b36f", func := "loop.example/g00860/laws.FnExactLeastReveal", spec := "fnExactLeastReveal", unfollowed := true, recurses := true, plainKeys := false, apart := false }
def FnExactLeastRevealSaid : Prop := fnExactLeastRevealRow.holds Tryz.pinned (OpenSpec.ofChange fnExactLeastRevealSpec)

/-- ITS FALSE NEIGHBOUR: 'it returns false'. Refute it at one input. -/
def fnExactLeastRevealWrong : ChangeSpec := { name := "fnExactLeastReveal", fn := fun _ => fun
  | [d] => { results := [.lit (.bool false)], args := [d] }
  | _ => none }
def FnExactLeastRevealWrongFalsely : Prop := fnExactLeastRevealRow.holds Tryz.pinned (OpenSpec.ofChange fnExactLeastRevealWrong)

/- THE SECOND FORM. 'bulk': how many values and letters a reading holds, each counted each time it is reached (what is shared counts as often as it is met; a slice's spare places count too). A statement '..UptoSaid' is the law's where the arguments, and the package variables that the reading takes, are together of bulk at most 1048576: NARROWER than '..Said'. Prove '..Said' where nothing that the law and all that it calls make is longer than what came in: it says more and counts as full. Else prove '..UptoSaid'. A law counts once. -/
mutual
def uptoBulk {H : Type} : DataW H → Nat
  | .lit (.string bytes) => bytes.length + 1
  | .lit _ => 1
  | .nil => 1
  | .ptr d => uptoBulk d + 1
  | .slice elems spare => uptoBulkAll elems + uptoBulkAll spare + 1
  | .agg parts => uptoBulkAll parts + 1
  | .iface _ d => uptoBulk d + 1
  | .map entries => uptoBulkEntries entries + 1
  | .held _ => 1
def uptoBulkAll {H : Type} : List (DataW H) → Nat
  | [] => 0
  | d :: r => uptoBulk d + uptoBulkAll r
def uptoBulkEntries {H : Type} : List (Lit × DataW H) → Nat
  | [] => 0
  | x :: r => uptoBulkEntry x + uptoBulkEntries r
def uptoBulkEntry {H : Type} : Lit × DataW H → Nat
  | (.string bytes, d) => bytes.length + uptoBulk d + 1
  | (_, d) => uptoBulk d + 1
 end
def uptoSmall : (H : Type) → List (DataW H) → Bool := fun _ ds => decide (uptoBulkAll ds ≤ 1048576)
def OpenSpec.upto (s : _root_.Go.ChangeSpec) : _root_.Go.OpenSpec := { _root_.Go.OpenSpec.ofChange s with cond := some uptoSmall }

/-- 'laws.FnExactCountAgreeing', WHERE WHAT IT READS IS OF BULK AT MOST 1048576: true; the input reads as it did. -/
def fnExactCountAgreeingUptoRow : OpenClaim := { program := "ytjnnoabaepmcnaagreat", sum := "57d3a34f3d4266498e078fc11292fd09ae8e861329d6eb104225360fa7d7b36f", func := "loop.example/g00860/laws.FnExactCountAgreeing", spec := "fnExactCountAgreeing", unfollowed := true, recurses := true, plainKeys := false, apart := false, narrowed := true }
def FnExactCountAgreeingUptoSaid : Prop := fnExactCountAgreeingUptoRow.holds Tryz.pinned (OpenSpec.upto fnExactCountAgreeingSpec)

/-- 'laws.FnExactIsEnough', WHERE WHAT IT READS IS OF BULK AT MOST 1048576: true; the input reads as it did. -/
def fnExactIsEnoughUptoRow : OpenClaim := { program := "ytjnnoabaepmcnaagreat", sum := "57d3a34f3d4266498e078fc11292fd09ae8e861329d6eb104225360fa7d7b36f", func := "loop.example/g00860/laws.FnExactIsEnough", spec := "fnExactIsEnough", unfollowed := true, recurses := true, plainKeys := false, apart := false, narrowed := true }
def FnExactIsEnoughUptoSaid : Prop := fnExactIsEnoughUptoRow.holds Tryz.pinned (OpenSpec.upto fnExactIsEnoughSpec)

/-- 'laws.FnExactLeastReveal', WHERE WHAT IT READS IS OF BULK AT MOST 1048576: true; the input reads as it did. -/
def fnExactLeastRevealUptoRow : OpenClaim := { program := "ytjnnoabaepmcnaagreat", sum := "57d3a34f3d4266498e078fc11292fd09ae8e861329d6eb104225360fa7d7b36f", func := "loop.example/g00860/laws.FnExactLeastReveal", spec := "fnExactLeastReveal", unfollowed := true, recurses := true, plainKeys := false, apart := false, narrowed := true }
def FnExactLeastRevealUptoSaid : Prop := fnExactLeastRevealUptoRow.holds Tryz.pinned (OpenSpec.upto fnExactLeastRevealSpec)

end Rows
end Go.Proofs.YtjnnoabaepmcnaaGreat
