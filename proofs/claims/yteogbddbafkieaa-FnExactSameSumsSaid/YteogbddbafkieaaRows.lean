/-
  No cell of these rows narrows 'for every input' (looked for: loops, veiled, ifaces, maps, wideKeys, modest, calm, conditions, laid).
  DERIVED. THE GIVEN ROWS OF THIS SEAT. 8 by the template 'for every input the law returns true; each argument reads behind the call as it read before'; 0 by the template 'total and deterministic' (their statements: YteogbddbafkieaaTotals.lean).
  GIVEN WITH THE SEED: the statements are not yours to turn. If you find one false, say at which input.
  Laid BY PROGRAM, IN A SANDBOX (cutbox-rows.mjs): the forced cells as the released guide's own fill.sh prints them over the translation d97508aa5056153b… (all of the seat's roots in one cut). By AI agents, Wed Nov 11 2026. No macro, syntax, notation, axiom, sorry.
-/
import Derived.Test.YteogbddbafkieaaChecked
import GoSem.Claim
import GoSem.ClaimJoined
import GoSem.ClaimMapViews
import Derived.JoinedTies
import Derived.KernelRfl
namespace Go.Proofs.Yteogbddbafkieaa
/- THE CELL 'sum', in the pinned program and in every row, IS THE sha256 OF THE DUMP (.gsa) THAT YteogbddbafkieaaProg.lean LOADS. Nothing in Lean hashes anything: it is a label: what it is worth is what the hold of that sum in a sandbox is worth. -/
noncomputable def Try.pinned : Pinned := { name := "yteogbddbafkieaa", sum := "d97508aa5056153b6394ec782188cc5ca56e597def2c8813e22e357df5984e01", checked := Try.checked }
namespace Rows
def none {H : Type} : Left H := { results := [], args := [] }

/-- 'laws.FnExactRowSums': WHATEVER THE INPUT: true; the input reads as it did. -/
def fnExactRowSumsSpec : ChangeSpec := { name := "fnExactRowSums", fn := fun _ => fun
  | [d] => { results := [.lit (.bool true)], args := [d] }
  | _ => none }
def fnExactRowSumsRow : OpenClaim := { program := "yteogbddbafkieaa", sum := "d97508aa5056153b6394ec782188cc5ca56e597def2c8813e22e357df5984e01", func := "loop.example/g00860/laws.FnExactRowSums", spec := "fnExactRowSums", plainKeys := false, apart := false }
def FnExactRowSumsSaid : Prop := fnExactRowSumsRow.holds Try.pinned (OpenSpec.ofChange fnExactRowSumsSpec)

/-- ITS FALSE NEIGHBOUR: 'it returns false'. Refute it at one input. -/
def fnExactRowSumsWrong : ChangeSpec := { name := "fnExactRowSums", fn := fun _ => fun
  | [d] => { results := [.lit (.bool false)], args := [d] }
  | _ => none }
def FnExactRowSumsWrongFalsely : Prop := fnExactRowSumsRow.holds Try.pinned (OpenSpec.ofChange fnExactRowSumsWrong)

/-- 'laws.FnExactColSums': WHATEVER THE INPUT: true; the input reads as it did. -/
def fnExactColSumsSpec : ChangeSpec := { name := "fnExactColSums", fn := fun _ => fun
  | [d] => { results := [.lit (.bool true)], args := [d] }
  | _ => none }
def fnExactColSumsRow : OpenClaim := { program := "yteogbddbafkieaa", sum := "d97508aa5056153b6394ec782188cc5ca56e597def2c8813e22e357df5984e01", func := "loop.example/g00860/laws.FnExactColSums", spec := "fnExactColSums", plainKeys := false, apart := false }
def FnExactColSumsSaid : Prop := fnExactColSumsRow.holds Try.pinned (OpenSpec.ofChange fnExactColSumsSpec)

/-- ITS FALSE NEIGHBOUR: 'it returns false'. Refute it at one input. -/
def fnExactColSumsWrong : ChangeSpec := { name := "fnExactColSums", fn := fun _ => fun
  | [d] => { results := [.lit (.bool false)], args := [d] }
  | _ => none }
def FnExactColSumsWrongFalsely : Prop := fnExactColSumsRow.holds Try.pinned (OpenSpec.ofChange fnExactColSumsWrong)

/-- 'laws.FnExactDirectionOk': WHATEVER THE INPUT: true; the input reads as it did. -/
def fnExactDirectionOkSpec : ChangeSpec := { name := "fnExactDirectionOk", fn := fun _ => fun
  | [d] => { results := [.lit (.bool true)], args := [d] }
  | _ => none }
def fnExactDirectionOkRow : OpenClaim := { program := "yteogbddbafkieaa", sum := "d97508aa5056153b6394ec782188cc5ca56e597def2c8813e22e357df5984e01", func := "loop.example/g00860/laws.FnExactDirectionOk", spec := "fnExactDirectionOk", plainKeys := false, apart := false }
def FnExactDirectionOkSaid : Prop := fnExactDirectionOkRow.holds Try.pinned (OpenSpec.ofChange fnExactDirectionOkSpec)

/-- ITS FALSE NEIGHBOUR: 'it returns false'. Refute it at one input. -/
def fnExactDirectionOkWrong : ChangeSpec := { name := "fnExactDirectionOk", fn := fun _ => fun
  | [d] => { results := [.lit (.bool false)], args := [d] }
  | _ => none }
def FnExactDirectionOkWrongFalsely : Prop := fnExactDirectionOkRow.holds Try.pinned (OpenSpec.ofChange fnExactDirectionOkWrong)

/-- 'laws.FnExactLineOf': WHATEVER THE INPUT: true; the input reads as it did. -/
def fnExactLineOfSpec : ChangeSpec := { name := "fnExactLineOf", fn := fun _ => fun
  | [d1, d2, d3, d4, d5] => { results := [.lit (.bool true)], args := [d1, d2, d3, d4, d5] }
  | _ => none }
def fnExactLineOfRow : OpenClaim := { program := "yteogbddbafkieaa", sum := "d97508aa5056153b6394ec782188cc5ca56e597def2c8813e22e357df5984e01", func := "loop.example/g00860/laws.FnExactLineOf", spec := "fnExactLineOf", plainKeys := false, apart := false }
def FnExactLineOfSaid : Prop := fnExactLineOfRow.holds Try.pinned (OpenSpec.ofChange fnExactLineOfSpec)

/-- ITS FALSE NEIGHBOUR: 'it returns false'. Refute it at one input. -/
def fnExactLineOfWrong : ChangeSpec := { name := "fnExactLineOf", fn := fun _ => fun
  | [d1, d2, d3, d4, d5] => { results := [.lit (.bool false)], args := [d1, d2, d3, d4, d5] }
  | _ => none }
def FnExactLineOfWrongFalsely : Prop := fnExactLineOfRow.holds Try.pinned (OpenSpec.ofChange fnExactLineOfWrong)

/-- 'laws.FnExactCountLines': WHATEVER THE INPUT: true; the input reads as it did. -/
def fnExactCountLinesSpec : ChangeSpec := { name := "fnExactCountLines", fn := fun _ => fun
  | [d1, d2, d3] => { results := [.lit (.bool true)], args := [d1, d2, d3] }
  | _ => none }
def fnExactCountLinesRow : OpenClaim := { program := "yteogbddbafkieaa", sum := "d97508aa5056153b6394ec782188cc5ca56e597def2c8813e22e357df5984e01", func := "loop.example/g00860/laws.FnExactCountLines", spec := "fnExactCountLines", plainKeys := false, apart := false }
def FnExactCountLinesSaid : Prop := fnExactCountLinesRow.holds Try.pinned (OpenSpec.ofChange fnExactCountLinesSpec)

/-- ITS FALSE NEIGHBOUR: 'it returns false'. Refute it at one input. -/
def fnExactCountLinesWrong : ChangeSpec := { name := "fnExactCountLines", fn := fun _ => fun
  | [d1, d2, d3] => { results := [.lit (.bool false)], args := [d1, d2, d3] }
  | _ => none }
def FnExactCountLinesWrongFalsely : Prop := fnExactCountLinesRow.holds Try.pinned (OpenSpec.ofChange fnExactCountLinesWrong)

/-- 'laws.FnExactLineSums': WHATEVER THE INPUT: true; the input reads as it did. -/
def fnExactLineSumsSpec : ChangeSpec := { name := "fnExactLineSums", fn := fun _ => fun
  | [d1, d2] => { results := [.lit (.bool true)], args := [d1, d2] }
  | _ => none }
def fnExactLineSumsRow : OpenClaim := { program := "yteogbddbafkieaa", sum := "d97508aa5056153b6394ec782188cc5ca56e597def2c8813e22e357df5984e01", func := "loop.example/g00860/laws.FnExactLineSums", spec := "fnExactLineSums", plainKeys := false, apart := false }
def FnExactLineSumsSaid : Prop := fnExactLineSumsRow.holds Try.pinned (OpenSpec.ofChange fnExactLineSumsSpec)

/-- ITS FALSE NEIGHBOUR: 'it returns false'. Refute it at one input. -/
def fnExactLineSumsWrong : ChangeSpec := { name := "fnExactLineSums", fn := fun _ => fun
  | [d1, d2] => { results := [.lit (.bool false)], args := [d1, d2] }
  | _ => none }
def FnExactLineSumsWrongFalsely : Prop := fnExactLineSumsRow.holds Try.pinned (OpenSpec.ofChange fnExactLineSumsWrong)

/-- 'laws.FnExactSameSums': WHATEVER THE INPUT: true; the input reads as it did. -/
def fnExactSameSumsSpec : ChangeSpec := { name := "fnExactSameSums", fn := fun _ => fun
  | [d1, d2] => { results := [.lit (.bool true)], args := [d1, d2] }
  | _ => none }
def fnExactSameSumsRow : OpenClaim := { program := "yteogbddbafkieaa", sum := "d97508aa5056153b6394ec782188cc5ca56e597def2c8813e22e357df5984e01", func := "loop.example/g00860/laws.FnExactSameSums", spec := "fnExactSameSums", plainKeys := false, apart := false }
def FnExactSameSumsSaid : Prop := fnExactSameSumsRow.holds Try.pinned (OpenSpec.ofChange fnExactSameSumsSpec)

/-- ITS FALSE NEIGHBOUR: 'it returns false'. Refute it at one input. -/
def fnExactSameSumsWrong : ChangeSpec := { name := "fnExactSameSums", fn := fun _ => fun
  | [d1, d2] => { results := [.lit (.bool false)], args := [d1, d2] }
  | _ => none }
def FnExactSameSumsWrongFalsely : Prop := fnExactSameSumsRow.holds Try.pinned (OpenSpec.ofChange fnExactSameSumsWrong)

/-- 'laws.FnExactSumsOk': WHATEVER THE INPUT: true; the input reads as it did. -/
def fnExactSumsOkSpec : ChangeSpec := { name := "fnExactSumsOk", fn := fun _ => fun
  | [d1, d2] => { results := [.lit (.bool true)], args := [d1, d2] }
  | _ => none }
def fnExactSumsOkRow : OpenClaim := { program := "yteogbddbafkieaa", sum := "d97508aa5056153b6394ec782188cc5ca56e597def2c8813e22e357df5984e01", func := "loop.example/g00860/laws.FnExactSumsOk", spec := "fnExactSumsOk", unfollowed := true, recurses := true, plainKeys := false, apart := false }
def FnExactSumsOkSaid : Prop := fnExactSumsOkRow.holds Try.pinned (OpenSpec.ofChange fnExactSumsOkSpec)

/-- ITS FALSE NEIGHBOUR: 'it returns false'. Refute it at one input. -/
def fnExactSumsOkWrong : ChangeSpec := { name := "fnExactSumsOk", fn := fun _ => fun
  | [d1, d2] => { results := [.lit (.bool false)], args := [d1, d2] }
  | _ => none }
def FnExactSumsOkWrongFalsely : Prop := fnExactSumsOkRow.holds Try.pinned (OpenSpec.ofChange fnExactSumsOkWrong)

/- THE SECOND FORM. 'bulk': how many values and letters a reading holds, each counted each time it is reached (what is shared counts as often as it is met; a slice's spare places count too). A statement '..UptoSaid' is the law's where the arguments, and the package variables that the reading takes, are together of bulk at most 1048576: NARROWER than '..Said'. Prove '..Said' where nothing that the law and all that it calls make is longer than what came in: it says more and counts as full. Else prove '..UptoSaid'. A law counts once. -/
mutual
def uptoBulk {H : Type} : DataW H → Nat
  | .lit (.string bytes) => bytes.length + 1
  | .lit _ => 1
  | .nil => 1
  | .ptr d => uptoBulk d + 1
  | .slice elems spare => uptoBulkAll elems + uptoBulkAll spare + 1
  | .agg parts => uptoBulkAll parts + 1
  | .iface _ d => uptoBulk d + 1
  | .map entries => uptoBulkEntries entries + 1
  | .held _ => 1
def uptoBulkAll {H : Type} : List (DataW H) → Nat
  | [] => 0
  | d :: r => uptoBulk d + uptoBulkAll r
def uptoBulkEntries {H : Type} : List (Lit × DataW H) → Nat
  | [] => 0
  | x :: r => uptoBulkEntry x + uptoBulkEntries r
def uptoBulkEntry {H : Type} : Lit × DataW H → Nat
  | (.string bytes, d) => bytes.length + uptoBulk d + 1
  | (_, d) => uptoBulk d + 1
 end
def uptoSmall : (H : Type) → List (DataW H) → Bool := fun _ ds => decide (uptoBulkAll ds ≤ 1048576)
def OpenSpec.upto (s : _root_.Go.ChangeSpec) : _root_.Go.OpenSpec := { _root_.Go.OpenSpec.ofChange s with cond := some uptoSmall }

/-- 'laws.FnExactRowSums', WHERE WHAT IT READS IS OF BULK AT MOST 1048576: true; the input reads as it did. -/
def fnExactRowSumsUptoRow : OpenClaim := { program := "yteogbddbafkieaa", sum := "d97508aa5056153b6394ec782188cc5ca56e597def2c8813e22e357df5984e01", func := "loop.example/g00860/laws.FnExactRowSums", spec := "fnExactRowSums", plainKeys := false, apart := false, narrowed := true }
def FnExactRowSumsUptoSaid : Prop := fnExactRowSumsUptoRow.holds Try.pinned (OpenSpec.upto fnExactRowSumsSpec)

/-- 'laws.FnExactColSums', WHERE WHAT IT READS IS OF BULK AT MOST 1048576: true; the input reads as it did. -/
def fnExactColSumsUptoRow : OpenClaim := { program := "yteogbddbafkieaa", sum := "d97508aa5056153b6394ec782188cc5ca56e597def2c8813e22e357df5984e01", func := "loop.example/g00860/laws.FnExactColSums", spec := "fnExactColSums", plainKeys := false, apart := false, narrowed := true }
def FnExactColSumsUptoSaid : Prop := fnExactColSumsUptoRow.holds Try.pinned (OpenSpec.upto fnExactColSumsSpec)

/-- 'laws.FnExactDirectionOk', WHERE WHAT IT READS IS OF BULK AT MOST 1048576: true; the input reads as it did. -/
def fnExactDirectionOkUptoRow : OpenClaim := { program := "yteogbddbafkieaa", sum := "d97508aa5056153b6394ec782188cc5ca56e597def2c8813e22e357df5984e01", func := "loop.example/g00860/laws.FnExactDirectionOk", spec := "fnExactDirectionOk", plainKeys := false, apart := false, narrowed := true }
def FnExactDirectionOkUptoSaid : Prop := fnExactDirectionOkUptoRow.holds Try.pinned (OpenSpec.upto fnExactDirectionOkSpec)

/-- 'laws.FnExactLineOf', WHERE WHAT IT READS IS OF BULK AT MOST 1048576: true; the input reads as it did. -/
def fnExactLineOfUptoRow : OpenClaim := { program := "yteogbddbafkieaa", sum := "d97508aa5056153b6394ec782188cc5ca56e597def2c8813e22e357df5984e01", func := "loop.example/g00860/laws.FnExactLineOf", spec := "fnExactLineOf", plainKeys := false, apart := false, narrowed := true }
def FnExactLineOfUptoSaid : Prop := fnExactLineOfUptoRow.holds Try.pinned (OpenSpec.upto fnExactLineOfSpec)

/-- 'laws.FnExactCountLines', WHERE WHAT IT READS IS OF BULK AT MOST 1048576: true; the input reads as it did. -/
def fnExactCountLinesUptoRow : OpenClaim := { program := "yteogbddbafkieaa", sum := "d97508aa5056153b6394ec782188cc5ca56e597def2c8813e22e357df5984e01", func := "loop.example/g00860/laws.FnExactCountLines", spec := "fnExactCountLines", plainKeys := false, apart := false, narrowed := true }
def FnExactCountLinesUptoSaid : Prop := fnExactCountLinesUptoRow.holds Try.pinned (OpenSpec.upto fnExactCountLinesSpec)

/-- 'laws.FnExactLineSums', WHERE WHAT IT READS IS OF BULK AT MOST 1048576: true; the input reads as it did. -/
def fnExactLineSumsUptoRow : OpenClaim := { program := "yteogbddbafkieaa", sum := "d97508aa5056153b6394ec782188cc5ca56e597def2c8813e22e357df5984e01", func := "loop.example/g00860/laws.FnExactLineSums", spec := "fnExactLineSums", plainKeys := false, apart := false, narrowed := true }
def FnExactLineSumsUptoSaid : Prop := fnExactLineSumsUptoRow.holds Try.pinned (OpenSpec.upto fnExactLineSumsSpec)

/-- 'laws.FnExactSameSums', WHERE WHAT IT READS IS OF BULK AT MOST 1048576: true; the input reads as it did. -/
def fnExactSameSumsUptoRow : OpenClaim := { program := "yteogbddbafkieaa", sum := "d97508aa5056153b6394ec782188cc5ca56e597def2c8813e22e357df5984e01", func := "loop.example/g00860/laws.FnExactSameSums", spec := "fnExactSameSums", plainKeys := false, apart := false, narrowed := true }
def FnExactSameSumsUptoSaid : Prop := fnExactSameSumsUptoRow.holds Try.pinned (OpenSpec.upto fnExactSameSumsSpec)

/-- 'laws.FnExactSumsOk', WHERE WHAT IT READS IS OF BULK AT MOST 1048576: true; the input reads as it did. -/
def fnExactSumsOkUptoRow : OpenClaim := { program := "yteogbddbafkieaa", sum := "d97508aa5056153b6394ec782188cc5ca56e597def2c8813e22e357df5984e01", func := "loop.example/g00860/laws.FnExactSumsOk", spec := "fnExactSumsOk", unfollowed := true, recurses := true, plainKeys := false, apart := false, narrowed := true }
def FnExactSumsOkUptoSaid : Prop := fnExactSumsOkUptoRow.holds Try.pinned (OpenSpec.upto fnExactSumsOkSpec)

end Rows
end Go.Proofs.Yteogbddbafkieaa
