/-
  The exact law on BuildImage, out of the contracts.
-/
import Derived.Test.YtecfigjkcpbggaaLawsBL
import Derived.Test.YtecfigjkcpbggaaLawsStair
import Derived.Test.YtecfigjkcpbggaaBuildI
namespace Go.Proofs.Ytecfigjkcpbggaa
open Go.RowKit
set_option linter.unusedVariables false

theorem lawBuildImage_walk (a : Option Addr) (n c : Nat) (r : List Int) (b : Option Addr) (k d : Nat) (s : List Int) (w : World) (hin : InRow w (.slice a n c) r) (hin2 : InRow w (.slice b k d) s) :
    Calls Try.prog 3 #[.slice a n c, .slice b k d] w fun e w' => e = .returned (.bool true) ∧ Below w.heap.size w w' := by
  refine lawBuildImage_gen a n c r b k d s w hin hin2 (if existsOf r s = true then imgL greedyCh r s else []) (existsOf r s) ?_ (fun v u w hv hu => specBuild_any v u r s w hv.1 hu.1) (fun v u w hv hu => implBuild_any v u r s w hv hu)
  cases h : existsOf r s with
  | true =>
    obtain ⟨hr, hc, -⟩ := sumsOk_yes (existsOf_sums h)
    rw [if_pos rfl]
    refine rows_small (by rw [imgL_len]; exact hr.2) fun q hq => ?_
    rw [imgL_rows greedyCh s.length (fun r c hc => by rw [greedyCh, topRow_len]; exact hc) r s rfl q hq]; exact hc.2
  | false => rw [if_neg (by decide)]; decide
end Go.Proofs.Ytecfigjkcpbggaa
