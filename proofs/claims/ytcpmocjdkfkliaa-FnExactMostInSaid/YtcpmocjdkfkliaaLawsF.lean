/-
  The exact laws of chapter 5.
-/
import Derived.Test.YtcpmocjdkfkliaaLawsE
import Derived.Test.YtcpmocjdkfkliaaMost
namespace Go.Proofs.Ytcpmocjdkfkliaa
open Go.RowKit
set_option linter.unusedVariables false

theorem lawConjugateOf_walk (a : Option Addr) (n c : Nat) (r : List Int) (m : Int) (w : World) (hin : InRow w (.slice a n c) r) (_ : (Lit.int .i64 m).wf = true) :
    Calls Try.prog 3 #[.slice a n c, .int .i64 m] w fun e w' => e = .returned (.bool true) ∧ Below w.heap.size w w' :=
  lawConjugateOf_gen a n c r m w hin (conjRes r m)
    (fun _ => by
      by_cases h : conjOk r m = true
      · rw [conjRes, if_pos h, conjL, tabL_len]; have := (conjOk_yes h).1; omega
      · rw [conjRes, if_neg h]; exact Nat.zero_le _)
    (fun _ v w h => specConj_any v r m w h) (fun _ v w h => implConj_any v r m w h)
theorem lawSortedDown_walk (a : Option Addr) (n c : Nat) (r : List Int) (w : World) (hin : InRow w (.slice a n c) r) :
    Calls Try.prog 4 #[.slice a n c] w fun e w' => e = .returned (.bool true) ∧ Below w.heap.size w w' :=
  lawSortedDown_gen a n c r w hin (sortD r) (fun h => by rw [sortD_len]; exact h) (fun hl v w h => specSortedDown_any v r w h hl) (fun hl v w h => implSortedDown_any v r w h hl)
theorem lawWorstColumns_walk (a : Option Addr) (n c : Nat) (r : List Int) (b : Option Addr) (k d : Nat) (s : List Int) (w : World) (hin : InRow w (.slice a n c) r) (hin2 : InRow w (.slice b k d) s) :
    Calls Try.prog 5 #[.slice a n c, .slice b k d] w fun e w' => e = .returned (.bool true) ∧ Below w.heap.size w w' :=
  lawWorstColumns_gen a n c r b k d s w hin hin2 (worstOf r s) (fun _ _ u v w h1 h2 => specWorst_any u v r s w h1 h2) (fun _ _ u v w h1 h2 => implWorst_any u v r s w h1 h2)
theorem lawExists_walk (a : Option Addr) (n c : Nat) (r : List Int) (b : Option Addr) (k d : Nat) (s : List Int) (w : World) (hin : InRow w (.slice a n c) r) (hin2 : InRow w (.slice b k d) s) :
    Calls Try.prog 6 #[.slice a n c, .slice b k d] w fun e w' => e = .returned (.bool true) ∧ Below w.heap.size w w' :=
  lawExists_gen a n c r b k d s w hin hin2 (existsOf r s) (fun _ _ u v w h1 h2 => specExists_any u v r s w h1 h2) (fun _ _ u v w h1 h2 => implExists_any u v r s w h1 h2)
theorem lawMostIn_walk (a : Option Addr) (n c : Nat) (r : List Int) (m1 m2 : Int) (w : World) (hin : InRow w (.slice a n c) r) (_ : (Lit.int .i64 m1).wf = true) (_ : (Lit.int .i64 m2).wf = true) :
    Calls Try.prog 7 #[.slice a n c, .int .i64 m1, .int .i64 m2] w fun e w' => e = .returned (.bool true) ∧ Below w.heap.size w w' :=
  lawMostIn_gen a n c r m1 m2 w hin (mostOf r m1 m2) (fun _ v w h => specMost_any v r m1 m2 w h) (fun _ v w h => implMost_any v r m1 m2 w h)
theorem lawSlackOf_walk (a : Option Addr) (n c : Nat) (r : List Int) (b : Option Addr) (k d : Nat) (s : List Int) (w : World) (hin : InRow w (.slice a n c) r) (hin2 : InRow w (.slice b k d) s) :
    Calls Try.prog 8 #[.slice a n c, .slice b k d] w fun e w' => e = .returned (.bool true) ∧ Below w.heap.size w w' :=
  lawSlackOf_gen a n c r b k d s w hin hin2 (slackOf r s) (fun _ _ u v w h1 h2 => specSlack_any u v r s w h1 h2) (fun _ _ u v w h1 h2 => implSlack_any u v r s w h1 h2)
end Go.Proofs.Ytcpmocjdkfkliaa
