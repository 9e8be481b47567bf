/-
  The exact law on StaircaseOf, out of the contracts.
-/
import Derived.Test.YtecfigjkcpbggaaLawsB
import Derived.Test.YtecfigjkcpbggaaStair
namespace Go.Proofs.Ytecfigjkcpbggaa
open Go.RowKit
set_option linter.unusedVariables false

theorem cells_small : ∀ (m : List (List Int)), (∀ r ∈ m, r.length ≤ 5) → cellsM m ≤ 5 * m.length
  | [], _ => by simp [cellsM]
  | r :: m, h => by
    have h1 := cells_small m fun q hq => h q (List.mem_cons_of_mem _ hq)
    have h2 := h r List.mem_cons_self
    simp only [cellsM, List.map_cons, List.sum_cons, List.length_cons] at h1 ⊢
    omega
theorem rows_small {m : List (List Int)} (h1 : m.length ≤ 5) (h2 : ∀ r ∈ m, r.length ≤ 5) : m.length + cellsM m ≤ 1000000 := by
  have := cells_small m h2
  omega
theorem lawStaircaseOf_walk (a : Option Addr) (n c : Nat) (r : List Int) (m : Int) (w : World) (hin : InRow w (.slice a n c) r) (_hm : (Lit.int .i64 m).wf = true) :
    Calls Try.prog 7 #[.slice a n c, .int .i64 m] w fun e w' => e = .returned (.bool true) ∧ Below w.heap.size w w' := by
  refine lawStaircaseOf_gen a n c r m w hin (stairRes r m) ?_ (fun v w hv => specStair_any v r m w hv) (fun v w hv => implStair_any v r m w hv)
  unfold stairRes
  cases h : conjOk r m with
  | true =>
    obtain ⟨h1, h2, -⟩ := conjOk_yes h
    rw [if_pos rfl]
    refine rows_small (by rw [mkM_len]; exact h2) fun q hq => ?_
    simp only [mkM, List.mem_map] at hq
    obtain ⟨y, -, rfl⟩ := hq
    rw [rowF_len]; omega
  | false => rw [if_neg (by decide)]; decide
end Go.Proofs.Ytecfigjkcpbggaa
