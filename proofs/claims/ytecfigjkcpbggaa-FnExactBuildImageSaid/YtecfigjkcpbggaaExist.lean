/-
  WorstColumns, Exists, SlackOf of the program and of the model.
-/
import Derived.Test.YtecfigjkcpbggaaMin
namespace Go.Proofs.Ytecfigjkcpbggaa
open Go.RowKit

theorem firstB_range : ∀ (l : List (Int × Int)) (k : Int), 0 ≤ k → -1 ≤ firstB l k ∧ firstB l k < k + l.length ∨ firstB l k = -1
  | [], _, _ => .inr rfl
  | b :: l, k, h => by
    rw [firstB]
    by_cases e : b.2 - b.1 < 0
    · rw [if_pos e]; left; rw [List.length_cons]; omega
    · rw [if_neg e]
      have := firstB_range l (k + 1) (by omega)
      rw [List.length_cons]; omega
theorem boundsL_len (r c : List Int) : (boundsL r c).length = c.length := by rw [boundsL, tabB_len]
theorem boundsL_small {r c : List Int} (h : sumsOk r c = true) : SmallB (boundsL r c) := by
  obtain ⟨hr, hc, -, hcb, -⟩ := sumsOk_yes h
  exact smallB_tab _ (small_perm (sortD_perm c) (small_of (m := r.length) hc.2 (by omega) hcb)) (small_conj hr.2 hc.2)
/-- What WorstColumns, Exists, SlackOf return. -/
def worstOf (r c : List Int) : Int := if sumsOk r c = true then firstB (boundsL r c) 0 + 1 else 0
def existsOf (r c : List Int) : Bool := sumsOk r c && decide (worstOf r c = 0)
def slack0 (bs : List (Int × Int)) : Int := minB (bs.drop 1) ((bs.headD (0, 0)).2 - (bs.headD (0, 0)).1)
def slackOf (r c : List Int) : Int := if existsOf r c = true then slack0 (boundsL r c) else -1
theorem slack0_at {bs : List (Int × Int)} (h : 0 < bs.length) : slack0 bs = minB (bs.drop 1) (bs[0].2 - bs[0].1) := by
  cases bs with
  | nil => exact absurd h (Nat.lt_irrefl 0)
  | cons b l => rfl

set_option maxHeartbeats 400000 in
theorem implWorst_any (va vb : Value) (r c : List Int) (w : World) (ha : InRow w va r) (hb : InRow w vb c) :
    Calls Try.prog 51 #[va, vb] w fun e w' => e = .returned (.int .i64 (worstOf r c)) ∧ Below w.heap.size w w' := by
  have HA := hide ha; have HB := hide hb
  clear ha hb
  cases h : sumsOk r c with
  | false =>
    rw [worstOf, if_neg (by rw [h]; decide)]
    have H := hide h
    clear h
    go_enter Try.func51, Try.ntmps51
    go_wp2_with ((with_reducible refine (implSumsOk_any va vb r c _ HA.out HB.out).mono ?_); rw [H.out]; rintro e w1 ⟨rfl, b1⟩; have B1 := hide b1; clear b1)
    go_ret
    exact ⟨rfl, B1.out⟩
  | true =>
    rw [worstOf, if_pos h]
    have H := hide h
    have HS := hide (boundsL_small h)
    have HL : Hid ((boundsL r c).length ≤ 5) := hide (by rw [boundsL_len]; exact (sumsOk_yes h).2.1.2)
    have hfr := firstB_range (boundsL r c) 0 (Int.le_refl 0)
    have hl := HL.out
    obtain ⟨F, hF⟩ : ∃ F, F = firstB (boundsL r c) 0 := ⟨_, rfl⟩
    have HF := hide hF
    rw [← hF] at hfr ⊢
    have hf1 : -1 ≤ F ∧ F ≤ 5 := by omega
    obtain ⟨hf1, hf2⟩ := hf1
    clear h hF hfr hl
    go_enter Try.func51, Try.ntmps51
    go_wp2_with (first | ((with_reducible refine (implSumsOk_any va vb r c _ HA.out HB.out).mono ?_); rw [H.out]; rintro e w1 ⟨rfl, b1⟩; have B1 := hide b1; clear b1) | ((with_reducible refine (boundsOf_any va vb r c _ (inRow_below HA.out B1.out) (inRow_below HB.out B1.out) H.out).mono ?_); rintro e w2 ⟨u, rfl, hi, b2⟩; have HI := hide hi; have B2 := hide (B1.out.trans (b2.mono B1.out.size)); clear hi b2) | ((with_reducible refine (indexBroken_any _ (boundsL r c) _ HI.out HS.out HL.out).mono ?_); rw [← HF.out]; rintro e w3 ⟨rfl, b3⟩; have B3 := hide (B2.out.trans (b3.mono B2.out.size)); clear b3))
    go_ret
    exact ⟨rfl, B3.out⟩
set_option maxHeartbeats 400000 in
theorem implExists_any (va vb : Value) (r c : List Int) (w : World) (ha : InRow w va r) (hb : InRow w vb c) :
    Calls Try.prog 28 #[va, vb] w fun e w' => e = .returned (.bool (existsOf r c)) ∧ Below w.heap.size w w' := by
  have HA := hide ha; have HB := hide hb
  clear ha hb
  cases h : sumsOk r c with
  | false =>
    rw [existsOf, h]
    have H := hide h
    clear h
    go_enter Try.func28, Try.ntmps28
    go_wp2_with ((with_reducible refine (implSumsOk_any va vb r c _ HA.out HB.out).mono ?_); rw [H.out]; rintro e w1 ⟨rfl, b1⟩; have B1 := hide b1; clear b1)
    go_ret
    exact ⟨rfl, B1.out⟩
  | true =>
    rw [existsOf, h]
    have H := hide h
    obtain ⟨F, hF⟩ : ∃ F, F = worstOf r c := ⟨_, rfl⟩
    have HF := hide hF
    rw [← hF]
    clear h hF
    go_enter Try.func28, Try.ntmps28
    go_wp2_with (first | ((with_reducible refine (implSumsOk_any va vb r c _ HA.out HB.out).mono ?_); rw [H.out]; rintro e w1 ⟨rfl, b1⟩; have B1 := hide b1; clear b1) | ((with_reducible refine (implWorst_any va vb r c _ (inRow_below HA.out B1.out) (inRow_below HB.out B1.out)).mono ?_); rw [← HF.out]; rintro e w2 ⟨rfl, b2⟩; have B2 := hide (B1.out.trans (b2.mono B1.out.size)); clear b2))
    go_ret
    exact ⟨ret_bool (by by_cases e : F = 0 <;> simp [e]), B2.out⟩
end Go.Proofs.Ytecfigjkcpbggaa
