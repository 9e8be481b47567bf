/-
  pairsBelow of the program: all pairs of numbers below 5, in order.
-/
import Derived.Test.YtnhijmhambggbaaSwL
namespace Go.Proofs.Ytnhijmhambggbaa
open Go.RowKit

def cellsP (l : List (Nat × Nat)) : List Value := l.flatMap fun p => [.int .i64 (p.1 : Int), .int .i64 (p.2 : Int)]
theorem cellsP_snoc (l : List (Nat × Nat)) (a b : Nat) : cellsP (l ++ [(a, b)]) = cellsP l ++ #[Value.int .i64 (a : Int), .int .i64 (b : Int)].toList := by simp [cellsP]
/-- The pairs up to a number. -/
def upP (k : Nat) : List (Nat × Nat) := ((List.range k).filter fun c => decide (c / 5 < c % 5)).map fun c => (c / 5, c % 5)
theorem upP_yes {k : Nat} (h : k / 5 < k % 5) : upP (k + 1) = upP k ++ [(k / 5, k % 5)] := by
  unfold upP; rw [List.range_succ, List.filter_append, List.map_append]; simp [h]
theorem upP_no {k : Nat} (h : ¬ k / 5 < k % 5) : upP (k + 1) = upP k := by
  unfold upP; rw [List.range_succ, List.filter_append, List.map_append]; simp [h]
theorem upP_skip {k l : Nat} (hkl : k ≤ l) (h : ∀ i, k ≤ i → i < l → ¬ i / 5 < i % 5) : upP l = upP k := by
  induction l with
  | zero => obtain rfl : k = 0 := by omega
            rfl
  | succ l ih =>
    by_cases e : k = l + 1
    · rw [e]
    · rw [upP_no (h l (by omega) (by omega)), ih (by omega) fun i h1 h2 => h i h1 (by omega)]
theorem upP_len (k : Nat) : (upP k).length ≤ k := by
  unfold upP; rw [List.length_map]
  exact Nat.le_trans (List.length_filter_le _ _) (by rw [List.length_range]; exact Nat.le_refl _)
theorem Try.infoPair : (Try.prog.info? 130).map (fun i => (i.zero, i.size, i.bytes)) = some (some (.agg #[.int .i64 0, .int .i64 0]), 2, 16) := by kernel_rfl
def PairsRes (l : List (Nat × Nat)) (w : World) (e : Ending) (w' : World) : Prop := ∃ v, e = .returned v ∧ w'.ownsRow w.heap.size 130 2 v l.length (cellsP l) ∧ Below w.heap.size w w'
set_option maxRecDepth 100000 in
set_option maxHeartbeats 2000000 in
theorem pairsBelow_any (w : World) : Calls Try.prog 117 #[.int .i64 5] w (PairsRes (upP 25) w) := by
  go_enter Try.func117, Try.ntmps117
  go_wp2
  go_loopw [3, 7] (fun u t w' => ∃ (i : Nat) (v : Value), i ≤ 5 ∧ t = .int .i64 i ∧ v = u ∧ w'.ownsRow w.heap.size 130 2 v (upP (5 * i)).length (cellsP (upP (5 * i))) ∧ Below w.heap.size w w') (fun _ t _ => 5 - (intOf t).toNat)
  case atStart => exact ⟨0, _, by omega, rfl, rfl, World.ownsRow_nil _ _ _ _, Below.refl _ _⟩
  case round =>
    obtain ⟨i, v, hi, rfl, rfl, ho, hb⟩ := hrel
    have HO := hide ho; have HB := hide hb
    clear ho hb
    by_cases hlt : i < 5
    · have hiI : (i : Int) < 5 := by omega
      have HSK : Hid (upP (5 * i + (i + 1)) = upP (5 * i)) := hide (upP_skip (by omega) fun c h1 h2 => by omega)
      rw [← HSK.out] at HO
      clear HSK
      go_wp2
      go_loopw [3, 5] (fun u t w' => ∃ (j : Nat) (v : Value), (i + 1 ≤ j ∧ j ≤ 5) ∧ t = .int .i64 j ∧ v = u ∧ w'.ownsRow w.heap.size 130 2 v (upP (5 * i + j)).length (cellsP (upP (5 * i + j))) ∧ Below w.heap.size w w') (fun _ t _ => 5 - (intOf t).toNat)
      case atStart => exact ⟨i + 1, _, by omega, by go_num, rfl, HO.out, HB.out⟩
      case round =>
        clear HO HB
        obtain ⟨j, v, ⟨hj1, hj⟩, rfl, rfl, ho, hb⟩ := hrel
        have HO := hide ho; have HB := hide hb
        clear ho hb
        by_cases hlj : j < 5
        · have hjI : (j : Int) < 5 := by omega
          have HL := hide (upP_len (5 * i + j))
          have HST : Hid (upP (5 * i + (j + 1)) = upP (5 * i + j) ++ [(i, j)]) := hide (by
            have := upP_yes (k := 5 * i + j) (by omega)
            rw [show (5 * i + j) / 5 = i by omega, show (5 * i + j) % 5 = j by omega] at this
            rw [← Nat.add_assoc, this])
          have hwr := HB.out.size
          obtain ⟨va, vc, hvv⟩ := ownA_slice HO.out
          obtain ⟨n, hn⟩ : ∃ n, n = (upP (5 * i + j)).length := ⟨_, rfl⟩
          have HN := hide hn
          rw [← hn] at HO HL hvv
          clear hn
          subst hvv
          go_wp2_with (first | (with_reducible refine wpList_buildOneA #[.int .i64 (i : Int), .int .i64 (j : Int)] _ 21 rfl rfl _ rfl rfl Try.underlying133 Try.infoPair (by decide) (by decide) rfl ?_) | (at_builtin; refine wpList_pushA HO.out #[.int .i64 (i : Int), .int .i64 (j : Int)] _ rfl _ _ rfl Try.underlying133 Try.infoPair rfl (by decide) (by decide) rfl rfl rfl (by simp [Value.oneCell']) (by have := HL.out; omega) hwr ?_; intro g cap w6 hown hb6 hg6 hat6 hlt6))
          go_roundw
          case rel =>
            refine ⟨j + 1, _, by omega, by go_num, rfl, ?_, HB.out.trans (hb6.mono (Nat.le_refl _))⟩
            rw [HST.out, cellsP_snoc, List.length_append, ← HN.out]
            exact hown
          case measure => simp [intOf]; omega
        · obtain rfl : j = 5 := by omega
          go_wp2
          go_roundw
          case rel => exact ⟨i + 1, _, by omega, by go_num, rfl, HO.out, HB.out⟩
          case measure => simp [intOf]; omega
    · obtain rfl : i = 5 := by omega
      go_wp2
      go_ret
      exact ⟨_, rfl, HO.out, HB.out⟩
end Go.Proofs.Ytnhijmhambggbaa
