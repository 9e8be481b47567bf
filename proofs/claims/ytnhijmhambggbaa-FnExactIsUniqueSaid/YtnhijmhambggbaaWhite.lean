/-
  whiteImage.
-/
import Derived.Test.YtnhijmhambggbaaVec
namespace Go.Proofs.Ytnhijmhambggbaa
open Go.RowKit

def whiteF (r c : Int) (i : Nat) : Int := if r ≤ (i / 5 : Nat) ∨ c ≤ (i % 5 : Nat) then -1 else 0
def upF (F : Nat → Int) (k : Nat) (i : Nat) : Int := if i < k then F i else 0
theorem Try.zeroImg (w : World) : (zeroValue 88).run Try.prog w = .ok (.agg (vec 25 fun _ => 0)) w := Try.zeroValue88 w
theorem Try.zeroRow (w : World) : (zeroValue 86).run Try.prog w = .ok (.agg (vec 5 fun _ => 0)) w := Try.zeroValue86 w
theorem Try.sizeImg : (Try.prog.info? 88).map (·.size) = some 25 := by kernel_rfl
theorem Try.sizeRow : (Try.prog.info? 86).map (·.size) = some 5 := by kernel_rfl

theorem upF_zero (F : Nat → Int) : upF F 0 = fun _ => 0 := by funext i; simp [upF]
theorem upF_set (F : Nat → Int) (k : Nat) (v : Int) (h : F k = v) : (fun j => if j = k then v else upF F k j) = upF F (k + 1) := by
  funext j
  simp only [upF]
  by_cases e : j = k
  · subst e; simp [h]
  · rw [if_neg e]
    by_cases hl : j < k
    · rw [if_pos hl, if_pos (by omega)]
    · rw [if_neg hl, if_neg (by omega)]
theorem upF_skip (F : Nat → Int) (k : Nat) (h : F k = 0) : upF F k = upF F (k + 1) := by
  funext j
  simp only [upF]
  by_cases hl : j < k
  · rw [if_pos hl, if_pos (by omega)]
  · by_cases e : j = k
    · subst e; simp [h]
    · rw [if_neg hl, if_neg (by omega)]
theorem upF_all (F : Nat → Int) (n k : Nat) (h : n ≤ k) : ∀ i, i < n → upF F k i = F i := fun i hi => by rw [upF, if_pos (by omega)]
theorem whiteF_at (r c : Int) (y x : Nat) (h : x < 5) : whiteF r c (5 * y + x) = if r ≤ (y : Nat) ∨ c ≤ (x : Nat) then -1 else 0 := by
  rw [whiteF, show (5 * y + x) / 5 = y by omega, show (5 * y + x) % 5 = x by omega]

set_option maxHeartbeats 400000 in
theorem whiteImage_any (r c : Int) (w : World) :
    Calls Try.prog 110 #[.int .i64 r, .int .i64 c] w fun e w' => e = .returned (.agg (vec 25 (whiteF r c))) ∧ Below w.heap.size w w' := by
  go_enter Try.func110, Try.ntmps110
  go_wp2_with (first | (with_reducible refine wpList_allocVec 25 4 rfl rfl rfl Try.zeroImg ?_; intro w1 h1 b1 s1) | (with_reducible refine wpList_allocVec 25 5 rfl rfl rfl Try.zeroImg ?_; intro w2 h2 b2 s2))
  rw [s1] at h2
  have b1' := b1.trans (b2.mono (by omega))
  have h1 := blk_below h1 b2
  have s2 : w2.heap.size = w.heap.size + 2 := by omega
  clear b1 s1 b2
  go_loopw [8] (fun i w' => ∃ y : Nat, y ≤ 5 ∧ i = .int .i64 y ∧ Blk w' (w.heap.size + 1) 88 25 (upF (whiteF r c) (5 * y)) ∧ Blk w' w.heap.size 88 25 (fun _ => 0) ∧ Below w.heap.size w w') (fun i _ => 5 - (intOf i).toNat)
  case atStart => exact ⟨0, by omega, rfl, by rw [Nat.mul_zero, upF_zero]; exact h2, h1, b1'⟩
  case round =>
    clear h1 h2 b1' s2
    obtain ⟨y, hy, rfl, hp, hr, hb⟩ := hrel
    by_cases hlt : y < 5
    · have hyI : (y : Int) < 5 := by omega
      go_wp2
      go_loopw [11] (fun i w' => ∃ x : Nat, x ≤ 5 ∧ i = .int .i64 x ∧ Blk w' (w.heap.size + 1) 88 25 (upF (whiteF r c) (5 * y + x)) ∧ Blk w' w.heap.size 88 25 (fun _ => 0) ∧ Below w.heap.size w w') (fun i _ => 5 - (intOf i).toNat)
      case atStart => exact ⟨0, by omega, rfl, hp, hr, hb⟩
      case round =>
        clear hp hr hb
        obtain ⟨x, hx, rfl, hp, hr, hb⟩ := hrel
        by_cases hlx : x < 5
        · by_cases hc : r ≤ (y : Int) ∨ c ≤ (x : Int)
          · have HS := hide (upF_set (whiteF r c) (5 * y + x) (-1) (by rw [whiteF_at r c y x hlx, if_pos hc]))
            have hcl := blk_cell hp (5 * y + x) (by omega)
            have hfr := blk_frozen hp (5 * y + x)
            have HA : Hid (0 + y * 5 + x * 1 = 5 * y + x) := hide (by omega)
            by_cases h1 : r ≤ (y : Int)
            all_goals
              try have h2 : c ≤ (x : Int) := by omega
              clear hc
              go_wp2_with (first | (with_reducible refine wpList_indexAt y 24 rfl rfl _ _ rfl rfl rfl Try.underlying88 Try.sizeOf86 hlt ?_) | (with_reducible refine wpList_indexAt x 25 rfl rfl _ _ rfl rfl rfl Try.underlying86 Try.sizeOf3 hlx ?_; rw [HA.out]))
              go_roundw
              case rel => exact ⟨x + 1, by omega, by go_num, by have := blk_set hp (5 * y + x) (-1); rw [HS.out] at this; exact this, blk_other hr _ _ (by simp), hb.setCell (by simp) _⟩
              case measure => simp [intOf]; omega
          · have h1 : (y : Int) < r := by omega
            have h2 : (x : Int) < c := by omega
            have HS := hide (upF_skip (whiteF r c) (5 * y + x) (by rw [whiteF_at r c y x hlx, if_neg hc]))
            clear hc
            go_wp2
            go_roundw
            case rel => exact ⟨x + 1, by omega, by go_num, by rw [HS.out] at hp; exact hp, hr, hb⟩
            case measure => simp [intOf]; omega
        · obtain rfl : x = 5 := by omega
          go_wp2
          go_roundw
          case rel => exact ⟨y + 1, by omega, by go_num, by rw [show 5 * (y + 1) = 5 * y + 5 by omega]; exact hp, hr, hb⟩
          case measure => simp [intOf]; omega
    · obtain rfl : y = 5 := by omega
      have hp := blk_congr hp (upF_all (whiteF r c) 25 (5 * 5) (by omega))
      go_wp2_with (first | (with_reducible refine wpList_loadVec hp 28 rfl rfl _ rfl rfl Try.underlying88 Try.sizeImg ?_) | (with_reducible refine wpList_storeVec hr rfl (.tmp 4) (.tmp 28) rfl rfl rfl Try.sizeImg ?_; intro w4 h4 g4 s4))
      refine bodyPost_ret (results_cell_row rfl _ _ w.heap.size 88 _ (0, 0) _ rfl h4 Try.underlying88 rfl (by rw [vec_size]; exact Try.sizeImg)) rfl ⟨rfl, ?_⟩
      exact hb.trans (grown_below g4 (fun k hk => by cases hk; exact Nat.le_refl _) hb.size)
end Go.Proofs.Ytnhijmhambggbaa
