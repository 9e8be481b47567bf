/-
  The program's images: mirrored; the exported functions.
-/
import Derived.Test.YtcpcplggoogpeaaArr3
namespace Go.Proofs.Ytcpcplggoogpeaa
open Go.RowKit

def mirM (C : Nat) (f : Nat → Nat → Int) (y x : Nat) : Int := f y (C - 1 - x)
def upMir (R C : Nat) (f : Nat → Nat → Int) (y : Nat) (i : Nat) : Int := if i / 5 < y then imgF R C (mirM C f) i else imgF R C f i
theorem upMir_zero (R C : Nat) (f : Nat → Nat → Int) : upMir R C f 0 = imgF R C f := by funext i; simp [upMir]
theorem upMir_all (R C : Nat) (f : Nat → Nat → Int) : ∀ i, i < 25 → upMir R C f 5 i = imgF R C (mirM C f) i := fun i hi => by rw [upMir, if_pos (by omega)]
theorem upMir_step (R C : Nat) (f : Nat → Nat → Int) (y n : Nat) (hC : C ≤ 5) (hn : n = if y < R then C else 0) : ∀ i, i < 25 →
    (if 0 + y * 5 ≤ i ∧ i < 0 + y * 5 + 5 then mirR n (fun j => imgF R C f (y * 5 + j)) (i - (0 + y * 5)) else upMir R C f y i) = upMir R C f (y + 1) i := fun i hi => by
  by_cases hl : 0 + y * 5 ≤ i ∧ i < 0 + y * 5 + 5
  · rw [if_pos hl, upMir, if_pos (by omega)]
    simp only [mirR, imgF]
    have e1 : i / 5 = y := by omega
    have e2 : i - (0 + y * 5) = i % 5 := by omega
    rw [e1, e2]
    by_cases hy : y < R
    · rw [if_pos hy] at hn
      subst hn
      by_cases hx : i % 5 < n
      · rw [if_pos hx, if_pos (by omega), if_pos ⟨hy, hx⟩, mirM, show (y * 5 + (n - 1 - i % 5)) / 5 = y by omega, show (y * 5 + (n - 1 - i % 5)) % 5 = n - 1 - i % 5 by omega]
      · rw [if_neg hx, if_neg (by omega), if_neg (by omega)]
    · rw [if_neg hy] at hn
      subst hn
      rw [if_neg (by omega), if_neg (by omega), if_neg (by omega)]
  · rw [if_neg hl, upMir, upMir]
    by_cases h2 : i / 5 < y
    · rw [if_pos h2, if_pos (by omega)]
    · rw [if_neg h2, if_neg (by omega)]

set_option maxHeartbeats 1000000 in
theorem mirrored_any (R C : Nat) (f : Nat → Nat → Int) (w : World) (hI : Img R C f) :
    Calls Try.prog 49 #[.agg (vec 25 (imgF R C f))] w fun e w' => e = .returned (.agg (vec 25 (imgF R C (mirM C f)))) ∧ Below w.heap.size w w' := by
  have hC := hI.c2
  have HI := hide hI
  clear hI
  go_enter Try.func49, Try.ntmps49
  go_wp2_with (first | (with_reducible refine wpList_boxVec 25 (imgF R C f) 1 rfl rfl (.tmp 0) rfl rfl ?_; intro w1 h1 b1 s1) | (with_reducible refine wpList_allocVec 25 2 rfl rfl rfl Try.zeroImg ?_; intro wa ha ba sa) | (with_reducible refine wpList_loadVec (blk_below h1 ba) 5 rfl rfl _ rfl rfl Try.underlying48 Try.sizeImg ?_))
  have B1 := hide (b1.trans (ba.mono (by omega)))
  have HP := hide (blk_below h1 ba)
  have HR := hide ha
  rw [s1] at HR
  clear h1 b1 ha ba s1 sa
  go_loopw [6] (fun i w' => ∃ y : Nat, y ≤ 5 ∧ i = .int .i64 y ∧ Blk w' w.heap.size 48 25 (upMir R C f y) ∧ Blk w' (w.heap.size + 1) 48 25 (fun _ => 0) ∧ Below w.heap.size w w') (fun i _ => 5 - (intOf i).toNat)
  case atStart => exact ⟨0, by omega, rfl, by rw [upMir_zero]; exact HP.out, HR.out, B1.out⟩
  case round =>
    clear B1 HP HR
    obtain ⟨y, hy, rfl, hp, hr, hb⟩ := hrel
    have HP := hide hp; have HR := hide hr; have HB := hide hb
    clear hp hr hb
    by_cases hlt : y < 5
    · have hyI : (y : Int) < 5 := by omega
      have HG := hide (imgF_row R C f y)
      obtain ⟨n, hn⟩ : ∃ n, n = if y < R then C else 0 := ⟨_, rfl⟩
      have HST := hide (upMir_step R C f y n hC hn)
      have hn5 : n ≤ 5 := by rw [hn]; split <;> omega
      have N1 : Hid (∀ j, j < n → (fun j => imgF R C f (y * 5 + j)) j ≠ -1) := hide (fun j hj => by
        rw [hn] at hj
        by_cases hr : y < R
        · rw [if_pos hr] at hj
          show imgF R C f (y * 5 + j) ≠ -1
          rw [HG.out j (by omega), if_pos ⟨hr, hj⟩]
          rcases HI.out.cell y j hr hj with e | e <;> rw [e] <;> decide
        · rw [if_neg hr] at hj; omega)
      have N2 : Hid (n = 5 ∨ (fun j => imgF R C f (y * 5 + j)) n = -1) := hide (by
        by_cases h5 : n = 5
        · exact .inl h5
        · right
          show imgF R C f (y * 5 + n) = -1
          rw [HG.out n (by omega), if_neg]
          by_cases hr : y < R
          · rw [if_pos hr] at hn; omega
          · omega)
      clear hn
      go_wp2_with (first | (with_reducible refine wpList_indexRow y 9 rfl rfl _ _ rfl rfl rfl Try.underlying48 Try.isAgg46 Try.sizeOf46 hlt (by omega) ?_) | (with_reducible refine wpList_allocVec 5 4 rfl rfl rfl Try.zeroRow ?_; intro w2 h2 b2 s2) | (with_reducible refine wpList_storeVec h2 rfl (.tmp 4) (.tmp 9) rfl rfl rfl Try.sizeRow ?_; intro w3 h3 g3 s3) | (with_reducible refine wpList_loadVec h3 11 rfl rfl _ rfl rfl Try.underlying46 Try.sizeRow ?_))
      have B3 := hide (row_below HB.out b2 g3)
      have P3 := hide (row_blk HP.out b2 g3)
      have R3 := hide (row_blk HR.out b2 g3)
      clear h2 b2 s2 h3 g3 s3
      refine (rowMirrored_any _ n _ hn5 N1.out N2.out).mono ?_
      rintro e w4 ⟨rfl, b4⟩
      have B4 := hide (B3.out.trans (b4.mono B3.out.size))
      have P4 := hide (blk_below P3.out b4)
      have R4 := hide (blk_below R3.out b4)
      clear b4 B3 P3 R3
      go_wp2_with (first | (with_reducible refine wpList_indexAt y 13 rfl rfl _ _ rfl rfl rfl Try.underlying48 Try.sizeOf46 hlt ?_) | (with_reducible refine wpList_storeMid (b := 0 + y * 5) P4.out rfl (.tmp 13) (.tmp 12) rfl rfl rfl Try.sizeRow (by omega) ?_; intro w5 h5 g5 s5))
      go_roundw
      case rel => exact ⟨y + 1, by omega, by go_num, blk_congr h5 HST.out, blk_grown R4.out g5 (by simp), B4.out.trans (grown_below g5 (fun k hk => by cases hk; exact Nat.le_refl _) B4.out.size)⟩
      case measure => simp [intOf]; omega
    · obtain rfl : y = 5 := by omega
      have HP := hide (blk_congr HP.out (upMir_all R C f))
      go_wp2_with (first | (with_reducible refine wpList_loadVec HP.out 15 rfl rfl _ rfl rfl Try.underlying48 Try.sizeImg ?_) | (with_reducible refine wpList_storeVec HR.out rfl (.tmp 2) (.tmp 15) rfl rfl rfl Try.sizeImg ?_; intro w4 h4 g4 s4))
      refine bodyPost_ret (results_vec rfl _ _ (w.heap.size + 1) 25 _ 48 _ _ rfl h4 Try.underlying48 Try.sizeImg) rfl ⟨rfl, ?_⟩
      exact HB.out.trans (grown_below g4 (fun k hk => by cases hk; exact Nat.le_succ _) HB.out.size)
end Go.Proofs.Ytcpcplggoogpeaa
