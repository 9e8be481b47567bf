/-
  Numbers of black cells by rows, by columns and by lines.
-/
import Derived.Test.YteogbddbafkieaaLSums
namespace Go.Proofs.Yteogbddbafkieaa
open Go.RowKit

theorem cnt_add (p : Nat → Bool) (b : Nat) : ∀ C, cnt p (b + C) = cnt p b + cnt (fun x => p (b + x)) C
  | 0 => rfl
  | C + 1 => by
    have := cnt_add p b C
    rw [← Nat.add_assoc, cnt, cnt, this]; omega
theorem cnt_congr {p q : Nat → Bool} : ∀ {N : Nat}, (∀ i, i < N → p i = q i) → cnt p N = cnt q N
  | 0, _ => rfl
  | N + 1, h => by rw [cnt, cnt, cnt_congr fun i hi => h i (by omega), h N (by omega)]
theorem cnt_none {p : Nat → Bool} {N : Nat} (h : ∀ i, i < N → p i = false) : cnt p N = 0 := cnt_skip (k := 0) (Nat.zero_le _) fun i _ hi => h i hi
theorem cnt_only {p : Nat → Bool} {N j : Nat} (hj : j < N) (h : ∀ i, i < N → i ≠ j → p i = false) : cnt p N = if p j = true then 1 else 0 := by
  have h1 : cnt p N = cnt p (j + 1) := cnt_skip (by omega) fun i h1 h2 => h i h2 (by omega)
  have h2 : cnt p j = 0 := cnt_none fun i hi => h i (by omega) (by omega)
  rw [h1, cnt, h2]; omega
/-- The number of black cells in a row, in a column. -/
def rs (C : Nat) (f : Nat → Nat → Int) (y : Nat) : Nat := cnt (fun x => f y x == 1) C
def cs (R : Nat) (f : Nat → Nat → Int) (x : Nat) : Nat := cnt (fun y => f y x == 1) R
theorem lnum_row (C y x : Nat) : lnum 1 0 C y x = y := by simp [lnum, least]
theorem lnum_col (C y x : Nat) (hx : x < C) : lnum 0 1 C y x = (C : Int) - 1 - x := by unfold lnum least; omega
theorem cnt_rows (C : Nat) (f : Nat → Nat → Int) (n : Int) : ∀ Y : Nat, cnt (onL C f (1, 0) n) (C * Y) = if 0 ≤ n ∧ n < Y then rs C f n.toNat else 0
  | 0 => by rw [if_neg (by omega)]; rfl
  | Y + 1 => by
    have h1 : cnt (fun x => onL C f (1, 0) n (C * Y + x)) C = if n = Y then rs C f Y else 0 := by
      by_cases e : n = Y
      · rw [if_pos e]
        refine cnt_congr fun x hx => ?_
        rw [onL_at hx]
        simp only [lnum_row, e]; simp
      · rw [if_neg e]
        refine cnt_none fun x hx => ?_
        rw [onL_at hx]
        simp only [lnum_row]
        have : ((Y : Int) == n) = false := by simp; omega
        rw [this, Bool.and_false]
    rw [Nat.mul_succ, cnt_add, cnt_rows C f n Y, h1]
    by_cases e : n = Y
    · rw [if_pos e, if_neg (by omega), if_pos (by omega), Nat.zero_add]
      congr 1; omega
    · rw [if_neg e, Nat.add_zero]
      by_cases h : 0 ≤ n ∧ n < Y
      · rw [if_pos h, if_pos (by omega)]
      · rw [if_neg h, if_neg (by omega)]
theorem cnt_cols (C : Nat) (f : Nat → Nat → Int) (n : Int) : ∀ Y : Nat, cnt (onL C f (0, 1) n) (C * Y) = if 0 ≤ n ∧ n < C then cs Y f (C - 1 - n.toNat) else 0
  | 0 => by split <;> rfl
  | Y + 1 => by
    rw [Nat.mul_succ, cnt_add, cnt_cols C f n Y]
    by_cases h : 0 ≤ n ∧ n < C
    · rw [if_pos h, if_pos h]
      have hj : C - 1 - n.toNat < C := by omega
      have h1 : cnt (fun x => onL C f (0, 1) n (C * Y + x)) C = if (f Y (C - 1 - n.toNat) == 1) = true then 1 else 0 := by
        rw [cnt_only hj fun x hx hne => ?_]
        · have e : onL C f (0, 1) n (C * Y + (C - 1 - n.toNat)) = (f Y (C - 1 - n.toNat) == 1) := by
            rw [onL_at hj, lnum_col C Y _ hj]
            have : ((C : Int) - 1 - ((C - 1 - n.toNat : Nat) : Int) == n) = true := by simp; omega
            rw [this, Bool.and_true]
          simp only [e]
        · rw [onL_at hx, lnum_col C Y x hx]
          have : ((C : Int) - 1 - (x : Int) == n) = false := by simp; omega
          rw [this, Bool.and_false]
      rw [h1]; rfl
    · rw [if_neg h, if_neg h, Nat.zero_add]
      refine cnt_none fun x hx => ?_
      rw [onL_at hx, lnum_col C Y x hx]
      have : ((C : Int) - 1 - (x : Int) == n) = false := by simp; omega
      rw [this, Bool.and_false]
/-- The row sums. -/
def rowsL (R C : Nat) (f : Nat → Nat → Int) : List Int := rowF R fun y => (rs C f y : Nat)
theorem lineRow_rows (R C : Nat) (f : Nat → Nat → Int) : lineRow R C f 1 0 R = rowsL R C f := rowF_congr fun i hi => by
  rw [Nat.mul_comm R C, cnt_rows, if_pos (by omega)]; rfl
theorem countL_rows (R C : Nat) : countL R C 1 0 = R := by unfold countL lnum least; omega
theorem rs_cell {R C : Nat} {f : Nat → Nat → Int} (h : Img R C f) {y x : Nat} (hy : y < R) (hx : x < C) : ((cnt (fun x => f y x == 1) (x + 1) : Nat) : Int) = (cnt (fun x => f y x == 1) x : Nat) + f y x := by
  rcases h.cell y x hy hx with e | e
  · rw [cnt_no (by simp [e]), e]; simp
  · rw [cnt_yes (by simp [e]), e]; simp
end Go.Proofs.Yteogbddbafkieaa
