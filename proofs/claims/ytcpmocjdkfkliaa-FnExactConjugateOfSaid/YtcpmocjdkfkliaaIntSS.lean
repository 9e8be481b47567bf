/-
  The helpers of the exact laws on lists of lists of integers: szIntSS, toIntSS, eqIntSS, markIntSS, heldIntSS.
-/
import Derived.Test.YtcpmocjdkfkliaaIntS
namespace Go.Proofs.Ytcpmocjdkfkliaa
open Go.RowKit

def cellsM (m : List (List Int)) : Nat := (m.map (·.length)).sum
theorem cells_snoc (m : List (List Int)) (k : Nat) (h : k < m.length) : cellsM (m.take (k + 1)) = cellsM (m.take k) + m[k].length := by
  rw [List.take_succ_eq_append_getElem h]; simp only [cellsM, List.map_append, List.sum_append, List.map_cons, List.map_nil, List.sum_cons, List.sum_nil]; omega
theorem cells_all (m : List (List Int)) (k : Nat) (h : m.length ≤ k) : cellsM (m.take k) = cellsM m := by rw [List.take_of_length_le h]
theorem cells_take (m : List (List Int)) (k : Nat) : cellsM (m.take k) ≤ cellsM m := by
  have h : m = m.take k ++ m.drop k := (List.take_append_drop k m).symm
  have : cellsM m = cellsM (m.take k) + cellsM (m.drop k) := by
    conv => lhs; rw [h]
    simp only [cellsM, List.map_append, List.sum_append]
  omega
theorem cells_row (m : List (List Int)) (k : Nat) (h : k < m.length) : m[k].length ≤ cellsM m := by
  have := cells_snoc m k h; have := cells_take m (k + 1); omega

/-- What szIntSS answers: a number that is negative only if the list is longer than 'left'. -/
def SizeI (w : World) (left : Nat) (m : List (List Int)) (e : Ending) (w' : World) : Prop := ∃ r : Int, e = .returned (.int .i64 r) ∧ ((r = -1) ∨ (m.length + cellsM m ≤ left ∧ r = (left - m.length - cellsM m : Nat))) ∧ Below w.heap.size w w'

/-- The first k rows, empty rows behind them. -/
def fillM (m : List (List Int)) (k : Nat) : List (List Int) := m.take k ++ List.replicate (m.length - k) []
theorem fillM_zero (m : List (List Int)) : fillM m 0 = List.replicate m.length [] := by simp [fillM]
theorem fillM_all (m : List (List Int)) (k : Nat) (h : m.length ≤ k) : fillM m k = m := by
  rw [fillM, List.take_of_length_le h, show m.length - k = 0 by omega]; simp
theorem fillM_len (m : List (List Int)) (k : Nat) (h : k ≤ m.length) : (fillM m k).length = m.length := by simp [fillM]; omega
theorem fillM_set (m : List (List Int)) (k : Nat) (h : k < m.length) : (fillM m k).set k m[k] = fillM m (k + 1) := by
  rw [fillM, List.set_append_right _ _ (by simp; omega), List.length_take, Nat.min_eq_left (by omega), Nat.sub_self, show m.length - k = (m.length - (k + 1)) + 1 by omega, List.replicate_succ, List.set_cons_zero, fillM,
    List.take_succ_eq_append_getElem h, List.append_assoc]; rfl

/-- The first k rows marked, from q on. -/
def markTo (m : List (List Int)) (q : Nat) : Nat → List (List Int)
  | 0 => m
  | k + 1 => (markTo m q k).set k (markR (m.getD k []).length (q + cellsM (m.take k)))
def markM (m : List (List Int)) (q : Nat) : List (List Int) := markTo m q m.length
theorem markTo_len (m : List (List Int)) (q k : Nat) : (markTo m q k).length = m.length := by
  induction k with
  | zero => rfl
  | succ k ih => rw [markTo, List.length_set, ih]
theorem markTo_at (m : List (List Int)) (q k i : Nat) (h : i < (markTo m q k).length) (hm : i < m.length) : (markTo m q k)[i] = if i < k then markR m[i].length (q + cellsM (m.take i)) else m[i] := by
  induction k with
  | zero => simp [markTo]
  | succ k ih =>
    simp only [markTo]
    by_cases e : k = i
    · subst e
      simp only [List.getElem_set_self]
      rw [if_pos (by omega), List.getD_eq_getElem?_getD, List.getElem?_eq_getElem hm]; rfl
    · rw [List.getElem_set_ne e, ih (by rw [markTo_len]; exact hm)]
      by_cases hl : i < k
      · rw [if_pos hl, if_pos (by omega)]
      · rw [if_neg hl, if_neg (by omega)]
theorem markM_len (m : List (List Int)) (q : Nat) : (markM m q).length = m.length := markTo_len m q _
theorem markM_at (m : List (List Int)) (q i : Nat) (h : i < (markM m q).length) (hm : i < m.length) : (markM m q)[i] = markR m[i].length (q + cellsM (m.take i)) := by
  have := markTo_at m q m.length i h hm
  rw [if_pos hm] at this; exact this

end Go.Proofs.Ytcpmocjdkfkliaa
