/-
  The helpers of the exact laws on lists of strings: markText, eqStringS, markStringS, heldStringS.
-/
import Derived.Test.YtfdcfjlndijhlaaDoorConv
namespace Go.Proofs.YtfdcfjlndijhlaaDoor
open Go.RowKit
def decGo : Nat → Nat → List UInt8 → List UInt8
  | 0, _, acc => acc
  | f + 1, k, acc => if k = 0 then acc else decGo f (k / 10) (UInt8.ofNat (48 + k % 10) :: acc)
def mkS (k : Nat) : ByteArray := ⟨(if k = 0 then [109, 48] else 109 :: decGo (k + 1) k []).toArray⟩

theorem decGo_step (f m : Nat) (out : List UInt8) (h : 0 < m) : decGo (f + 1) m out = decGo f (m / 10) (UInt8.ofNat (48 + m % 10) :: out) := by
  rw [decGo, if_neg (by omega)]
theorem decGo_zero (f : Nat) (out : List UInt8) : decGo f 0 out = out := by cases f <;> simp [decGo]


/-- What markStringS leaves: n marks from number q on. -/
def marks (n q : Nat) : List Value := (List.range n).map fun i => .string (mkS (q + i))
theorem marks_len (n q : Nat) : (marks n q).length = n := by simp [marks]
theorem marks_at (n q j : Nat) (h : j < n) : (marks n q)[j]? = some (.string (mkS (q + j))) := by simp [marks, h]
theorem marks_set (n q j : Nat) (xs : List Value) (h : xs.length = n) (hj : j < n) : (marks j q ++ xs.drop j).set j (.string (mkS (q + j))) = marks (j + 1) q ++ xs.drop (j + 1) := by
  rw [List.set_append_right _ _ (by rw [marks_len]; omega), marks_len, Nat.sub_self, List.drop_eq_getElem_cons (by omega), List.set_cons_zero]
  rw [show marks (j + 1) q = marks j q ++ [.string (mkS (q + j))] by rw [marks, List.range_succ, List.map_append]; rfl, List.append_assoc]; rfl

end Go.Proofs.YtfdcfjlndijhlaaDoor
