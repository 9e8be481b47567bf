/-
  A list of strings that came in: what the helpers szStringS and toStringS of the laws make of it.
-/
import Derived.Test.YtfdcfjlndijhlaaDoorSplit
import Derived.Test.YtfdcfjlndijhlaaDoorMark
namespace Go.Proofs.YtfdcfjlndijhlaaDoor
open Go.RowKit

/-- A slice of strings that came in reads as 'ss'. -/
def InStr (w : World) (a : Option Addr) (n : Nat) (ss : List ByteArray) : Prop :=
  ss.length = n ∧ n ≤ maxLen ∧ (∀ s ∈ ss, s.size ≤ maxLen) ∧ (n = 0 ∨ ∃ g o, a = some ⟨g, o, none⟩ ∧ g < w.heap.size ∧ ∀ i, (h : i < ss.length) → w.cell? ⟨g, o + i, none⟩ = some (.string ss[i]))

theorem inStr_nil (w : World) : InStr w none 0 [] := ⟨rfl, Nat.zero_le _, by simp, .inl rfl⟩
theorem inStr_of {w : World} {x : Addr} {l c : Nat} {ss : List ByteArray} (hl : l ≤ c) (hm : c ≤ maxLen) (hz : ss.length = c) (hcell : ∀ i, i < ss.length → w.cell? (x.add i) = some (.string (ss.getD i ByteArray.empty)))
    (hwz : ∀ s ∈ ss, s.size ≤ maxLen) : InStr w (some x) l (ss.take l) := by
  refine ⟨by simp; omega, by omega, fun s hs => hwz s (List.mem_of_mem_take hs), ?_⟩
  by_cases h0 : l = 0
  · exact .inl h0
  · refine .inr ?_
    obtain ⟨g, o, spot⟩ := x
    have hc := hcell 0 (by omega)
    have hspot : spot = none := by simpa [Addr.add] using World.cell?_spot hc
    subst hspot
    refine ⟨g, o, rfl, ?_, fun i hi => ?_⟩
    · have := World.block_lt_of_cell? w _ hc
      simpa [Addr.add] using this
    · simp only [List.length_take] at hi
      have := hcell i (by omega)
      rw [List.getElem_take]
      simpa [addr_add, List.getD_eq_getElem?_getD, List.getElem?_eq_getElem (show i < ss.length by omega)] using this

def total (ss : List ByteArray) : Nat := (ss.map (·.size)).sum
theorem total_snoc (ss : List ByteArray) (k : Nat) (h : k < ss.length) : total (ss.take (k + 1)) = total (ss.take k) + ss[k].size := by
  rw [List.take_succ_eq_append_getElem h]; simp only [total, List.map_append, List.sum_append, List.map_cons, List.map_nil, List.sum_cons, List.sum_nil]; omega
theorem total_all (ss : List ByteArray) (k : Nat) (h : ss.length ≤ k) : total (ss.take k) = total ss := by rw [List.take_of_length_le h]

/-- What szStringS answers: a number that is negative only if the list is longer than 'left'. -/
def SizeRes (w : World) (left n t : Nat) (e : Ending) (w' : World) : Prop := ∃ r : Int, e = .returned (.int .i64 r) ∧ (0 ≤ r → n + t ≤ left) ∧ Below w.heap.size w w'

end Go.Proofs.YtfdcfjlndijhlaaDoor
