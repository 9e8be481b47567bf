/-
  The exact law of SplitAny, walked: both results are equal, and the program's owns its memory.
-/
import Derived.Test.YtfdcfjlndijhlaaDoorSplit
import Derived.Test.YtfdcfjlndijhlaaDoorMark
namespace Go.Proofs.YtfdcfjlndijhlaaDoor
open Go.RowKit

theorem splitGo_len (s by' : ByteArray) : ∀ k, (splitGo s by' k).1.length ≤ k
  | 0 => Nat.le_refl _
  | k + 1 => by
    have := splitGo_len s by' k
    rw [splitGo]; split <;> simp <;> omega
theorem splitS_len (s by' : ByteArray) : (splitS s by').length ≤ s.size + 1 := by
  have := splitGo_len s by' s.size
  simp [splitS]; omega

end Go.Proofs.YtfdcfjlndijhlaaDoor
