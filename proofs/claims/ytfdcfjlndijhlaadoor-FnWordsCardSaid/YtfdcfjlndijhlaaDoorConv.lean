/-
  A slice of one byte, made into a string.
-/
import Derived.Test.YtfdcfjlndijhlaaDoorMem
namespace Go.Proofs.YtfdcfjlndijhlaaDoor
open Go.RowKit

theorem conv1 (w : World) (n : Int) :
    (convert 22 9 (.slice (some ⟨w.heap.size, 0, none⟩) 1 1)).run Tryd.prog (w.alloc (.cells #[.int .u8 n] 5)) = .ok (.string ⟨#[UInt8.ofNat n.toNat]⟩) (w.alloc (.cells #[.int .u8 n] 5)) := by
  rw [run_convert_bytes_string _ _ _ _ _ _ _ Tryd.underlying22 Tryd.underlying5 Tryd.underlying9]
  rw [run_bytesToString _ _ _ _ [n]]
  · rfl
  · simp [loadCells, loadCellsFrom, go_sem]
/-- The same, where the block lies anywhere. -/
theorem conv_at (w : World) (g : Nat) (n : Int) (h : w.cell? ⟨g, 0, none⟩ = some (.int .u8 n)) :
    (convert 22 9 (.slice (some ⟨g, 0, none⟩) 1 1)).run Tryd.prog w = .ok (.string ⟨#[UInt8.ofNat n.toNat]⟩) w := by
  rw [run_convert_bytes_string _ _ _ _ _ _ _ Tryd.underlying22 Tryd.underlying5 Tryd.underlying9]
  rw [run_bytesToString _ _ _ _ [n]]
  · rfl
  · simp [loadCells, loadCellsFrom, go_sem, h]
theorem mk_append (c : UInt8) (out : ByteArray) : (⟨#[c]⟩ ++ out : ByteArray) = ⟨(c :: out.data.toList).toArray⟩ := by
  obtain ⟨⟨l⟩⟩ := out
  rw [show (⟨#[c]⟩ : ByteArray) = ByteArray.mk [c].toArray from rfl, ByteArray.mk_append_mk]; rfl
theorem append_mk (c : UInt8) (l : List UInt8) : (⟨l.toArray⟩ ++ ⟨#[c]⟩ : ByteArray) = ⟨(l ++ [c]).toArray⟩ := by
  rw [show (⟨#[c]⟩ : ByteArray) = ByteArray.mk [c].toArray from rfl, ByteArray.mk_append_mk]
theorem size_list (l : List UInt8) : (ByteArray.mk l.toArray).size = l.length := rfl
theorem len_list (s : ByteArray) : s.data.toList.length = s.size := by simp
end Go.Proofs.YtfdcfjlndijhlaaDoor
