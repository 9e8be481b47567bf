/-
  SplitLines, of the model and of the program, and the exact law, walked.
-/
import Derived.Test.YtfdcfjlndijhlaaDoorSplitLaw
namespace Go.Proofs.YtfdcfjlndijhlaaDoor
open Go.RowKit

def nl : ByteArray := ⟨#[10]⟩
def cutLast (l : List ByteArray) : List ByteArray := if (l.getD (l.length - 1) ⟨#[]⟩).toList.isEmpty = true then l.take (l.length - 1) else l
def linesS (s : ByteArray) : List ByteArray := cutLast (splitS s nl)
theorem own_take {w : World} {base e n m : Nat} {a : Option Addr} {c : Nat} {xs : List Value} (h : w.ownsRow base e 1 (.slice a n c) n xs) (hm : m ≤ n) (h0 : 0 < n) : w.ownsRow base e 1 (.slice a m c) m (xs.take m) := by
  have hl := h.1
  refine ⟨by simp; omega, ?_⟩
  rcases h.2 with ⟨_, hn⟩ | ⟨g, cap, cur, hv, hbg, hg, hc, hcm, hcs, ht⟩
  · omega
  · injection hv with e1 e2 e3
    subst e1; subst e3
    exact .inr ⟨g, _, cur, rfl, hbg, hg, by omega, hcm, hcs, by rw [← ht, List.take_take]; congr 1; omega⟩
theorem splitS_pos (s by' : ByteArray) : 0 < (splitS s by').length := by simp [splitS]

set_option maxHeartbeats 400000 in
theorem implSplitLines_any (s : ByteArray) (w : World) (hs : s.size ≤ 1048576) :
    Calls Tryd.prog 13 #[.string s] w (OwnsStrs w (linesS s)) := by
  have hl := splitS_len s nl
  have hp := splitS_pos s nl
  obtain ⟨l, hle⟩ : ∃ l, l = splitS s nl := ⟨_, rfl⟩
  rw [← hle] at hl hp
  have HL := hide hle; clear hle
  go_enter Tryd.func13, Tryd.ntmps13
  go_wp2_with fail
  refine (implSplitAny_any s nl _ (by omega) (by decide)).mono ?_
  rintro e w1 ⟨v0, rfl, ho0, hb0⟩
  rw [← HL.out] at ho0
  obtain ⟨g, c, rfl, hbg, hg, hc, hm, hcell, -⟩ := own_some ho0 hp
  obtain ⟨x, hxd⟩ : ∃ x, x = l.getD (l.length - 1) ⟨#[]⟩ := ⟨_, rfl⟩
  have hx : w1.cell? ⟨g, l.length - 1, none⟩ = some (.string x) := by
    rw [hcell _ (by omega), List.getElem?_map, hxd, List.getD_eq_getElem?_getD, List.getElem?_eq_getElem (by omega)]; rfl
  have HX := hide hxd; clear hxd
  have HO0 := hide ho0; have HB0 := hide hb0; clear ho0 hb0 hcell
  unfold maxLen at hm
  by_cases he : x.toList.isEmpty = true
  · have HC : Hid (linesS s = l.take (l.length - 1)) := hide (by rw [linesS, cutLast, ← HL.out, if_pos (by rw [← HX.out]; exact he)])
    go_wp2
    go_ret
    exact ⟨_, rfl, by rw [HC.out, List.length_take, Nat.min_eq_left (by omega), List.map_take]; exact own_take HO0.out (by omega) (by omega), HB0.out⟩
  · have HC : Hid (linesS s = l) := hide (by rw [linesS, cutLast, ← HL.out, if_neg (by rw [← HX.out]; exact he)])
    have he' : x.toList.isEmpty = false := by simpa using he
    clear he
    go_wp2
    go_ret
    exact ⟨_, rfl, by rw [HC.out]; exact HO0.out, HB0.out⟩

theorem linesS_len (s : ByteArray) : (linesS s).length ≤ s.size + 1 := by
  have := splitS_len s nl
  unfold linesS cutLast; split <;> simp <;> omega

end Go.Proofs.YtfdcfjlndijhlaaDoor
