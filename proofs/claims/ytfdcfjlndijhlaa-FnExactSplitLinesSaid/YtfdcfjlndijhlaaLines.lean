/-
  SplitLines, of the model and of the program, and the exact law, walked.
-/
import Derived.Test.YtfdcfjlndijhlaaSplitLaw
namespace Go.Proofs.Ytfdcfjlndijhlaa
open Go.RowKit

def nl : ByteArray := ⟨#[10]⟩
def cutLast (l : List ByteArray) : List ByteArray := if (l.getD (l.length - 1) ⟨#[]⟩).toList.isEmpty = true then l.take (l.length - 1) else l
def linesS (s : ByteArray) : List ByteArray := cutLast (splitS s nl)
theorem own_take {w : World} {base e n m : Nat} {a : Option Addr} {c : Nat} {xs : List Value} (h : w.ownsRow base e 1 (.slice a n c) n xs) (hm : m ≤ n) (h0 : 0 < n) : w.ownsRow base e 1 (.slice a m c) m (xs.take m) := by
  have hl := h.1
  refine ⟨by simp; omega, ?_⟩
  rcases h.2 with ⟨_, hn⟩ | ⟨g, cap, cur, hv, hbg, hg, hc, hcm, hcs, ht⟩
  · omega
  · injection hv with e1 e2 e3
    subst e1; subst e3
    exact .inr ⟨g, _, cur, rfl, hbg, hg, by omega, hcm, hcs, by rw [← ht, List.take_take]; congr 1; omega⟩
theorem splitS_pos (s by' : ByteArray) : 0 < (splitS s by').length := by simp [splitS]

set_option maxHeartbeats 400000 in
theorem specSplitLines_any (s : ByteArray) (w : World) (hs : s.size ≤ 1048576) :
    Calls Try.prog 18 #[.string s] w (OwnsStrs w (linesS s)) := by
  have hl := splitS_len s nl
  have hp := splitS_pos s nl
  obtain ⟨l, hle⟩ : ∃ l, l = splitS s nl := ⟨_, rfl⟩
  rw [← hle] at hl hp
  have HL := hide hle; clear hle
  go_enter Try.func18, Try.ntmps18
  go_wp2_with fail
  refine (specSplitAny_any s nl _ (by omega) (by decide)).mono ?_
  rintro e w1 ⟨v0, rfl, ho0, hb0⟩
  rw [← HL.out] at ho0
  obtain ⟨g, c, rfl, hbg, hg, hc, hm, hcell, -⟩ := own_some ho0 hp
  obtain ⟨x, hxd⟩ : ∃ x, x = l.getD (l.length - 1) ⟨#[]⟩ := ⟨_, rfl⟩
  have hx : w1.cell? ⟨g, l.length - 1, none⟩ = some (.string x) := by
    rw [hcell _ (by omega), List.getElem?_map, hxd, List.getD_eq_getElem?_getD, List.getElem?_eq_getElem (by omega)]; rfl
  have HX := hide hxd; clear hxd
  have HO0 := hide ho0; have HB0 := hide hb0; clear ho0 hb0 hcell
  unfold maxLen at hm
  by_cases he : x.toList.isEmpty = true
  · have HC : Hid (linesS s = l.take (l.length - 1)) := hide (by rw [linesS, cutLast, ← HL.out, if_pos (by rw [← HX.out]; exact he)])
    go_wp2
    go_ret
    exact ⟨_, rfl, by rw [HC.out, List.length_take, Nat.min_eq_left (by omega), List.map_take]; exact own_take HO0.out (by omega) (by omega), HB0.out⟩
  · have HC : Hid (linesS s = l) := hide (by rw [linesS, cutLast, ← HL.out, if_neg (by rw [← HX.out]; exact he)])
    have he' : x.toList.isEmpty = false := by simpa using he
    clear he
    go_wp2
    go_ret
    exact ⟨_, rfl, by rw [HC.out]; exact HO0.out, HB0.out⟩

set_option maxHeartbeats 400000 in
theorem implSplitLines_any (s : ByteArray) (w : World) (hs : s.size ≤ 1048576) :
    Calls Try.prog 19 #[.string s] w (OwnsStrs w (linesS s)) := by
  have hl := splitS_len s nl
  have hp := splitS_pos s nl
  obtain ⟨l, hle⟩ : ∃ l, l = splitS s nl := ⟨_, rfl⟩
  rw [← hle] at hl hp
  have HL := hide hle; clear hle
  go_enter Try.func19, Try.ntmps19
  go_wp2_with fail
  refine (implSplitAny_any s nl _ (by omega) (by decide)).mono ?_
  rintro e w1 ⟨v0, rfl, ho0, hb0⟩
  rw [← HL.out] at ho0
  obtain ⟨g, c, rfl, hbg, hg, hc, hm, hcell, -⟩ := own_some ho0 hp
  obtain ⟨x, hxd⟩ : ∃ x, x = l.getD (l.length - 1) ⟨#[]⟩ := ⟨_, rfl⟩
  have hx : w1.cell? ⟨g, l.length - 1, none⟩ = some (.string x) := by
    rw [hcell _ (by omega), List.getElem?_map, hxd, List.getD_eq_getElem?_getD, List.getElem?_eq_getElem (by omega)]; rfl
  have HX := hide hxd; clear hxd
  have HO0 := hide ho0; have HB0 := hide hb0; clear ho0 hb0 hcell
  unfold maxLen at hm
  by_cases he : x.toList.isEmpty = true
  · have HC : Hid (linesS s = l.take (l.length - 1)) := hide (by rw [linesS, cutLast, ← HL.out, if_pos (by rw [← HX.out]; exact he)])
    go_wp2
    go_ret
    exact ⟨_, rfl, by rw [HC.out, List.length_take, Nat.min_eq_left (by omega), List.map_take]; exact own_take HO0.out (by omega) (by omega), HB0.out⟩
  · have HC : Hid (linesS s = l) := hide (by rw [linesS, cutLast, ← HL.out, if_neg (by rw [← HX.out]; exact he)])
    have he' : x.toList.isEmpty = false := by simpa using he
    clear he
    go_wp2
    go_ret
    exact ⟨_, rfl, by rw [HC.out]; exact HO0.out, HB0.out⟩

theorem linesS_len (s : ByteArray) : (linesS s).length ≤ s.size + 1 := by
  have := splitS_len s nl
  unfold linesS cutLast; split <;> simp <;> omega

set_option maxHeartbeats 400000 in
theorem lawSplitLines_walk (s : ByteArray) (w : World) (_hs : s.size ≤ maxLen) :
    Calls Try.prog 6 #[.string s] w fun e w' => e = .returned (.bool true) ∧ Below w.heap.size w w' := by
  by_cases h1 : 1048576 < s.size
  · go_enter Try.func6, Try.ntmps6
    go_wp2
    go_ret
    exact ⟨rfl, Below.refl _ _⟩
  · have hl := linesS_len s
    obtain ⟨l, hle⟩ : ∃ l, l = linesS s := ⟨_, rfl⟩
    rw [← hle] at hl
    have HL := hide hle; clear hle
    go_enter Try.func6, Try.ntmps6
    go_wp2_with fail
    refine (specSplitLines_any s _ (by omega)).mono ?_
    rintro e w1 ⟨v0, rfl, ho0, hb0⟩
    rw [← HL.out] at ho0
    have HO0 := hide ho0; have HB0 := hide hb0; clear ho0 hb0
    go_wp2_with fail
    refine (implSplitLines_any s _ (by omega)).mono ?_
    rintro e w2 ⟨v1, rfl, ho1, hb1⟩
    rw [← HL.out] at ho1
    have HO1 := hide ho1; have HB1 := hide hb1; clear ho1 hb1
    go_wp2_with fail
    refine (eqStringS_same l v1 v0 _ _ _ (by omega) HO1.out (own_below HO0.out HB1.out)).mono ?_
    rintro e w3 ⟨rfl, hb3⟩
    have HB3 := hide hb3; clear hb3
    go_wp2_with fail
    have ho13 := own_below HO1.out HB3.out
    have ho03 := own_below (own_below HO0.out HB1.out) HB3.out
    have HO13 := hide ho13; have HO03 := hide ho03; clear ho13 ho03
    have hlt0 := HO0.out.lt
    have hne := hide (own_apart HO0.out HO1.out)
    clear hlt0
    refine (markStringS_any l.length 1 v1 _ _ _ (by omega) (by omega) HO13.out).mono ?_
    rintro e w4 ⟨rfl, ho14, hg4⟩
    have ho04 := HO03.out.kept hg4 hne.out
    have hb4 : Below w.heap.size w w4 := below_mark (HB0.out.trans ((HB1.out.trans (HB3.out.mono HB1.out.size)).mono HB0.out.size)) hg4 HO13.out HB0.out.size HB0.out.size
    have HO14 := hide ho14; have HO04 := hide ho04; have HB4 := hide hb4; clear ho14 ho04 hb4 hg4
    go_wp2_with fail
    refine (heldStringS_any l.length 1 v1 _ _ (by omega) (by omega) HO14.out).mono ?_
    rintro e w5 ⟨rfl, hb5⟩
    have HO15 := hide (own_below HO14.out hb5); have HO05 := hide (own_below HO04.out hb5); have HB5 := hide (HB4.out.trans (hb5.mono HB4.out.size)); clear hb5
    go_wp2_with fail
    refine (implSplitLines_any s _ (by omega)).mono ?_
    rintro e w6 ⟨v2, rfl, ho26, hb6⟩
    rw [← HL.out] at ho26
    have HO26 := hide ho26; have HO16 := hide (own_below HO15.out hb6); have HO06 := hide (own_below HO05.out hb6); have HB6 := hide (HB5.out.trans (hb6.mono HB5.out.size)); clear ho26 hb6
    go_wp2_with fail
    refine (eqStringS_same l v2 v0 _ _ _ (by omega) HO26.out HO06.out).mono ?_
    rintro e w7 ⟨rfl, hb7⟩
    have HO17 := hide (own_below HO16.out hb7); have HB7 := hide (HB6.out.trans (hb7.mono HB6.out.size)); clear hb7
    go_wp2_with fail
    refine (heldStringS_any l.length 1 v1 _ _ (by omega) (by omega) HO17.out).mono ?_
    rintro e w8 ⟨rfl, hb8⟩
    have HB8 := hide (HB7.out.trans (hb8.mono HB7.out.size)); clear hb8
    go_wp2
    go_ret
    exact ⟨rfl, HB8.out⟩
end Go.Proofs.Ytfdcfjlndijhlaa
