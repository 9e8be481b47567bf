/-
  The exact law of SplitAny, walked: both results are equal, and the program's owns its memory.
-/
import Derived.Test.YtfdcfjlndijhlaaSplit
import Derived.Test.YtfdcfjlndijhlaaMark
namespace Go.Proofs.Ytfdcfjlndijhlaa
open Go.RowKit

theorem splitGo_len (s by' : ByteArray) : ∀ k, (splitGo s by' k).1.length ≤ k
  | 0 => Nat.le_refl _
  | k + 1 => by
    have := splitGo_len s by' k
    rw [splitGo]; split <;> simp <;> omega
theorem splitS_len (s by' : ByteArray) : (splitS s by').length ≤ s.size + 1 := by
  have := splitGo_len s by' s.size
  simp [splitS]; omega

set_option maxHeartbeats 400000 in
theorem lawSplitAny_walk (s by' : ByteArray) (w : World) (_hs : s.size ≤ maxLen) (_hby : by'.size ≤ maxLen) :
    Calls Try.prog 5 #[.string s, .string by'] w fun e w' => e = .returned (.bool true) ∧ Below w.heap.size w w' := by
  by_cases h1 : 1048576 < s.size
  · go_enter Try.func5, Try.ntmps5
    go_wp2
    go_ret
    exact ⟨rfl, Below.refl _ _⟩
  · by_cases h2 : 1048576 < by'.size
    · go_enter Try.func5, Try.ntmps5
      go_wp2
      go_ret
      exact ⟨rfl, Below.refl _ _⟩
    · have hl := splitS_len s by'
      obtain ⟨l, hle⟩ : ∃ l, l = splitS s by' := ⟨_, rfl⟩
      rw [← hle] at hl
      have HL := hide hle; clear hle
      go_enter Try.func5, Try.ntmps5
      go_wp2_with fail
      refine (specSplitAny_any s by' _ (by omega) (by omega)).mono ?_
      rintro e w1 ⟨v0, rfl, ho0, hb0⟩
      rw [← HL.out] at ho0
      have HO0 := hide ho0; have HB0 := hide hb0; clear ho0 hb0
      go_wp2_with fail
      refine (implSplitAny_any s by' _ (by omega) (by omega)).mono ?_
      rintro e w2 ⟨v1, rfl, ho1, hb1⟩
      rw [← HL.out] at ho1
      have HO1 := hide ho1; have HB1 := hide hb1; clear ho1 hb1
      go_wp2_with fail
      refine (eqStringS_same l v1 v0 _ _ _ (by omega) HO1.out (own_below HO0.out HB1.out)).mono ?_
      rintro e w3 ⟨rfl, hb3⟩
      have HB3 := hide hb3; clear hb3
      go_wp2_with fail
      have ho13 := own_below HO1.out HB3.out
      have ho03 := own_below (own_below HO0.out HB1.out) HB3.out
      have HO13 := hide ho13; have HO03 := hide ho03; clear ho13 ho03
      have hlt0 := HO0.out.lt
      have hne := hide (own_apart HO0.out HO1.out)
      clear hlt0
      refine (markStringS_any l.length 1 v1 _ _ _ (by omega) (by omega) HO13.out).mono ?_
      rintro e w4 ⟨rfl, ho14, hg4⟩
      have ho04 := HO03.out.kept hg4 hne.out
      have hb4 : Below w.heap.size w w4 := below_mark (HB0.out.trans ((HB1.out.trans (HB3.out.mono HB1.out.size)).mono HB0.out.size)) hg4 HO13.out HB0.out.size HB0.out.size
      have HO14 := hide ho14; have HO04 := hide ho04; have HB4 := hide hb4; clear ho14 ho04 hb4 hg4
      go_wp2_with fail
      refine (heldStringS_any l.length 1 v1 _ _ (by omega) (by omega) HO14.out).mono ?_
      rintro e w5 ⟨rfl, hb5⟩
      have HO15 := hide (own_below HO14.out hb5); have HO05 := hide (own_below HO04.out hb5); have HB5 := hide (HB4.out.trans (hb5.mono HB4.out.size)); clear hb5
      go_wp2_with fail
      refine (implSplitAny_any s by' _ (by omega) (by omega)).mono ?_
      rintro e w6 ⟨v2, rfl, ho26, hb6⟩
      rw [← HL.out] at ho26
      have HO26 := hide ho26; have HO16 := hide (own_below HO15.out hb6); have HO06 := hide (own_below HO05.out hb6); have HB6 := hide (HB5.out.trans (hb6.mono HB5.out.size)); clear ho26 hb6
      go_wp2_with fail
      refine (eqStringS_same l v2 v0 _ _ _ (by omega) HO26.out HO06.out).mono ?_
      rintro e w7 ⟨rfl, hb7⟩
      have HO17 := hide (own_below HO16.out hb7); have HB7 := hide (HB6.out.trans (hb7.mono HB6.out.size)); clear hb7
      go_wp2_with fail
      refine (heldStringS_any l.length 1 v1 _ _ (by omega) (by omega) HO17.out).mono ?_
      rintro e w8 ⟨rfl, hb8⟩
      have HB8 := hide (HB7.out.trans (hb8.mono HB7.out.size)); clear hb8
      go_wp2
      go_ret
      exact ⟨rfl, HB8.out⟩
end Go.Proofs.Ytfdcfjlndijhlaa
