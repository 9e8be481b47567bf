/-
  IsName, of the model and of the program: both return whether the string has 1 to 8 bytes, the first a small letter, the others small letters or digits.
-/
import Derived.Test.YtfdcfjlndijhlaaDoorDig
namespace Go.Proofs.YtfdcfjlndijhlaaDoor
open Go.RowKit

def lowR (r : Int) : Bool := decide (97 ≤ r ∧ r ≤ 122)
def nameC (i : Nat) (r : Int) : Bool := lowR r || (decide (0 < i) && digR r)
def NameUp (s : ByteArray) (k : Nat) : Prop := ∀ j, (h : j < s.size) → j < k → nameC j s[j].toNat = true
def inB (n lo hi : Int) : Bool := decide (lo ≤ n ∧ n ≤ hi)
noncomputable def nameS (s : ByteArray) : Bool := @decide (NameUp s s.size) (Classical.propDecidable _) && inB s.size 1 8
theorem lowR_yes {r : Int} (h1 : 97 ≤ r) (h2 : r ≤ 122) : lowR r = true := by unfold lowR; exact decide_eq_true ⟨h1, h2⟩
theorem lowR_lo {r : Int} (h1 : r < 97) : lowR r = false := by unfold lowR; exact decide_eq_false (by omega)
theorem lowR_hi {r : Int} (h1 : 122 < r) : lowR r = false := by unfold lowR; exact decide_eq_false (by omega)
theorem name_zero (s : ByteArray) : NameUp s 0 := by intro j _ h; omega
theorem name_step (s : ByteArray) (k : Nat) (h : k < s.size) (hu : NameUp s k) (hc : nameC k s[k].toNat = true) : NameUp s (k + 1) := by
  intro j hj hk
  by_cases e : j = k
  · subst e; exact hc
  · exact hu j hj (by omega)
theorem name_stop (s : ByteArray) (k : Nat) (h : k < s.size) (hc : nameC k s[k].toNat = false) : nameS s = false := by
  have : ¬ NameUp s s.size := fun hu => by have := hu k h h; rw [hc] at this; cases this
  simp [nameS, this]
theorem name_end (s : ByteArray) (k : Nat) (h : s.size ≤ k) (hu : NameUp s k) : nameS s = inB s.size 1 8 := by
  have : NameUp s s.size := fun j hj _ => hu j hj (by omega)
  simp [nameS, this]
theorem nameC_low {i : Nat} {r : Int} (h : lowR r = true) : nameC i r = true := by simp [nameC, h]
theorem nameC_dig {i : Nat} {r : Int} (h0 : 0 < i) (h : digR r = true) : nameC i r = true := by simp [nameC, h, h0]
theorem nameC_first {r : Int} (h : lowR r = false) : nameC 0 r = false := by simp [nameC, h]
theorem nameC_not {i : Nat} {r : Int} (h : lowR r = false) (h' : digR r = false) : nameC i r = false := by simp [nameC, h, h']
theorem nameS_empty (s : ByteArray) (h : s.size = 0) : nameS s = false := by simp [nameS, inB, h]
theorem nameS_long (s : ByteArray) (h : 8 < s.size) : nameS s = false := by simp [nameS, inB]; omega
theorem nameS_fits (s : ByteArray) (h0 : 0 < s.size) (h : s.size ≤ 8) : inB s.size 1 8 = true := by simp [inB]; omega

set_option maxHeartbeats 400000 in
theorem isLetter_any (r : Int) (w : World) :
    Calls Tryd.prog 24 #[.int .i32 r] w fun e w' => e = .returned (.bool (lowR r)) ∧ w = w' := by
  go_enter Tryd.func24, Tryd.ntmps24
  go_wp2
  all_goals (go_ret; exact ⟨ret_bool (by simp_all [lowR] <;> omega), rfl⟩)

set_option maxHeartbeats 400000 in
theorem implIsName_any (s : ByteArray) (w : World) (hs : s.size ≤ maxLen) :
    Calls Tryd.prog 12 #[.string s] w fun e w' => e = .returned (.bool (nameS s)) ∧ Below w.heap.size w w' := by
  unfold maxLen at hs
  go_enter Tryd.func12, Tryd.ntmps12
  by_cases h0 : s.size = 0
  · have he : s.toList.isEmpty = true := by rw [isEmpty_size]; simp [h0]
    have HS := hide (nameS_empty s h0)
    clear h0
    go_wp2
    go_ret
    exact ⟨ret_bool HS.out.symm, Below.refl _ _⟩
  · have he : s.toList.isEmpty = false := by rw [isEmpty_size]; simp; omega
    by_cases h8 : 8 < s.size
    · have HS := hide (nameS_long s h8)
      go_wp2
      go_ret
      exact ⟨ret_bool HS.out.symm, Below.refl _ _⟩
    · have HB := hide (nameS_fits s (by omega) (by omega))
      go_wp2
      go_loopw [3, 4] (fun _ _ w' => ∃ k : Nat, k ≤ s.size ∧ w' = w.iter s k ∧ NameUp s k) (fun _ _ w' => s.size - w'.iterPos w.heap.size)
      case atStart => exact ⟨0, Nat.zero_le _, rfl, name_zero s⟩
      case round =>
        obtain ⟨k, hk, rfl, hd⟩ := hrel
        by_cases hlt : k < s.size
        · by_cases ha : (s[k]'hlt).toNat < 128
          · have hnx : ∀ ty, (Instr.next (.pointer (some ⟨w.heap.size, 0, none⟩)) true ty).run Tryd.prog (w.iter s k) = _ := fun ty => run_next_ascii w s k ty hlt ha
            by_cases h1 : lowR s[k].toNat = true
            · have HS := hide (name_step s k hlt hd (nameC_low h1))
              go_wp2_with (go_at_call 24; refine (isLetter_any _ _).mono ?_; rintro e w' ⟨rfl, rfl⟩)
              go_roundw
              case rel => exact ⟨k + 1, by omega, rfl, HS.out⟩
              case measure => simp; omega
            · have h1' : lowR s[k].toNat = false := by simpa using h1
              clear h1
              by_cases hk0 : k = 0
              · subst hk0
                have HS := hide (name_stop s 0 hlt (nameC_first h1'))
                go_wp2_with (go_at_call 24; refine (isLetter_any _ _).mono ?_; rintro e w' ⟨rfl, rfl⟩)
                go_ret
                exact ⟨ret_bool HS.out.symm, (Below.refl _ _).alloc (Nat.le_refl _) _⟩
              · have hkp : ((k : Int) == 0) = false := by simpa using hk0
                by_cases h2 : digR s[k].toNat = true
                · have HS := hide (name_step s k hlt hd (nameC_dig (by omega) h2))
                  go_wp2_with (first | (go_at_call 24; refine (isLetter_any _ _).mono ?_; rintro e w' ⟨rfl, rfl⟩) | (go_at_call 25; refine (isDigit_any _ _).mono ?_; rintro e w' ⟨rfl, rfl⟩))
                  go_roundw
                  case rel => exact ⟨k + 1, by omega, rfl, HS.out⟩
                  case measure => simp; omega
                · have h2' : digR s[k].toNat = false := by simpa using h2
                  have HS := hide (name_stop s k hlt (nameC_not h1' h2'))
                  go_wp2_with (first | (go_at_call 24; refine (isLetter_any _ _).mono ?_; rintro e w' ⟨rfl, rfl⟩) | (go_at_call 25; refine (isDigit_any _ _).mono ?_; rintro e w' ⟨rfl, rfl⟩))
                  go_ret
                  exact ⟨ret_bool HS.out.symm, (Below.refl _ _).alloc (Nat.le_refl _) _⟩
          · have hr := (decode_high s k hlt (by omega)).1
            have h1' : lowR (Utf8.decode s k).1 = false := lowR_hi (by omega)
            have h2' : digR (Utf8.decode s k).1 = false := digR_hi (by omega)
            have HS := hide (name_stop s k hlt (nameC_not (lowR_hi (by omega)) (digR_hi (by omega))))
            have hnx : ∀ ty, (Instr.next (.pointer (some ⟨w.heap.size, 0, none⟩)) true ty).run Tryd.prog (w.iter s k) = _ := fun ty => run_next_any w s k ty hlt
            clear hr
            by_cases hk0 : ((k : Int) == 0) = true
            all_goals
              go_wp2_with (first | (go_at_call 24; refine (isLetter_any _ _).mono ?_; rintro e w' ⟨rfl, rfl⟩) | (go_at_call 25; refine (isDigit_any _ _).mono ?_; rintro e w' ⟨rfl, rfl⟩))
              go_ret
              exact ⟨ret_bool HS.out.symm, (Below.refl _ _).alloc (Nat.le_refl _) _⟩
        · have hnx : ∀ ty, (Instr.next (.pointer (some ⟨w.heap.size, 0, none⟩)) true ty).run Tryd.prog (w.iter s k) = _ := fun ty => run_next_end w s k ty hlt
          have HS := hide (name_end s k (by omega) hd)
          go_wp2
          go_ret
          exact ⟨ret_bool (by rw [HS.out, HB.out]), (Below.refl _ _).alloc (Nat.le_refl _) _⟩

end Go.Proofs.YtfdcfjlndijhlaaDoor
