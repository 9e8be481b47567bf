/-
  IsDigits, of the model and of the program: both return whether the string is one digit or more.
-/
import Derived.Test.YtfdcfjlndijhlaaDoorMem
namespace Go.Proofs.YtfdcfjlndijhlaaDoor
open Go.RowKit

theorem take_snoc (s : ByteArray) (k : Nat) (h : k < s.size) : s.data.toList.take (k + 1) = s.data.toList.take k ++ [s[k]] := by
  rw [List.take_succ_eq_append_getElem (by simpa using h)]; rfl
theorem take_all (s : ByteArray) (k : Nat) (h : s.size ≤ k) : s.data.toList.take k = s.data.toList := by
  rw [List.take_of_length_le (by simpa using h)]

def digR (r : Int) : Bool := decide (48 ≤ r ∧ r ≤ 57)
def digL (l : List UInt8) : Bool := l.all fun c => digR c.toNat
def digS (s : ByteArray) : Bool := decide (0 < s.size) && digL s.data.toList
theorem isEmpty_size (s : ByteArray) : s.toList.isEmpty = !decide (0 < s.size) := by
  rw [ByteArray.toList_eq]
  cases h : s.data.toList with
  | nil => have : s.size = 0 := by rw [← ByteArray.size_data]; rw [← Array.length_toList, h]; rfl
           simp [this]
  | cons a l => have : 0 < s.size := by rw [← ByteArray.size_data]; rw [← Array.length_toList, h]; simp
                simp [this]
theorem digR_yes {r : Int} (h1 : 48 ≤ r) (h2 : r ≤ 57) : digR r = true := by unfold digR; exact decide_eq_true ⟨h1, h2⟩
theorem digR_lo {r : Int} (h1 : r < 48) : digR r = false := by unfold digR; exact decide_eq_false (by omega)
theorem digR_hi {r : Int} (h1 : 57 < r) : digR r = false := by unfold digR; exact decide_eq_false (by omega)
theorem digL_snoc (l : List UInt8) (c : UInt8) : digL (l ++ [c]) = (digL l && digR c.toNat) := by simp [digL]
theorem digL_step (s : ByteArray) (k : Nat) (h : k < s.size) (hd : digL (s.data.toList.take k) = true) (hr : digR s[k].toNat = true) : digL (s.data.toList.take (k + 1)) = true := by
  rw [take_snoc s k h, digL_snoc, hd, hr]; rfl
theorem digS_stop (s : ByteArray) (k : Nat) (h : k < s.size) (hr : digR s[k].toNat = false) : digS s = false := by
  have : digL s.data.toList = false := by
    simp only [digL, List.all_eq_false]
    exact ⟨s[k], by simp [ByteArray.getElem_eq_getElem_data], by simp [hr]⟩
  simp [digS, this]
theorem digS_end (s : ByteArray) (k : Nat) (h : s.size ≤ k) (hd : digL (s.data.toList.take k) = true) : digS s = decide (0 < s.size) := by
  rw [take_all s k h] at hd; simp [digS, hd]

set_option maxHeartbeats 400000 in
theorem isDigit_any (r : Int) (w : World) :
    Calls Tryd.prog 25 #[.int .i32 r] w fun e w' => e = .returned (.bool (digR r)) ∧ w = w' := by
  go_enter Tryd.func25, Tryd.ntmps25
  go_wp2
  all_goals (go_ret; exact ⟨ret_bool (by simp_all [digR] <;> omega), rfl⟩)

set_option maxHeartbeats 400000 in
theorem specIsDigits_any (s : ByteArray) (w : World) (hs : s.size ≤ maxLen) :
    Calls Tryd.prog 26 #[.string s] w fun e w' => e = .returned (.bool (digS s)) ∧ w = w' := by
  unfold maxLen at hs
  go_enter Tryd.func26, Tryd.ntmps26
  go_wp2
  go_loop [3] (fun i => ∃ k : Nat, k ≤ s.size ∧ i = .int .i64 k ∧ digL (s.data.toList.take k) = true) (fun i => s.size - (intOf i).toNat)
  case atStart => exact ⟨0, Nat.zero_le _, rfl, rfl⟩
  case round =>
    obtain ⟨k, hk, rfl, hd⟩ := hrel
    by_cases hlt : k < s.size
    · by_cases h1 : ((s[k].toNat : Int) < 48)
      · have HS := hide (digS_stop s k hlt (digR_lo h1))
        go_wp2
        go_ret
        exact ⟨ret_bool HS.out.symm, rfl⟩
      · by_cases h2 : (57 < (s[k].toNat : Int))
        · have HS := hide (digS_stop s k hlt (digR_hi h2))
          go_wp2
          go_ret
          exact ⟨ret_bool HS.out.symm, rfl⟩
        · have HS := hide (digL_step s k hlt hd (digR_yes (by omega) (by omega)))
          go_wp2
          go_round
          case rel => exact ⟨k + 1, by omega, by go_num, HS.out⟩
          case measure => simp [intOf]; omega
    · have HS := hide (digS_end s k (by omega) hd)
      go_wp2
      go_ret
      exact ⟨ret_bool (by rw [HS.out]), rfl⟩

end Go.Proofs.YtfdcfjlndijhlaaDoor
