/-
  PadZeros, of the model and of the program, and the exact law, walked.
-/
import Derived.Test.YtfdcfjlndijhlaaMem
import Derived.Test.YtfdcfjlndijhlaaShRepeat
namespace Go.Proofs.Ytfdcfjlndijhlaa
open Go.RowKit

def padL (s : ByteArray) (k : Nat) : List UInt8 := List.replicate k 48 ++ s.data.toList
def padS (s : ByteArray) (n : Int) : ByteArray := if n > 2000 then s else ⟨(padL s (n.toNat - s.size)).toArray⟩
def sizeStr : Value → Nat | .string b => b.size | _ => 0
theorem pad_zero (s : ByteArray) : (⟨(padL s 0).toArray⟩ : ByteArray) = s := by simp [padL]
theorem pad_long (s : ByteArray) (n : Int) (h : n > 2000) : padS s n = s := by rw [padS, if_pos h]
theorem pad_none (s : ByteArray) (n : Int) (h : n ≤ s.size) : padS s n = s := by
  rw [padS]; split
  · rfl
  · rw [show n.toNat - s.size = 0 by omega, pad_zero]
theorem pad_some (s : ByteArray) (n : Int) (h : n ≤ 2000) : padS s n = ⟨(padL s (n.toNat - s.size)).toArray⟩ := by rw [padS, if_neg (by omega)]
theorem pad_step (s : ByteArray) (k : Nat) : (⟨#[48]⟩ ++ ⟨(padL s k).toArray⟩ : ByteArray) = ⟨(padL s (k + 1)).toArray⟩ := by
  rw [show (⟨#[48]⟩ : ByteArray) = ByteArray.mk [48].toArray from rfl, ByteArray.mk_append_mk]; simp [padL, List.replicate_succ]
theorem pad_size (s : ByteArray) (k : Nat) : (⟨(padL s k).toArray⟩ : ByteArray).size = k + s.size := by
  show (padL s k).toArray.size = _
  simp [padL]
theorem repeat_zeros (k : Nat) : Lib.repeatL (⟨#[48]⟩ : ByteArray).data.toList k = List.replicate k 48 := by
  induction k with
  | zero => rfl
  | succ k ih => rw [Lib.repeatL, ih, List.replicate_succ]; rfl
theorem pad_join (s : ByteArray) (k : Nat) : ((⟨(Lib.repeatL (⟨#[48]⟩ : ByteArray).data.toList k).toArray⟩ : ByteArray) ++ s) = ⟨(padL s k).toArray⟩ := by
  rw [repeat_zeros]
  conv => lhs; rw [show s = ByteArray.mk s.data.toList.toArray by simp]
  rw [ByteArray.mk_append_mk]; rfl

set_option maxHeartbeats 400000 in
theorem specPadZeros_any (s : ByteArray) (n : Int) (w : World) (hs : s.size ≤ 1048576) :
    Calls Try.prog 24 #[.string s, .int .i64 n] w fun e w' => e = .returned (.string (padS s n)) ∧ w = w' := by
  by_cases h1 : n > 2000
  · have HP := hide (pad_long s n h1)
    go_enter Try.func24, Try.ntmps24
    go_wp2
    go_ret
    exact ⟨ret_string HP.out.symm, rfl⟩
  · have HP := hide (pad_some s n (by omega))
    go_enter Try.func24, Try.ntmps24
    go_wp2
    go_loop [0] (fun t => ∃ k : Nat, k ≤ n.toNat - s.size ∧ t = .string ⟨(padL s k).toArray⟩) (fun t => n.toNat - sizeStr t)
    case atStart => exact ⟨0, Nat.zero_le _, by rw [pad_zero]⟩
    case round =>
      obtain ⟨k, hk, rfl⟩ := hrel
      have hz := pad_size s k
      have hst := hide (pad_step s k)
      obtain ⟨b, hb⟩ : ∃ b, b = (⟨(padL s k).toArray⟩ : ByteArray) := ⟨_, rfl⟩
      rw [← hb] at hz hst ⊢
      have HB := hide hb
      clear hb
      by_cases hlt : (b.size : Int) < n
      · have HZ := hide hz
        have hk1 : k + 1 ≤ n.toNat - s.size := by omega
        have hb2 : b.size ≤ 2000000 := by omega
        clear hz
        go_wp2
        go_round
        case rel => exact ⟨k + 1, hk1, by rw [hst.out]⟩
        case measure => simp only [sizeStr, ByteArray.size_append']; have : (⟨#[48]⟩ : ByteArray).size = 1 := rfl; omega
      · have HK : Hid (k = n.toNat - s.size) := hide (by omega)
        clear hz
        go_wp2
        go_ret
        exact ⟨ret_string (by rw [HP.out, HB.out, HK.out]), rfl⟩

set_option maxHeartbeats 400000 in
theorem implPadZeros_any (s : ByteArray) (n : Int) (w : World) (hs : s.size ≤ 1048576) :
    Calls Try.prog 25 #[.string s, .int .i64 n] w fun e w' => e = .returned (.string (padS s n)) ∧ Below w.heap.size w w' := by
  by_cases h1 : n ≤ s.size
  · have HP := hide (pad_none s n h1)
    go_enter Try.func25, Try.ntmps25
    go_wp2
    go_ret
    exact ⟨ret_string HP.out.symm, Below.refl _ _⟩
  · by_cases h2 : n > 2000
    · have HP := hide (pad_long s n h2)
      go_enter Try.func25, Try.ntmps25
      go_wp2
      go_ret
      exact ⟨ret_string HP.out.symm, Below.refl _ _⟩
    · obtain ⟨k, hk⟩ : ∃ k : Nat, k = n.toNat - s.size := ⟨_, rfl⟩
      have hn : n = (k : Int) + s.size := by omega
      have HP : Hid (padS s n = ⟨(padL s k).toArray⟩) := hide (by rw [hk]; exact pad_some s n (by omega))
      have hk2 : k ≤ 2000 := by omega
      have hkp : (s.size : Int) < (k : Int) + s.size := by omega
      subst hn
      clear hk h1
      go_enter Try.func25, Try.ntmps25
      go_wp2_with fail
      refine (Try.strings_Repeat ⟨#[48]⟩ k _ (by omega) (by show 1 * k ≤ _; omega)).mono ?_
      rintro e w' ⟨rfl, hb⟩
      have HJ := pad_join s k
      have hz : (⟨(Lib.repeatL (⟨#[48]⟩ : ByteArray).data.toList k).toArray⟩ : ByteArray).size ≤ 2000 := by
        rw [repeat_zeros]; show (List.replicate k (48 : UInt8)).toArray.size ≤ 2000; simpa using hk2
      obtain ⟨r, hr⟩ : ∃ r, r = (⟨(Lib.repeatL (⟨#[48]⟩ : ByteArray).data.toList k).toArray⟩ : ByteArray) := ⟨_, rfl⟩
      rw [← hr] at HJ hz ⊢
      replace HJ := hide HJ
      clear hr
      go_wp2
      go_ret
      exact ⟨ret_string (by rw [HP.out, HJ.out]), hb⟩

set_option maxHeartbeats 400000 in
theorem lawPadZeros_walk (s : ByteArray) (n : Int) (w : World) (_hs : s.size ≤ maxLen) (_hn : (Lit.int .i64 n).wf = true) :
    Calls Try.prog 8 #[.string s, .int .i64 n] w fun e w' => e = .returned (.bool true) ∧ Below w.heap.size w w' := by
  by_cases h1 : 1048576 < s.size
  · go_enter Try.func8, Try.ntmps8
    go_wp2
    go_ret
    exact ⟨rfl, Below.refl _ _⟩
  · go_enter Try.func8, Try.ntmps8
    go_wp2_with fail
    refine (specPadZeros_any s n _ (by omega)).mono ?_
    rintro e w1 ⟨rfl, rfl⟩
    go_wp2_with fail
    refine (implPadZeros_any s n _ (by omega)).mono ?_
    rintro e w2 ⟨rfl, hb⟩
    go_wp2
    go_ret
    exact ⟨rfl, hb⟩
end Go.Proofs.Ytfdcfjlndijhlaa
