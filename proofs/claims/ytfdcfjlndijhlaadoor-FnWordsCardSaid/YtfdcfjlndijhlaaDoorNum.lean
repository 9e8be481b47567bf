/-
  Decimal numerals: plain lemmas.
-/
import Derived.Test.YtfdcfjlndijhlaaDoorFmt
import Derived.Test.YtfdcfjlndijhlaaDoorDig
import Derived.Lib.AtoiAll
import Derived.Lib.AtoiAllCases
namespace Go.Proofs.YtfdcfjlndijhlaaDoor
open Go.RowKit

def decOn (a : Nat) (l : List UInt8) : Nat := l.foldl (fun a c => a * 10 + (c.toNat - 48)) a
theorem decOn_ge (a : Nat) (l : List UInt8) : a ≤ decOn a l := by
  induction l generalizing a with
  | nil => exact Nat.le_refl _
  | cons c r ih => exact Nat.le_trans (by omega) (ih (a * 10 + (c.toNat - 48)))
theorem decOn_app (a : Nat) (l r : List UInt8) : decOn a (l ++ r) = decOn (decOn a l) r := by simp [decOn]
theorem decOn_take (l : List UInt8) (k : Nat) : decOn 0 (l.take k) ≤ decOn 0 l := by
  conv => rhs; rw [← List.take_append_drop k l, decOn_app]
  exact decOn_ge _ _
theorem decOn_snoc (s : ByteArray) (k : Nat) (h : k < s.size) : decOn 0 (s.data.toList.take (k + 1)) = decOn 0 (s.data.toList.take k) * 10 + (s[k].toNat - 48) := by
  rw [take_snoc s k h, decOn_app]; rfl
theorem ofNat_digit (d : Nat) (h : d < 10) : (UInt8.ofNat (48 + d)).toNat = 48 + d := by
  rw [UInt8.toNat_ofNat']; omega
theorem dec_digits (k : Nat) : ∀ m, m ≤ k → decOn 0 (Lib.decDigits m) = m := by
  induction k with
  | zero =>
    intro m hm
    obtain rfl : m = 0 := by omega
    rw [Lib.decDigits, dif_pos (by omega)]; rfl
  | succ k ih =>
    intro m hm
    rw [Lib.decDigits]; split
    · rename_i h; simp only [decOn, List.foldl_cons, List.foldl_nil, ofNat_digit m h]; omega
    · rename_i h
      rw [decOn_app, ih (m / 10) (by omega)]
      simp only [decOn, List.foldl_cons, List.foldl_nil, ofNat_digit (m % 10) (by omega)]; omega
theorem digL_digits (k : Nat) : ∀ m, m ≤ k → digL (Lib.decDigits m) = true := by
  induction k with
  | zero =>
    intro m hm
    obtain rfl : m = 0 := by omega
    rw [Lib.decDigits, dif_pos (by omega)]; decide
  | succ k ih =>
    intro m hm
    rw [Lib.decDigits]; split
    · rename_i h; simp only [digL, List.all_cons, List.all_nil, Bool.and_true, ofNat_digit m h]; exact digR_yes (by omega) (by omega)
    · rename_i h
      rw [digL_snoc, ih (m / 10) (by omega), Bool.true_and, ofNat_digit (m % 10) (by omega)]; exact digR_yes (by omega) (by omega)
theorem digits_pos (m : Nat) : 0 < (Lib.decDigits m).length := by
  rw [Lib.decDigits]; split <;> simp
theorem parse_ok : ∀ (l : List UInt8) (a : Nat), digL l = true → decOn a l < 18446744073709551616 → Lib.parseUint10 a l = .ok (decOn a l)
  | [], a, _, _ => rfl
  | c :: r, a, hd, h => by
    simp only [digL, List.all_cons, Bool.and_eq_true] at hd
    have hc : 48 ≤ (c.toNat : Int) ∧ (c.toNat : Int) ≤ 57 := by simpa [digR] using hd.1
    have hge := decOn_ge (a * 10 + (c.toNat - 48)) r
    have h' : decOn (a * 10 + (c.toNat - 48)) r < 18446744073709551616 := h
    rw [Lib.parseUint10, if_pos (by omega), if_neg (by omega), if_neg (by omega)]
    exact parse_ok r _ hd.2 h'
theorem atoi_neg (m : Nat) (h : m ≤ 9223372036854775808) : Lib.atoiAll (45 :: Lib.decDigits m) = .ok (-(m : Int)) := by
  have hp : Lib.parseMag (Lib.decDigits m) = .ok m := by
    have := digits_pos m
    rw [Lib.parseMag, if_neg (by intro e; rw [e] at this; simp at this), parse_ok _ _ (digL_digits m m (Nat.le_refl _)) (by rw [dec_digits m m (Nat.le_refl _)]; omega), dec_digits m m (Nat.le_refl _)]
  simp only [Lib.atoiAll]
  rw [if_pos (by right; decide), hp]
  simp only
  rw [if_neg (by simp), if_neg (by simp; omega), if_pos (by decide)]
theorem digits_head (m : Nat) : ∃ c r, Lib.decDigits m = c :: r ∧ 48 ≤ c.toNat ∧ c.toNat ≤ 57 := by
  have h1 := digits_pos m
  have h2 := digL_digits m m (Nat.le_refl _)
  cases hd : Lib.decDigits m with
  | nil => rw [hd] at h1; simp at h1
  | cons c r =>
    rw [hd] at h2
    simp only [digL, List.all_cons, Bool.and_eq_true] at h2
    have hc : 48 ≤ (c.toNat : Int) ∧ (c.toNat : Int) ≤ 57 := by simpa [digR] using h2.1
    exact ⟨c, r, rfl, by omega, by omega⟩
theorem atoi_pos (m : Nat) (h : m ≤ 9223372036854775807) : Lib.atoiAll (Lib.decDigits m) = .ok (m : Int) := by
  obtain ⟨c, r, hd, h1, h2⟩ := digits_head m
  have hp : Lib.parseMag (c :: r) = .ok m := by
    rw [← hd, Lib.parseMag, if_neg (by rw [hd]; simp), parse_ok _ _ (digL_digits m m (Nat.le_refl _)) (by rw [dec_digits m m (Nat.le_refl _)]; omega), dec_digits m m (Nat.le_refl _)]
  rw [hd]
  simp only [Lib.atoiAll]
  rw [if_neg (by omega), hp]
  simp only
  rw [if_neg (by omega), if_neg (by omega), if_neg (by omega)]
theorem atoi_itoa (n : Int) (h0 : -9223372036854775808 ≤ n) (h1 : n ≤ 9223372036854775807) : Lib.atoiAll (Lib.itoa n) = .ok n := by
  rw [Lib.itoa]; split
  · rw [atoi_neg n.natAbs (by omega)]; congr 1; omega
  · rw [atoi_pos n.toNat (by omega)]; congr 1; omega

/-- The number that the string is the numeral of. -/
def parseR (s : ByteArray) : Option Int := match Lib.atoiAll s.data.toList with
  | .ok v => if Lib.itoa v = s.data.toList then some v else none
  | _ => none
theorem parse_of (s : ByteArray) (n : Int) (h0 : -9223372036854775808 ≤ n) (h1 : n ≤ 9223372036854775807) (h : Lib.itoa n = s.data.toList) : parseR s = some n := by
  rw [parseR, ← h, atoi_itoa n h0 h1]; simp [h]
theorem parse_some {s : ByteArray} {n : Int} (h : parseR s = some n) : Lib.itoa n = s.data.toList ∧ -9223372036854775808 ≤ n ∧ n ≤ 9223372036854775807 := by
  rw [parseR] at h
  rcases ha : Lib.atoiAll s.data.toList with v | _ | _
  · rw [ha] at h; simp only at h
    split at h
    · injection h with h; subst h
      exact ⟨by assumption, Lib.atoiAll_bounds ha⟩
    · cases h
  · rw [ha] at h; cases h
  · rw [ha] at h; cases h
end Go.Proofs.YtfdcfjlndijhlaaDoor
