/-
  How many cells: turned, mirrored, inverted; two images that differ nowhere.
-/
import Derived.Test.YtcpcplggoogpeaaDist
namespace Go.Proofs.Ytcpcplggoogpeaa
open Go.RowKit

theorem cnt_congr {p q : Nat → Bool} {k : Nat} (h : ∀ i, i < k → p i = q i) : cnt p k = cnt q k := by
  induction k with
  | zero => rfl
  | succ k ih => rw [cnt, cnt, ih (fun i hi => h i (by omega)), h k (by omega)]
def one (b : Bool) : Nat := if b then 1 else 0
theorem cnt_one (p : Nat → Bool) (k : Nat) : cnt p (k + 1) = cnt p k + one (p k) := rfl
theorem cnt_25 (p : Nat → Bool) : cnt p 25 = one (p 0) + one (p 1) + one (p 2) + one (p 3) + one (p 4) + one (p 5) + one (p 6) + one (p 7) + one (p 8) + one (p 9) + one (p 10) + one (p 11) + one (p 12) + one (p 13) + one (p 14) + one (p 15) + one (p 16) + one (p 17) + one (p 18) + one (p 19) + one (p 20) + one (p 21) + one (p 22) + one (p 23) + one (p 24) := by
  simp only [cnt_one]; simp [cnt]
theorem imgF_trM (R C : Nat) (f : Nat → Nat → Int) (i : Nat) (hi : i < 25) : imgF C R (trM f) i = imgF R C f (5 * (i % 5) + i / 5) := by
  simp only [imgF, trM, show (5 * (i % 5) + i / 5) / 5 = i % 5 by omega, show (5 * (i % 5) + i / 5) % 5 = i / 5 by omega]
  by_cases h : i % 5 < R ∧ i / 5 < C
  · rw [if_pos h, if_pos ⟨h.2, h.1⟩]
  · rw [if_neg h, if_neg fun e => h ⟨e.2, e.1⟩]
theorem cnt_tr (R C : Nat) (f : Nat → Nat → Int) : cnt (fun i => imgF C R (trM f) i == 1) 25 = cnt (fun i => imgF R C f i == 1) 25 := by
  rw [cnt_congr (q := fun i => (fun j => imgF R C f j == 1) (5 * (i % 5) + i / 5)) fun i hi => by rw [imgF_trM R C f i hi]]
  generalize (fun j => imgF R C f j == 1) = p
  rw [cnt_25, cnt_25]
  simp only [Nat.reduceMul, Nat.reduceMod, Nat.reduceDiv, Nat.reduceAdd, Nat.zero_mod, Nat.zero_div, Nat.mul_zero]
  omega
theorem cnt_mir {R C : Nat} {f : Nat → Nat → Int} (hI : Img R C f) : cnt (fun i => imgF R C (mirM C f) i == 1) 25 = cnt (fun i => imgF R C f i == 1) 25 := by
  have hC := hI.c2; have hC1 := hI.c1
  have hin : ∀ y x, x < C → imgF R C (mirM C f) (5 * y + x) = imgF R C f (5 * y + (C - 1 - x)) := fun y x hx => by
    rw [imgF_at _ _ _ _ _ (by omega), imgF_at _ _ _ _ _ (by omega), mirM]
    by_cases h : y < R
    · rw [if_pos ⟨h, hx⟩, if_pos ⟨h, by omega⟩]
    · rw [if_neg fun e => h e.1, if_neg fun e => h e.1]
  have hout : ∀ y x, C ≤ x → x < 5 → imgF R C (mirM C f) (5 * y + x) = imgF R C f (5 * y + x) := fun y x hx h5 => by
    rw [imgF_at _ _ _ _ _ h5, imgF_at _ _ _ _ _ h5, if_neg fun e => by omega, if_neg fun e => by omega]
  have hrow : ∀ p q : Nat → Bool, (∀ i, p i = (imgF R C (mirM C f) i == 1)) → (∀ i, q i = (imgF R C f i == 1)) → ∀ y, one (p (5 * y)) + one (p (5 * y + 1)) + one (p (5 * y + 2)) + one (p (5 * y + 3)) + one (p (5 * y + 4)) = one (q (5 * y)) + one (q (5 * y + 1)) + one (q (5 * y + 2)) + one (q (5 * y + 3)) + one (q (5 * y + 4)) := fun p q hp hq y => by
    have e0 : p (5 * y) = if 0 < C then q (5 * y + (C - 1)) else q (5 * y) := by
      rw [if_pos (by omega), hp, hq]; have := hin y 0 (by omega); rw [Nat.add_zero, Nat.sub_zero] at this; rw [this]
    have e : ∀ x, x < 5 → p (5 * y + x) = if x < C then q (5 * y + (C - 1 - x)) else q (5 * y + x) := fun x hx => by
      by_cases h : x < C
      · rw [if_pos h, hp, hq, hin y x h]
      · rw [if_neg h, hp, hq, hout y x (by omega) hx]
    have e1 := e 1 (by omega); have e2 := e 2 (by omega); have e3 := e 3 (by omega); have e4 := e 4 (by omega)
    rw [e0, e1, e2, e3, e4]
    have hCC : C = 1 ∨ C = 2 ∨ C = 3 ∨ C = 4 ∨ C = 5 := by omega
    rcases hCC with rfl | rfl | rfl | rfl | rfl <;> simp <;> omega
  obtain ⟨p, hp⟩ : ∃ p : Nat → Bool, p = fun i => imgF R C (mirM C f) i == 1 := ⟨_, rfl⟩
  obtain ⟨q, hq⟩ : ∃ q : Nat → Bool, q = fun i => imgF R C f i == 1 := ⟨_, rfl⟩
  have hr := hrow p q (fun i => by rw [hp]) (fun i => by rw [hq])
  rw [← hp, ← hq, cnt_25, cnt_25]
  have r0 := hr 0; have r1 := hr 1; have r2 := hr 2; have r3 := hr 3; have r4 := hr 4
  simp only [Nat.reduceMul, Nat.reduceAdd, Nat.mul_zero, Nat.zero_add, Nat.mul_one] at r0 r1 r2 r3 r4
  omega
def inB (R C : Nat) (i : Nat) : Bool := decide (i / 5 < R ∧ i % 5 < C)
theorem cnt_in (R C : Nat) (hR : R ≤ 5) (hC : C ≤ 5) : cnt (inB R C) 25 = R * C := by
  have hRR : R = 0 ∨ R = 1 ∨ R = 2 ∨ R = 3 ∨ R = 4 ∨ R = 5 := by omega
  have hCC : C = 0 ∨ C = 1 ∨ C = 2 ∨ C = 3 ∨ C = 4 ∨ C = 5 := by omega
  rcases hRR with rfl | rfl | rfl | rfl | rfl | rfl <;> rcases hCC with rfl | rfl | rfl | rfl | rfl | rfl <;> rfl
theorem cnt_parts (p q r : Nat → Bool) (k : Nat) (h : ∀ i, i < k → one (r i) = one (p i) + one (q i)) : cnt r k = cnt p k + cnt q k := by
  induction k with
  | zero => rfl
  | succ k ih => rw [cnt_one, cnt_one, cnt_one, ih (fun i hi => h i (by omega)), h k (by omega)]; omega
theorem cnt_inv {R C : Nat} {f : Nat → Nat → Int} (hI : Img R C f) : cnt (fun i => imgF R C (invM f) i == 1) 25 + cnt (fun i => imgF R C f i == 1) 25 = R * C := by
  rw [← cnt_in R C hI.r2 hI.c2]
  refine (cnt_parts _ _ _ 25 fun i hi => ?_).symm
  simp only [inB, imgF, invM]
  by_cases h : i / 5 < R ∧ i % 5 < C
  · rw [decide_eq_true h, if_pos h, if_pos h]
    rcases hI.cell _ _ h.1 h.2 with e | e <;> rw [e] <;> rfl
  · rw [decide_eq_false h, if_neg h, if_neg h]; rfl
theorem cnt_all {R C : Nat} {f : Nat → Nat → Int} (hI : Img R C f) : cnt (fun i => imgF R C f i != imgF R C (invM f) i) 25 = R * C := by
  rw [← cnt_in R C hI.r2 hI.c2]
  refine cnt_congr fun i hi => ?_
  simp only [inB, imgF, invM]
  by_cases h : i / 5 < R ∧ i % 5 < C
  · rw [decide_eq_true h, if_pos h, if_pos h]
    rcases hI.cell _ _ h.1 h.2 with e | e <;> rw [e] <;> rfl
  · rw [decide_eq_false h, if_neg h, if_neg h]; rfl
theorem cnt_sym (R C : Nat) (f g : Nat → Nat → Int) : cnt (fun i => imgF R C g i != imgF R C f i) 25 = cnt (fun i => imgF R C f i != imgF R C g i) 25 := by
  refine cnt_congr fun i hi => ?_
  rw [Bool.eq_iff_iff]; simp only [bne_iff_ne]; exact ⟨Ne.symm, Ne.symm⟩
theorem cnt_none {p : Nat → Bool} {k : Nat} (h : cnt p k = 0) : ∀ i, i < k → p i = false := by
  induction k with
  | zero => intro i hi; omega
  | succ k ih =>
    rw [cnt_one] at h
    intro i hi
    by_cases e : i = k
    · subst e
      cases hp : p i with
      | false => rfl
      | true => rw [hp] at h; simp [one] at h
    · exact ih (by omega) i (by omega)
theorem cnt_zero {R C : Nat} {f g : Nat → Nat → Int} (hI : Img R C f) (_hI' : Img R C g) : ((cnt (fun i => imgF R C f i != imgF R C g i) 25 : Nat) == 0) = (mkM R C f == mkM R C g) := by
  have hC := hI.c2; have hR := hI.r2
  rw [Bool.eq_iff_iff, beq_iff_eq, beq_iff_eq]
  constructor
  · intro h
    refine mkM_congr fun y x hy hx => ?_
    have := cnt_none h (5 * y + x) (by omega)
    simp only [bne_eq_false_iff_eq] at this
    rw [imgF_at _ _ _ _ _ (by omega), imgF_at _ _ _ _ _ (by omega), if_pos ⟨hy, hx⟩, if_pos ⟨hy, hx⟩] at this
    exact this
  · intro h
    have hc : ∀ y x, y < R → x < C → f y x = g y x := fun y x hy hx => by
      have h1 : (mkM R C f)[y]'(by rw [mkM_len]; exact hy) = (mkM R C g)[y]'(by rw [mkM_len]; exact hy) := by simp only [h]
      rw [mkM_at, mkM_at] at h1
      have h2 : (rowF C (f y))[x]'(by rw [rowF_len]; exact hx) = (rowF C (g y))[x]'(by rw [rowF_len]; exact hx) := by simp only [h1]
      rwa [rowF_at, rowF_at] at h2
    have : cnt (fun i => imgF R C f i != imgF R C g i) 25 = cnt (fun _ => false) 25 := cnt_congr fun i hi => by
      rw [bne_eq_false_iff_eq]
      unfold imgF
      by_cases hh : i / 5 < R ∧ i % 5 < C
      · rw [if_pos hh, if_pos hh, hc _ _ hh.1 hh.2]
      · rw [if_neg hh, if_neg hh]
    rw [this]; rfl
end Go.Proofs.Ytcpcplggoogpeaa
