/-
  Texts of this claim, one behind the other: Conn.
-/
import Derived.Test.YtbogeghoekmbhaaGreatPackF
import Derived.Test.YtbogeghoekmbhaaGreatPackH
/-
  Any two images with the same sums are joined by switches: twice as many as there are differences, at most; and four times as many at least.
-/
namespace Go.Proofs.YtbogeghoekmbhaaGreat

theorem cnt_upd {p q : Nat → Bool} {j : Nat} : ∀ {N : Nat}, j < N → (∀ i, i < N → i ≠ j → p i = q i) → cnt p N + (if q j = true then 1 else 0) = cnt q N + (if p j = true then 1 else 0)
  | 0, h, _ => absurd h (Nat.not_lt_zero _)
  | N + 1, h, e => by
    by_cases hj : j = N
    · subst hj
      have : cnt p j = cnt q j := cnt_congr fun i hi => e i (by omega) (by omega)
      simp only [cnt, this]; omega
    · have h1 := cnt_upd (p := p) (q := q) (N := N) (by omega) fun i hi hne => e i (by omega) hne
      have h2 := e N (by omega) (fun h => hj h.symm)
      simp only [cnt, h2]; omega
theorem cnt_mono {p q : Nat → Bool} : ∀ {N : Nat}, (∀ i, i < N → q i = true → p i = true) → cnt q N ≤ cnt p N
  | 0, _ => Nat.le_refl _
  | N + 1, h => by
    have h1 := cnt_mono (p := p) (q := q) (N := N) fun i hi => h i (by omega)
    have h2 := h N (by omega)
    simp only [cnt]
    cases hq : q N <;> cases hp : p N <;> simp_all <;> omega
theorem cnt_less {p q : Nat → Bool} {j : Nat} : ∀ {N : Nat}, j < N → (∀ i, i < N → q i = true → p i = true) → p j = true → q j = false → cnt q N < cnt p N
  | 0, h, _, _, _ => absurd h (Nat.not_lt_zero _)
  | N + 1, h, e, hp, hq => by
    by_cases hj : j = N
    · subst hj
      have := cnt_mono (p := p) (q := q) (N := j) fun i hi => e i (by omega)
      simp only [cnt, hp, hq]; simp; omega
    · have h1 := cnt_less (p := p) (q := q) (N := N) (by omega) (fun i hi => e i (by omega)) hp hq
      have h2 := e N (by omega)
      simp only [cnt]
      cases hq' : q N <;> cases hp' : p N <;> simp_all <;> omega
theorem cnt_other {p q : Nat → Bool} {N x : Nat} (h : cnt p N = cnt q N) (hx : x < N) (hp : p x = true) (hq : q x = false) : ∃ y, y < N ∧ p y = false ∧ q y = true := by
  refine Classical.byContradiction fun hn => ?_
  have := cnt_less (p := p) (q := q) hx (fun i hi hqi => by
    cases hpi : p i with
    | true => rfl
    | false => exact absurd ⟨i, hi, hpi, hqi⟩ hn) hp hq
  omega
theorem max_row (P : Nat → Nat) : ∀ N, 0 < N → ∃ r, r < N ∧ ∀ i, i < N → P i ≤ P r
  | 0, h => absurd h (Nat.not_lt_zero _)
  | N + 1, _ => by
    by_cases hN : N = 0
    · subst hN; exact ⟨0, by omega, fun i hi => by obtain rfl : i = 0 := by omega
                                                   exact Nat.le_refl _⟩
    · obtain ⟨r, hr, h⟩ := max_row P N (by omega)
      by_cases e : P r ≤ P N
      · exact ⟨N, by omega, fun i hi => by
          by_cases hi' : i = N
          · rw [hi']; exact Nat.le_refl _
          · have := h i (by omega); omega⟩
      · exact ⟨r, by omega, fun i hi => by
          by_cases hi' : i = N
          · rw [hi']; omega
          · exact h i (by omega)⟩

/-- How many cells differ. -/
def diff (R C : Nat) (f g : Nat → Nat → Int) : Nat := cnt (fun i => imgF R C f i != imgF R C g i) 25
theorem diff_symm (R C : Nat) (f g : Nat → Nat → Int) : diff R C f g = diff R C g f := cnt_congr fun i _ => by
  rw [Bool.eq_iff_iff, bne_iff_ne, bne_iff_ne]; exact ⟨Ne.symm, Ne.symm⟩
theorem bne_in {R C : Nat} {f g : Nat → Nat → Int} {y x : Nat} (hy : y < R) (hx : x < C) (hC : C ≤ 5) : (imgF R C f (5 * y + x) != imgF R C g (5 * y + x)) = (f y x != g y x) := by
  rw [imgF_at _ _ _ _ _ (by omega), imgF_at _ _ _ _ _ (by omega), if_pos ⟨hy, hx⟩, if_pos ⟨hy, hx⟩]
def ne1 (a b : Int) : Nat := if a = b then 0 else 1
theorem ne1_if (a b : Int) : (if (a != b) = true then 1 else 0) = ne1 a b := by
  unfold ne1
  by_cases e : a = b
  · subst e; simp
  · simp [e]
theorem flip_in (f : Nat → Nat → Int) (a b c d : Nat) {y x : Nat} (h : (y = a ∨ y = b) ∧ (x = c ∨ x = d)) : flipN f a b c d y x = 1 - f y x := by unfold flipN; rw [if_pos h]
theorem flip_out (f : Nat → Nat → Int) (a b c d : Nat) {y x : Nat} (h : ¬ ((y = a ∨ y = b) ∧ (x = c ∨ x = d))) : flipN f a b c d y x = f y x := by unfold flipN; rw [if_neg h]
/-- The differences behind a switch. -/
theorem diff_flip {R C : Nat} (f g : Nat → Nat → Int) {a b c d : Nat} (hR : R ≤ 5) (hC : C ≤ 5) (hab : a ≠ b) (hcd : c ≠ d) (ha : a < R) (hb : b < R) (hc : c < C) (hd : d < C) :
    diff R C (flipN f a b c d) g + (ne1 (f a c) (g a c) + ne1 (f a d) (g a d) + ne1 (f b c) (g b c) + ne1 (f b d) (g b d)) =
      diff R C f g + (ne1 (1 - f a c) (g a c) + ne1 (1 - f a d) (g a d) + ne1 (1 - f b c) (g b c) + ne1 (1 - f b d) (g b d)) := by
  unfold diff
  obtain ⟨p, hp⟩ : ∃ p : Nat → Bool, p = fun i => imgF R C f i != imgF R C g i := ⟨_, rfl⟩
  obtain ⟨q, hq⟩ : ∃ q : Nat → Bool, q = fun i => imgF R C (flipN f a b c d) i != imgF R C g i := ⟨_, rfl⟩
  have hpv : ∀ y x, y < R → x < C → p (5 * y + x) = (f y x != g y x) := fun y x hy hx => by rw [hp]; exact bne_in hy hx hC
  have hqv : ∀ y x, y < R → x < C → (y = a ∨ y = b) ∧ (x = c ∨ x = d) → q (5 * y + x) = (1 - f y x != g y x) := fun y x hy hx h => by
    rw [hq]
    have := bne_in (f := flipN f a b c d) (g := g) hy hx hC
    rw [flip_in f a b c d h] at this; exact this
  have hsame : ∀ i, i < 25 → i ≠ 5 * a + c → i ≠ 5 * a + d → i ≠ 5 * b + c → i ≠ 5 * b + d → q i = p i := fun i hi h1 h2 h3 h4 => by
    rw [hp, hq]
    have e : imgF R C (flipN f a b c d) i = imgF R C f i := by
      unfold imgF
      by_cases hh : i / 5 < R ∧ i % 5 < C
      · rw [if_pos hh, if_pos hh, flip_out]
        intro hx
        omega
      · rw [if_neg hh, if_neg hh]
    simp only [e]
  have e1 := cnt_upd (p := q) (q := fun i => if i = 5 * a + c then p i else q i) (j := 5 * a + c) (N := 25) (by omega) (fun i _ h => by simp [h])
  have e2 := cnt_upd (p := fun i => if i = 5 * a + c then p i else q i) (q := fun i => if i = 5 * a + c ∨ i = 5 * a + d then p i else q i) (j := 5 * a + d) (N := 25) (by omega) (fun i _ h => by simp [h])
  have e3 := cnt_upd (p := fun i => if i = 5 * a + c ∨ i = 5 * a + d then p i else q i) (q := fun i => if i = 5 * a + c ∨ i = 5 * a + d ∨ i = 5 * b + c then p i else q i) (j := 5 * b + c) (N := 25) (by omega) (fun i _ h => by simp [h])
  have e4 := cnt_upd (p := fun i => if i = 5 * a + c ∨ i = 5 * a + d ∨ i = 5 * b + c then p i else q i) (q := p) (j := 5 * b + d) (N := 25) (by omega) (fun i hi h => by
    by_cases hh : i = 5 * a + c ∨ i = 5 * a + d ∨ i = 5 * b + c
    · simp [hh]
    · simp only [hh, if_false]
      exact hsame i hi (fun e => hh (.inl e)) (fun e => hh (.inr (.inl e))) (fun e => hh (.inr (.inr e))) h)
  have n1 : ¬ (5 * a + d = 5 * a + c) := by omega
  have n2 : ¬ (5 * b + c = 5 * a + c ∨ 5 * b + c = 5 * a + d) := by omega
  have n3 : ¬ (5 * b + d = 5 * a + c ∨ 5 * b + d = 5 * a + d ∨ 5 * b + d = 5 * b + c) := by omega
  simp only [if_true, n1, n2, n3, if_false, or_true] at e1 e2 e3 e4
  rw [hpv a c ha hc, hqv a c ha hc ⟨.inl rfl, .inl rfl⟩, ne1_if, ne1_if] at e1
  rw [hpv a d ha hd, hqv a d ha hd ⟨.inl rfl, .inr rfl⟩, ne1_if, ne1_if] at e2
  rw [hpv b c hb hc, hqv b c hb hc ⟨.inr rfl, .inl rfl⟩, ne1_if, ne1_if] at e3
  rw [hpv b d hb hd, hqv b d hb hd ⟨.inr rfl, .inr rfl⟩, ne1_if, ne1_if] at e4
  rw [← hp, ← hq]
  omega
theorem ne1_le (a b : Int) : ne1 a b ≤ 1 := by unfold ne1; split <;> omega
theorem diff_near {R C : Nat} (f g : Nat → Nat → Int) {a b c d : Nat} (hR : R ≤ 5) (hC : C ≤ 5) (hab : a ≠ b) (hcd : c ≠ d) (ha : a < R) (hb : b < R) (hc : c < C) (hd : d < C) : diff R C f g ≤ diff R C (flipN f a b c d) g + 4 := by
  have := diff_flip f g hR hC hab hcd ha hb hc hd
  have := ne1_le (f a c) (g a c); have := ne1_le (f a d) (g a d); have := ne1_le (f b c) (g b c); have := ne1_le (f b d) (g b d)
  omega

/-- The same sums. -/
def SameF (R C : Nat) (f g : Nat → Nat → Int) : Prop := (∀ y, y < R → rs C f y = rs C g y) ∧ ∀ x, x < C → cs R f x = cs R g x
theorem sameF_symm {R C : Nat} {f g : Nat → Nat → Int} (h : SameF R C f g) : SameF R C g f := ⟨fun y hy => (h.1 y hy).symm, fun x hx => (h.2 x hx).symm⟩
theorem sameF_trans {R C : Nat} {f g k : Nat → Nat → Int} (h : SameF R C f g) (h2 : SameF R C g k) : SameF R C f k := ⟨fun y hy => (h.1 y hy).trans (h2.1 y hy), fun x hx => (h.2 x hx).trans (h2.2 x hx)⟩
theorem cnt_two {p q : Nat → Bool} {N c d : Nat} (hc : c < N) (hd : d < N) (hcd : c ≠ d) (h : ∀ i, i < N → i ≠ c → i ≠ d → p i = q i) (h1 : p c = q d) (h2 : p d = q c) : cnt p N = cnt q N := by
  have e1 := cnt_upd (p := p) (q := fun i => if i = c then q i else p i) (j := c) (N := N) hc (fun i _ h => by simp [h])
  have e2 := cnt_upd (p := fun i => if i = c then q i else p i) (q := q) (j := d) (N := N) hd (fun i hi hne => by
    by_cases hh : i = c
    · simp [hh]
    · simp only [hh, if_false]; exact h i hi hh hne)
  have n : ¬ d = c := fun e => hcd e.symm
  simp only [if_true, n, if_false] at e1 e2
  rw [h1] at e1; rw [h2] at e2
  omega
theorem sameF_flip {R C : Nat} {f : Nat → Nat → Int} {a b c d : Nat} (h : four R C f a b c d = true) (hI : Img R C f) : SameF R C (flipN f a b c d) f := by
  obtain ⟨h1, h2, h3, h4, h5, h6, h7⟩ := four_iff.1 h
  have hv := hI.cell a c (by omega) (by omega)
  constructor
  · intro y hy
    unfold rs
    by_cases hh : y = a ∨ y = b
    · refine cnt_two (c := c) (d := d) (by omega) (by omega) (by omega) (fun i _ n1 n2 => by rw [flip_out f a b c d (by omega)]) ?_ ?_
      · rw [flip_in f a b c d ⟨hh, .inl rfl⟩]
        rcases hh with rfl | rfl
        · rw [h6]
        · rw [h7, h5]; congr 1; omega
      · rw [flip_in f a b c d ⟨hh, .inr rfl⟩]
        rcases hh with rfl | rfl
        · rw [h6]; congr 1; omega
        · rw [h7, h5]
    · exact cnt_congr fun x _ => by rw [flip_out f a b c d (fun e => hh e.1)]
  · intro x hx
    unfold cs
    by_cases hh : x = c ∨ x = d
    · refine cnt_two (c := a) (d := b) (by omega) (by omega) (by omega) (fun i _ n1 n2 => by rw [flip_out f a b c d (by omega)]) ?_ ?_
      · rw [flip_in f a b c d ⟨.inl rfl, hh⟩]
        rcases hh with rfl | rfl
        · rw [h7]
        · rw [h6, h5]; congr 1; omega
      · rw [flip_in f a b c d ⟨.inr rfl, hh⟩]
        rcases hh with rfl | rfl
        · rw [h7]; congr 1; omega
        · rw [h6, h5]
    · exact cnt_congr fun y _ => by rw [flip_out f a b c d (fun e => hh e.2)]
theorem four_any {R C : Nat} {f : Nat → Nat → Int} {r1 r2 c1 c2 : Nat} (hr : r1 ≠ r2) (hc : c1 ≠ c2) (h1 : r1 < R) (h2 : r2 < R) (h3 : c1 < C) (h4 : c2 < C) (e1 : f r2 c2 = f r1 c1) (e2 : f r1 c2 = 1 - f r1 c1) (e3 : f r2 c1 = 1 - f r1 c1) :
    ∃ a b c d, four R C f a b c d = true ∧ ((a = r1 ∧ b = r2) ∨ (a = r2 ∧ b = r1)) ∧ ((c = c1 ∧ d = c2) ∨ (c = c2 ∧ d = c1)) := by
  rcases Nat.lt_or_gt_of_ne hr with a1 | a1 <;> rcases Nat.lt_or_gt_of_ne hc with a2 | a2
  · exact ⟨r1, r2, c1, c2, four_iff.2 ⟨a1, a2, h2, h4, e1, e2, e3⟩, .inl ⟨rfl, rfl⟩, .inl ⟨rfl, rfl⟩⟩
  · exact ⟨r1, r2, c2, c1, four_iff.2 ⟨a1, a2, h2, h3, by omega, by omega, by omega⟩, .inl ⟨rfl, rfl⟩, .inr ⟨rfl, rfl⟩⟩
  · exact ⟨r2, r1, c1, c2, four_iff.2 ⟨a1, a2, h1, h4, by omega, by omega, by omega⟩, .inr ⟨rfl, rfl⟩, .inl ⟨rfl, rfl⟩⟩
  · exact ⟨r2, r1, c2, c1, four_iff.2 ⟨a1, a2, h1, h3, by omega, by omega, by omega⟩, .inr ⟨rfl, rfl⟩, .inr ⟨rfl, rfl⟩⟩
/-- A switch of the one or of the other that makes them nearer. -/
theorem nearer {R C : Nat} {f g : Nat → Nat → Int} (hf : Img R C f) (hg : Img R C g) (hs : SameF R C f g) {y x : Nat} (hy : y < R) (hx : x < C) (hne : f y x ≠ g y x) :
    (∃ a b c d, four R C f a b c d = true ∧ diff R C (flipN f a b c d) g + 2 ≤ diff R C f g) ∨ ∃ a b c d, four R C g a b c d = true ∧ diff R C (flipN g a b c d) f + 2 ≤ diff R C g f := by
  have hR := hf.r2; have hC := hf.c2
  have row : ∀ {f g : Nat → Nat → Int}, Img R C f → Img R C g → SameF R C f g → ∀ {y x : Nat}, y < R → x < C → f y x = 1 → g y x = 0 → ∃ x', x' < C ∧ f y x' = 0 ∧ g y x' = 1 := by
    intro f g hf hg hs y x hy hx h1 h2
    obtain ⟨x', hx', q1, q2⟩ := cnt_other (hs.1 y hy) hx (by simp [h1]) (by simp [h2])
    have := hf.cell y x' hy hx'
    simp at q1 q2
    exact ⟨x', hx', by omega, q2⟩
  have col : ∀ {f g : Nat → Nat → Int}, Img R C f → Img R C g → SameF R C f g → ∀ {y x : Nat}, y < R → x < C → f y x = 1 → g y x = 0 → ∃ y', y' < R ∧ f y' x = 0 ∧ g y' x = 1 := by
    intro f g hf hg hs y x hy hx h1 h2
    obtain ⟨y', hy', q1, q2⟩ := cnt_other (hs.2 x hx) hy (by simp [h1]) (by simp [h2])
    have := hf.cell y' x hy' hx
    simp at q1 q2
    exact ⟨y', hy', by omega, q2⟩
  obtain ⟨P, hP⟩ : ∃ P : Nat → Nat, ∀ r, P r = cnt (fun x => f r x == 1 && g r x == 0) C := ⟨_, fun _ => rfl⟩
  have hpos : ∃ x, x < C ∧ f y x = 1 ∧ g y x = 0 := by
    rcases hf.cell y x hy hx with h1 | h1
    · have h2 : g y x = 1 := by have := hg.cell y x hy hx; omega
      obtain ⟨x', hx', q1, q2⟩ := row hg hf (sameF_symm hs) hy hx h2 h1
      exact ⟨x', hx', q2, q1⟩
    · exact ⟨x, hx, h1, by have := hg.cell y x hy hx; omega⟩
  obtain ⟨x0, hx0, p1, p2⟩ := hpos
  obtain ⟨r1, hr1, hmax⟩ := max_row P R (by omega)
  have hP1 : 0 < P r1 := by
    have h1 := hmax y hy
    have h2 : 0 < P y := by
      rw [hP]
      have := cnt_less (p := fun x => f y x == 1 && g y x == 0) (q := fun _ => false) (N := C) hx0 (fun _ _ h => by cases h) (by simp [p1, p2]) rfl
      omega
    omega
  obtain ⟨ca, hca, hq⟩ : ∃ i, i < C ∧ (f r1 i == 1 && g r1 i == 0) = true := by
    refine Classical.byContradiction fun hn => ?_
    have : P r1 = 0 := by
      rw [hP]
      exact cnt_none fun i hi => by
        cases hh : (f r1 i == 1 && g r1 i == 0) with
        | false => rfl
        | true => exact absurd ⟨i, hi, hh⟩ hn
    omega
  simp only [Bool.and_eq_true, beq_iff_eq] at hq
  obtain ⟨c2, hc2, u1, u2⟩ := row hf hg hs hr1 hca hq.1 hq.2
  obtain ⟨r2, hr2, v1, v2⟩ := col hg hf (sameF_symm hs) hr1 hc2 u2 u1
  have hrr : r1 ≠ r2 := fun e => by subst e; omega
  obtain ⟨c1, hc1, w1, w2⟩ : ∃ i, i < C ∧ (f r1 i == 1 && g r1 i == 0) = true ∧ (f r2 i == 1 && g r2 i == 0) = false := by
    refine Classical.byContradiction fun hn => ?_
    have h1 := cnt_less (p := fun x => f r2 x == 1 && g r2 x == 0) (q := fun x => f r1 x == 1 && g r1 x == 0) (N := C) hc2 (fun i hi h => by
      cases hh : (f r2 i == 1 && g r2 i == 0) with
      | true => rfl
      | false => exact absurd ⟨i, hi, h, hh⟩ hn) (by simp [v1, v2]) (by simp [u1])
    have h2 := hmax r2 hr2
    rw [hP, hP] at h2
    omega
  simp only [Bool.and_eq_true, beq_iff_eq] at w1
  obtain ⟨w1, w1'⟩ := w1
  have hcc : c1 ≠ c2 := fun e => by subst e; omega
  have ne_one : ∀ {a b : Int}, a ≠ b → ne1 a b = 1 := fun h => by unfold ne1; rw [if_neg h]
  have ne_zero : ∀ {a b : Int}, a = b → ne1 a b = 0 := fun h => by unfold ne1; rw [if_pos h]
  have hfc := hf.cell r2 c1 hr2 hc1; have hgc := hg.cell r2 c1 hr2 hc1
  rcases hfc with hf0 | hf1
  · left
    obtain ⟨a, b, c, d, h4, hab, hcd⟩ := four_any (f := f) hrr hcc hr1 hr2 hc1 hc2 (by omega) (by omega) (by omega)
    refine ⟨a, b, c, d, h4, ?_⟩
    have k1 : ne1 (f r1 c1) (g r1 c1) = 1 := ne_one (by omega)
    have k2 : ne1 (f r1 c2) (g r1 c2) = 1 := ne_one (by omega)
    have k3 : ne1 (f r2 c2) (g r2 c2) = 1 := ne_one (by omega)
    have l1 : ne1 (1 - f r1 c1) (g r1 c1) = 0 := ne_zero (by omega)
    have l2 : ne1 (1 - f r1 c2) (g r1 c2) = 0 := ne_zero (by omega)
    have l3 : ne1 (1 - f r2 c2) (g r2 c2) = 0 := ne_zero (by omega)
    have l4 := ne1_le (1 - f r2 c1) (g r2 c1)
    have := diff_flip f g (a := a) (b := b) (c := c) (d := d) hR hC (by omega) (by omega) (by omega) (by omega) (by omega) (by omega)
    rcases hab with ⟨rfl, rfl⟩ | ⟨rfl, rfl⟩ <;> rcases hcd with ⟨rfl, rfl⟩ | ⟨rfl, rfl⟩ <;> omega
  · right
    have hg1 : g r2 c1 = 1 := by
      rcases hgc with h | h
      · rw [hf1, h] at w2; simp at w2
      · exact h
    obtain ⟨a, b, c, d, h4, hab, hcd⟩ := four_any (f := g) hrr hcc hr1 hr2 hc1 hc2 (by omega) (by omega) (by omega)
    refine ⟨a, b, c, d, h4, ?_⟩
    have k1 : ne1 (g r1 c1) (f r1 c1) = 1 := ne_one (by omega)
    have k2 : ne1 (g r1 c2) (f r1 c2) = 1 := ne_one (by omega)
    have k3 : ne1 (g r2 c2) (f r2 c2) = 1 := ne_one (by omega)
    have l1 : ne1 (1 - g r1 c1) (f r1 c1) = 0 := ne_zero (by omega)
    have l2 : ne1 (1 - g r1 c2) (f r1 c2) = 0 := ne_zero (by omega)
    have l3 : ne1 (1 - g r2 c2) (f r2 c2) = 0 := ne_zero (by omega)
    have l4 := ne1_le (1 - g r2 c1) (f r2 c1)
    have := diff_flip g f (a := a) (b := b) (c := c) (d := d) hR hC (by omega) (by omega) (by omega) (by omega) (by omega) (by omega)
    rcases hab with ⟨rfl, rfl⟩ | ⟨rfl, rfl⟩ <;> rcases hcd with ⟨rfl, rfl⟩ | ⟨rfl, rfl⟩ <;> omega
theorem swF_of {R C : Nat} {f : Nat → Nat → Int} {a b c d : Nat} (h : four R C f a b c d = true) : swF R C f ⟨a, b, c, d⟩ = true := swF_iff.2 ⟨a, b, c, d, rfl, h⟩
/-- Ryser's theorem, with the number of switches. -/
theorem joined {R C : Nat} : ∀ (n : Nat) (f g : Nat → Nat → Int), diff R C f g ≤ n → Img R C f → Img R C g → SameF R C f g → ∃ p, goM (mkM R C f) p = some (mkM R C g) ∧ 2 * p.length ≤ diff R C f g := by
  intro n
  induction n using Nat.strongRecOn with
  | ind n ih =>
    intro f g hn hf hg hs
    by_cases he : ∀ y x, y < R → x < C → f y x = g y x
    · exact ⟨[], by rw [mkM_congr he]; rfl, by simp⟩
    · obtain ⟨y, x, hy, hx, hne⟩ : ∃ y x, y < R ∧ x < C ∧ f y x ≠ g y x := by
        refine Classical.byContradiction fun hc => he fun y x hy hx => ?_
        exact Classical.byContradiction fun h => hc ⟨y, x, hy, hx, h⟩
      rcases nearer hf hg hs hy hx hne with ⟨a, b, c, d, h4, hd⟩ | ⟨a, b, c, d, h4, hd⟩
      · obtain ⟨p, hp, hl⟩ := ih (n - 2) (by omega) (flipN f a b c d) g (by omega) (flipN_img hf a b c d) hg (sameF_trans (sameF_flip h4 hf) hs)
        refine ⟨⟨a, b, c, d⟩ :: p, ?_, by simp only [List.length_cons]; omega⟩
        simp only [goM]
        rw [swB_mk hf, swF_of h4, flipM_mk hf]
        exact hp
      · have e1 := diff_symm R C f (flipN g a b c d)
        have e2 := diff_symm R C f g
        obtain ⟨p, hp, hl⟩ := ih (n - 2) (by omega) f (flipN g a b c d) (by omega) hf (flipN_img hg a b c d) (sameF_trans hs (sameF_symm (sameF_flip h4 hg)))
        refine ⟨p ++ [⟨a, b, c, d⟩], ?_, by simp only [List.length_append, List.length_singleton]; omega⟩
        have h5 := goM_snoc hp (s := ⟨a, b, c, d⟩) (by rw [swB_mk (flipN_img hg a b c d)]; exact swF_of (four_flip h4))
        rw [flipM_mk (flipN_img hg a b c d)] at h5
        have e3 : flipF (flipN g a b c d) ⟨a, b, c, d⟩ = g := flipN_flip g a b c d
        rw [e3] at h5; exact h5
theorem path_far {R C : Nat} : ∀ (p : List Sw) (f g : Nat → Nat → Int), Img R C f → Img R C g → goM (mkM R C f) p = some (mkM R C g) → diff R C f g ≤ 4 * p.length ∧ SameF R C f g
  | [], f, g, hf, hg, h => by
    have e : mkM R C f = mkM R C g := Option.some.inj h
    have ec : ∀ y x, y < R → x < C → f y x = g y x := fun y x hy hx => by rw [← cell_mk R C f hy hx, e, cell_mk R C g hy hx]
    constructor
    · have : diff R C f g = 0 := cnt_none fun i _ => by
        have : imgF R C f i = imgF R C g i := by
          unfold imgF
          split
          · rename_i hh; exact ec _ _ hh.1 hh.2
          · rfl
        rw [this]; simp
      omega
    · exact ⟨fun y hy => cnt_congr fun x hx => by rw [ec y x hy hx], fun x hx => cnt_congr fun y hy => by rw [ec y x hy hx]⟩
  | s :: p, f, g, hf, hg, h => by
    simp only [goM] at h
    rw [swB_mk hf, flipM_mk hf] at h
    split at h
    · rename_i hs
      obtain ⟨a, b, c, d, rfl, h4⟩ := swF_iff.1 hs
      obtain ⟨k1, k2, k3, k4, -⟩ := four_iff.1 h4
      obtain ⟨h5, h6⟩ := path_far p (flipN f a b c d) g (flipN_img hf a b c d) hg h
      have h7 := diff_near f g hf.r2 hf.c2 (a := a) (b := b) (c := c) (d := d) (by omega) (by omega) (by omega) k3 (by omega) k4
      exact ⟨by simp only [List.length_cons]; omega, sameF_trans (sameF_symm (sameF_flip h4 hf)) h6⟩
    · cases h
end Go.Proofs.YtbogeghoekmbhaaGreat
