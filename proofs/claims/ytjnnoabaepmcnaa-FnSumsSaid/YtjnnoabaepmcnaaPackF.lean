/-
  Texts of this claim, one behind the other: Katz, KatzB, KatzC, GhostP, GhostB, GhostC, Gsz.
-/
import GoSem.Dispatch
import Derived.Test.YtjnnoabaepmcnaaPackE
/-! PURE: a grid whose sums on all lines in some directions are 0 and that is too small for them is 0 (for FnDetermined). Sums over whole ranges of numbers, by counting from a lower bound. -/
namespace Go.Katz
set_option linter.unusedSimpArgs false

/-- The sum of h over a, a + 1, .., a + n - 1. -/
def T (a : Int) : Nat → (Int → Int) → Int
  | 0, _ => 0
  | n + 1, h => T a n h + h (a + n)

theorem T_congr {a : Int} {n : Nat} {h k : Int → Int} (e : ∀ i, a ≤ i → i < a + n → h i = k i) : T a n h = T a n k := by
  induction n with
  | zero => rfl
  | succ n ih =>
    unfold T
    rw [ih fun i h1 h2 => e i h1 (by omega), e (a + n) (by omega) (by omega)]

theorem T_zero {a : Int} {n : Nat} {h : Int → Int} (e : ∀ i, a ≤ i → i < a + n → h i = 0) : T a n h = 0 := by
  induction n with
  | zero => rfl
  | succ n ih =>
    unfold T
    rw [ih fun i h1 h2 => e i h1 (by omega), e (a + n) (by omega) (by omega), Int.add_zero]

theorem T_sub (a : Int) (n : Nat) (h k : Int → Int) : T a n (fun i => h i - k i) = T a n h - T a n k := by
  induction n with
  | zero => rfl
  | succ n ih =>
    simp only [T]
    rw [ih]
    omega

/-- One number alone counts. -/
theorem T_one {a : Int} {n : Nat} {h : Int → Int} (j : Int) (h1 : a ≤ j) (h2 : j < a + n) (e : ∀ i, a ≤ i → i < a + n → i ≠ j → h i = 0) : T a n h = h j := by
  induction n with
  | zero => omega
  | succ n ih =>
    unfold T
    by_cases hj : j = a + n
    · subst hj
      rw [T_zero fun i h1 h2 => e i h1 (by omega) (by omega), Int.zero_add]
    · rw [ih (by omega) fun i h1 h2 h3 => e i h1 (by omega) h3, e (a + n) (by omega) (by omega) (by omega), Int.add_zero]

/-- The sum from the front. -/
theorem T_front (a : Int) (n : Nat) (h : Int → Int) : T a (n + 1) h = h a + T (a + 1) n h := by
  induction n with
  | zero => simp [T]
  | succ n ih =>
    have e1 : T a (n + 2) h = T a (n + 1) h + h (a + (n + 1 : Nat)) := rfl
    have e2 : T (a + 1) (n + 1) h = T (a + 1) n h + h (a + 1 + n) := rfl
    rw [e1, e2, ih, show a + ((n + 1 : Nat) : Int) = a + 1 + n by omega]
    omega

/-- What lies outside counts nothing: a greater range has the same sum. -/
theorem T_wide {a b : Int} {n m : Nat} {h : Int → Int} (hb : b ≤ a) (hm : a + n ≤ b + m) (e : ∀ i, (i < a ∨ a + n ≤ i) → h i = 0) : T b m h = T a n h := by
  have front : ∀ (k : Nat) (b : Int) (m : Nat), b + k = a → a ≤ b + m → T b m h = T a (m - k) h := by
    intro k
    induction k with
    | zero => intro b m hk _; rw [show b = a by omega, Nat.sub_zero]
    | succ k ih =>
      intro b m hk hm
      obtain ⟨m', rfl⟩ : ∃ m', m = m' + 1 := ⟨m - 1, by omega⟩
      rw [T_front, e b (.inl (by omega)), Int.zero_add, ih (b + 1) m' (by omega) (by omega)]
      congr 1
      omega
  have back : ∀ k : Nat, T a (n + k) h = T a n h := by
    intro k
    induction k with
    | zero => rfl
    | succ k ih =>
      show T a (n + k) h + h (a + ((n + k : Nat) : Int)) = _
      rw [ih, e _ (.inr (by omega)), Int.add_zero]
  rw [front (a - b).toNat b m (by omega) (by omega)]
  have := back (m - (a - b).toNat - n)
  rw [← this]
  congr 1
  omega

theorem T_shift (a d : Int) (n : Nat) (h : Int → Int) : T a n (fun i => h (i - d)) = T (a - d) n h := by
  induction n with
  | zero => rfl
  | succ n ih =>
    simp only [T]
    rw [ih, show a + (n : Int) - d = a - d + n by omega]

/-- The sum over a rectangle of numbers. -/
def TT (N : Nat) (f : Int → Int → Int) : Int := T (-N) (2 * N) fun y => T (-N) (2 * N) fun x => f y x

/-- It lies within R rows and C columns from (y0, x0) on. -/
def In (y0 x0 R C : Int) (f : Int → Int → Int) : Prop := ∀ y x, (y < y0 ∨ y0 + R ≤ y ∨ x < x0 ∨ x0 + C ≤ x) → f y x = 0

/-- The sum on line k in direction (dx, dy). -/
def L (N : Nat) (dx dy : Int) (f : Int → Int → Int) (k : Int) : Int := TT N fun y x => if dx * y - dy * x = k then f y x else 0

theorem TT_sub (N : Nat) (f g : Int → Int → Int) : TT N (fun y x => f y x - g y x) = TT N f - TT N g := by
  unfold TT
  rw [← T_sub]
  exact T_congr fun y _ _ => T_sub _ _ _ _

theorem TT_zero {N : Nat} {f : Int → Int → Int} (h : ∀ y x, f y x = 0) : TT N f = 0 := T_zero fun y _ _ => T_zero fun x _ _ => h y x

theorem TT_congr {N : Nat} {f g : Int → Int → Int} (h : ∀ y x : Int, -(N : Int) ≤ y → y < N → -(N : Int) ≤ x → x < N → f y x = g y x) : TT N f = TT N g :=
  T_congr fun y h1 h2 => T_congr fun x h3 h4 => h y x h1 (by omega) h3 (by omega)

/-- One cell alone counts. -/
theorem TT_one {N : Nat} {f : Int → Int → Int} (y x : Int) (h1 : -(N : Int) ≤ y) (h2 : y < N) (h3 : -(N : Int) ≤ x) (h4 : x < N) (e : ∀ y' x', ¬ (y' = y ∧ x' = x) → f y' x' = 0) : TT N f = f y x := by
  unfold TT
  rw [T_one y h1 (by omega) fun i _ _ hi => T_zero fun x' _ _ => e i x' fun hh => hi hh.1]
  exact T_one x h3 (by omega) fun i _ _ hi => e y i fun hh => hi hh.2

/-- A step that does not leave the range does not change the sum. -/
theorem TT_shift {N : Nat} {f : Int → Int → Int} {y0 x0 R C dy dx : Int} (hf : In y0 x0 R C f) (h1 : -N ≤ y0) (h2 : y0 + R ≤ N) (h3 : -N ≤ x0) (h4 : x0 + C ≤ N) (g1 : -N ≤ y0 + dy) (g2 : y0 + R + dy ≤ N) (g3 : -N ≤ x0 + dx) (g4 : x0 + C + dx ≤ N) (hR : 0 ≤ R) (hC : 0 ≤ C) :
    TT N (fun y x => f (y - dy) (x - dx)) = TT N f := by
  unfold TT
  have inner : ∀ y, T (-N) (2 * N) (fun x => f y (x - dx)) = T (-N) (2 * N) fun x => f y x := fun y => by
    rw [T_shift (-N) dx (2 * N) (fun x => f y x), T_wide (a := x0) (n := C.toNat) (b := -N - dx) (m := 2 * N) (h := fun x => f y x) (by omega) (by omega) (fun i hi => hf y i (by omega)), T_wide (a := x0) (n := C.toNat) (b := -N) (m := 2 * N) (h := fun x => f y x) (by omega) (by omega) (fun i hi => hf y i (by omega))]
  have e1 : T (-N) (2 * N) (fun y => T (-N) (2 * N) fun x => f (y - dy) (x - dx)) = T (-N) (2 * N) fun y => (fun y => T (-N) (2 * N) fun x => f y x) (y - dy) := T_congr fun y _ _ => inner (y - dy)
  have z : ∀ i, (i < y0 ∨ y0 + (R.toNat : Int) ≤ i) → (fun y => T (-N) (2 * N) fun x => f y x) i = 0 := fun i hi => T_zero fun x _ _ => hf i x (by omega)
  rw [e1, T_shift (-N) dy (2 * N) (fun y => T (-N) (2 * N) fun x => f y x), T_wide (a := y0) (n := R.toNat) (by omega) (by omega) z, T_wide (a := y0) (b := -N) (m := 2 * N) (n := R.toNat) (by omega) (by omega) z]

/-- A direction with what proves that its numbers have no common divisor. -/
structure Dir where
  dx : Int
  dy : Int
  a : Int
  b : Int
  pos : 0 ≤ dx
  one : a * dx + b * dy = 1

/-- Where a cell lies on its line. -/
def Dir.at (d : Dir) (y x : Int) : Int := d.a * x + d.b * y
/-- The number of a cell's line. -/
def Dir.ln (d : Dir) (y x : Int) : Int := d.dx * y - d.dy * x

theorem Dir.step (d : Dir) {y x y' x' : Int} (h : d.ln y' x' = d.ln y x) : y' = y + (d.at y' x' - d.at y x) * d.dy ∧ x' = x + (d.at y' x' - d.at y x) * d.dx := by
  have h1 := d.one
  unfold Dir.ln at h
  unfold Dir.at
  constructor <;> grind

theorem Dir.at_back (d : Dir) (y x : Int) : d.at (y - d.dy) (x - d.dx) = d.at y x - 1 := by
  have := d.one
  unfold Dir.at
  grind

theorem Dir.ln_back (d : Dir) (y x : Int) : d.ln (y - d.dy) (x - d.dx) = d.ln y x := by
  unfold Dir.ln
  grind

/-- The quotient: the sum of f on the line up to the cell. -/
def quo (N : Nat) (d : Dir) (f : Int → Int → Int) (y x : Int) : Int := TT N fun y' x' => if d.ln y' x' = d.ln y x ∧ d.at y' x' ≤ d.at y x then f y' x' else 0

theorem quo_sub {N : Nat} (d : Dir) {f : Int → Int → Int} (hf : ∀ y x : Int, (y < -(N : Int) ∨ N ≤ y ∨ x < -(N : Int) ∨ N ≤ x) → f y x = 0) (y x : Int) : quo N d f y x - quo N d f (y - d.dy) (x - d.dx) = f y x := by
  unfold quo
  rw [← TT_sub]
  have key : ∀ y' x' : Int, ((if d.ln y' x' = d.ln y x ∧ d.at y' x' ≤ d.at y x then f y' x' else 0) - (if d.ln y' x' = d.ln (y - d.dy) (x - d.dx) ∧ d.at y' x' ≤ d.at (y - d.dy) (x - d.dx) then f y' x' else 0)) = if y' = y ∧ x' = x then f y' x' else 0 := by
    intro y' x'
    rw [d.at_back, d.ln_back]
    by_cases e : d.ln y' x' = d.ln y x
    · obtain ⟨e1, e2⟩ := d.step e
      by_cases e3 : d.at y' x' = d.at y x
      · have h1 : y' = y := by rw [e1, e3]; simp
        have h2 : x' = x := by rw [e2, e3]; simp
        rw [if_pos ⟨e, by omega⟩, if_neg (by omega), if_pos ⟨h1, h2⟩, Int.sub_zero]
      · have hne : ¬ (y' = y ∧ x' = x) := by rintro ⟨rfl, rfl⟩; exact e3 rfl
        rw [if_neg hne]
        by_cases e4 : d.at y' x' ≤ d.at y x
        · rw [if_pos ⟨e, e4⟩, if_pos ⟨e, by omega⟩, Int.sub_self]
        · rw [if_neg (by omega), if_neg (by omega)]; rfl
    · have hne : ¬ (y' = y ∧ x' = x) := by rintro ⟨rfl, rfl⟩; exact e rfl
      rw [if_neg (fun h => e h.1), if_neg (fun h => e h.1), if_neg hne]; rfl
  rw [TT_congr fun y' x' _ _ _ _ => key y' x']
  by_cases h : y < -(N : Int) ∨ N ≤ y ∨ x < -(N : Int) ∨ N ≤ x
  · rw [hf y x h]
    refine (TT_congr (g := fun _ _ => 0) fun y' x' a1 a2 a3 a4 => ?_).trans (TT_zero fun _ _ => rfl)
    rw [if_neg (by omega)]
  · rw [TT_one y x (by omega) (by omega) (by omega) (by omega) fun y' x' hne => if_neg hne, if_pos ⟨rfl, rfl⟩]

/-- The quotient lies within less. -/
theorem quo_in {N : Nat} (d : Dir) {f : Int → Int → Int} {y0 x0 R C : Int} (hf : In y0 x0 R C f) (h0 : ∀ k, L N d.dx d.dy f k = 0) : In (if 0 ≤ d.dy then y0 else y0 - d.dy) x0 (R - (if 0 ≤ d.dy then d.dy else -d.dy)) (C - d.dx) (quo N d f) := by
  intro y x h
  have none : (∀ y' x', d.ln y' x' = d.ln y x → d.at y' x' ≤ d.at y x → f y' x' = 0) → quo N d f y x = 0 := fun hh => TT_zero fun y' x' => by
    by_cases e : d.ln y' x' = d.ln y x ∧ d.at y' x' ≤ d.at y x
    · rw [if_pos e]; exact hh y' x' e.1 e.2
    · rw [if_neg e]
  have all : (∀ y' x', d.ln y' x' = d.ln y x → d.at y x < d.at y' x' → f y' x' = 0) → quo N d f y x = 0 := fun hh => by
    rw [← h0 (d.ln y x)]
    unfold quo L
    refine TT_congr fun y' x' _ _ _ _ => ?_
    show _ = if d.ln y' x' = d.ln y x then f y' x' else 0
    by_cases e : d.ln y' x' = d.ln y x
    · by_cases e2 : d.at y' x' ≤ d.at y x
      · rw [if_pos ⟨e, e2⟩, if_pos e]
      · rw [if_neg (fun h => e2 h.2), if_pos e, hh y' x' e (by omega)]
    · rw [if_neg (fun h => e h.1), if_neg e]
  have neg : ∀ t n : Int, t ≤ 0 → 0 ≤ n → t * n ≤ 0 := fun t n h1 h2 => Int.mul_nonpos_of_nonpos_of_nonneg h1 h2
  have pos : ∀ t n : Int, 0 < t → 0 ≤ n → n ≤ t * n := fun t n h1 h2 => by
    have := Int.mul_le_mul_of_nonneg_right (show (1 : Int) ≤ t by omega) h2
    omega
  have hp := d.pos
  by_cases hx1 : x < x0
  · exact none fun y' x' e1 e2 => hf _ _ (by
      have := neg _ _ (show d.at y' x' - d.at y x ≤ 0 by omega) hp
      have := (d.step e1).2
      omega)
  by_cases hx2 : x0 + (C - d.dx) ≤ x
  · exact all fun y' x' e1 e2 => hf _ _ (by
      have := pos _ _ (show 0 < d.at y' x' - d.at y x by omega) hp
      have := (d.step e1).2
      omega)
  by_cases hd : 0 ≤ d.dy
  · rw [if_pos hd, if_pos hd] at h
    by_cases hy1 : y < y0
    · exact none fun y' x' e1 e2 => hf _ _ (by
        have := neg _ _ (show d.at y' x' - d.at y x ≤ 0 by omega) hd
        have := (d.step e1).1
        omega)
    · exact all fun y' x' e1 e2 => hf _ _ (by
        have := pos _ _ (show 0 < d.at y' x' - d.at y x by omega) hd
        have := (d.step e1).1
        omega)
  · rw [if_neg hd, if_neg hd] at h
    have hd' : 0 ≤ -d.dy := by omega
    have em : ∀ t : Int, t * -d.dy = -(t * d.dy) := fun t => Int.mul_neg t d.dy
    by_cases hy1 : y < y0 - d.dy
    · exact all fun y' x' e1 e2 => hf _ _ (by
        have := pos _ _ (show 0 < d.at y' x' - d.at y x by omega) hd'
        rw [em] at this
        have := (d.step e1).1
        omega)
    · exact none fun y' x' e1 e2 => hf _ _ (by
        have := neg _ _ (show d.at y' x' - d.at y x ≤ 0 by omega) hd'
        rw [em] at this
        have := (d.step e1).1
        omega)

theorem in_none {y0 x0 R C : Int} {f : Int → Int → Int} (h : In y0 x0 R C f) (hz : R ≤ 0 ∨ C ≤ 0) : ∀ y x, f y x = 0 := fun y x => h y x (by omega)

theorem L_zero {N : Nat} {ex ey : Int} {f : Int → Int → Int} (h : ∀ y x, f y x = 0) (k : Int) : L N ex ey f k = 0 := TT_zero fun y x => by
  show (if _ then f y x else 0) = 0
  rw [h]
  split <;> rfl

/-- Far lines are empty. -/
theorem L_far {N : Nat} {ex ey : Int} {f : Int → Int → Int} {k : Int} (h : (ex.natAbs + ey.natAbs) * N < k.natAbs) : L N ex ey f k = 0 := by
  refine (TT_congr (g := fun _ _ => 0) fun y x h1 h2 h3 h4 => ?_).trans (TT_zero fun _ _ => rfl)
  rw [if_neg]
  intro e
  have hy : y.natAbs ≤ N := by omega
  have hx : x.natAbs ≤ N := by omega
  have a1 : (ex * y).natAbs ≤ ex.natAbs * N := by rw [Int.natAbs_mul]; exact Nat.mul_le_mul_left _ hy
  have a2 : (ey * x).natAbs ≤ ey.natAbs * N := by rw [Int.natAbs_mul]; exact Nat.mul_le_mul_left _ hx
  rw [Nat.add_mul] at h
  omega

theorem quo_sums {N : Nat} (d : Dir) {f : Int → Int → Int} {y0 x0 R C : Int} (hf : In y0 x0 R C f) (r1 : -(N : Int) ≤ y0) (r2 : y0 + R ≤ N) (r3 : -(N : Int) ≤ x0) (r4 : x0 + C ≤ N) (h0 : ∀ k, L N d.dx d.dy f k = 0) {ex ey : Int} (hs : ex * d.dy - ey * d.dx ≠ 0) (he : ∀ k, L N ex ey f k = 0) :
    ∀ k, L N ex ey (quo N d f) k = 0 := by
  have hg := quo_in d hf h0
  have hp := d.pos
  by_cases hz : R - (if 0 ≤ d.dy then d.dy else -d.dy) ≤ 0 ∨ C - d.dx ≤ 0
  · exact L_zero (in_none hg hz)
  have out : ∀ y x : Int, (y < -(N : Int) ∨ N ≤ y ∨ x < -(N : Int) ∨ N ≤ x) → f y x = 0 := fun y x h => hf y x (by omega)
  have one : ∀ k, L N ex ey (quo N d f) k = L N ex ey (quo N d f) (k - (ex * d.dy - ey * d.dx)) := by
    intro k
    have e1 : L N ex ey f k = TT N fun y x => (if ex * y - ey * x = k then quo N d f y x else 0) - (fun y x => if ex * y - ey * x = k - (ex * d.dy - ey * d.dx) then quo N d f y x else 0) (y - d.dy) (x - d.dx) := by
      unfold L
      refine TT_congr fun y x _ _ _ _ => ?_
      rw [← quo_sub (N := N) d out y x]
      have e : (ex * (y - d.dy) - ey * (x - d.dx) = k - (ex * d.dy - ey * d.dx)) ↔ ex * y - ey * x = k := by
        rw [Int.mul_sub, Int.mul_sub]
        omega
      by_cases h : ex * y - ey * x = k
      · rw [if_pos h, if_pos h]
        show _ = _ - (if _ then _ else _)
        rw [if_pos (e.2 h)]
      · rw [if_neg h, if_neg h]
        show _ = _ - (if _ then _ else _)
        rw [if_neg fun x => h (e.1 x)]
        rfl
    have hB : In (if 0 ≤ d.dy then y0 else y0 - d.dy) x0 (R - (if 0 ≤ d.dy then d.dy else -d.dy)) (C - d.dx) fun y x => if ex * y - ey * x = k - (ex * d.dy - ey * d.dx) then quo N d f y x else 0 := fun y x h => by
      show (if _ then quo N d f y x else 0) = 0
      rw [hg y x h]
      split <;> rfl
    rw [he k, TT_sub, TT_shift hB (by split <;> omega) (by split at hz <;> rename_i hd <;> simp only [hd, if_true, if_false, ↓reduceIte] <;> omega) (by omega) (by omega) (by split <;> omega) (by split at hz <;> rename_i hd <;> simp only [hd, if_true, if_false, ↓reduceIte] <;> omega) (by omega) (by omega) (by omega) (by omega)] at e1
    unfold L
    omega
  generalize ex * d.dy - ey * d.dx = s at hs one
  have many : ∀ (n : Nat) (k : Int), L N ex ey (quo N d f) k = L N ex ey (quo N d f) (k - n * s) := by
    intro n
    induction n with
    | zero => intro k; simp
    | succ n ih =>
      intro k
      rw [ih k, one (k - n * s)]
      congr 1
      rw [show ((n + 1 : Nat) : Int) = (n : Int) + 1 by omega, Int.add_mul, Int.one_mul]
      omega
  intro k
  rw [many ((ex.natAbs + ey.natAbs) * N + k.natAbs + 1) k]
  apply L_far
  generalize (ex.natAbs + ey.natAbs) * N = K
  have h1 : (((K + k.natAbs + 1 : Nat) : Int) * s).natAbs = (K + k.natAbs + 1) * s.natAbs := by rw [Int.natAbs_mul]; rfl
  have h2 : K + k.natAbs + 1 ≤ (K + k.natAbs + 1) * s.natAbs := Nat.le_mul_of_pos_right _ (by omega)
  omega

def up (l : List Dir) : Int := (l.map fun d => if 0 ≤ d.dy then d.dy else -d.dy).sum
def over (l : List Dir) : Int := (l.map fun d => d.dx).sum

/-- WHAT IS SMALLER THAN THE GHOST IS DETERMINED: a grid with no sum in any of the directions, too small for them, is 0. -/
theorem small_zero (N : Nat) : ∀ (l : List Dir) (f : Int → Int → Int) (y0 x0 R C : Int), In y0 x0 R C f → -(N : Int) ≤ y0 → y0 + R ≤ N → -(N : Int) ≤ x0 → x0 + C ≤ N → (∀ d ∈ l, ∀ k, L N d.dx d.dy f k = 0) →
    l.Pairwise (fun d e => e.dx * d.dy - e.dy * d.dx ≠ 0) → (R ≤ up l ∨ C ≤ over l) → ∀ y x, f y x = 0
  | [], f, y0, x0, R, C, hf, _, _, _, _, _, _, hz => in_none hf (by simpa [up, over] using hz)
  | d :: l, f, y0, x0, R, C, hf, r1, r2, r3, r4, h0, hp, hz => by
    have h0d := h0 d List.mem_cons_self
    have hpos := d.pos
    rw [List.pairwise_cons] at hp
    have hg := quo_in d hf h0d
    have hz' : R - (if 0 ≤ d.dy then d.dy else -d.dy) ≤ up l ∨ C - d.dx ≤ over l := by
      simp only [up, over, List.map_cons, List.sum_cons] at hz ⊢
      omega
    have z := small_zero N l (quo N d f) _ _ _ _ hg (by split <;> omega) (by split <;> omega) r3 (by omega) (fun e he k => quo_sums d hf r1 r2 r3 r4 h0d (hp.1 e he) (h0 e (List.mem_cons_of_mem _ he)) k) hp.2 hz'
    intro y x
    rw [← quo_sub (N := N) d (fun y x h => hf y x (by omega)) y x, z, z]
    rfl
end Go.Katz
/-! PURE: two images with the same numbers of black cells on all lines: their difference has no sum. c: any count over numbers. -/
namespace Go.Katz
set_option linter.unusedSimpArgs false

section
variable {c : (Nat → Bool) → Nat → Nat} (c0 : ∀ p, c p 0 = 0) (c1 : ∀ p n, c p (n + 1) = c p n + if p n = true then 1 else 0)
include c0 c1

theorem c_add (p : Nat → Bool) (b : Nat) : ∀ n, c p (b + n) = c p b + c (fun x => p (b + x)) n
  | 0 => by rw [c0]; rfl
  | n + 1 => by
    rw [← Nat.add_assoc, c1, c1, c_add p b n]
    omega

theorem T_c (p : Nat → Bool) : ∀ n : Nat, T 0 n (fun i => if p i.toNat = true then 1 else 0) = (c p n : Nat)
  | 0 => by rw [c0]; rfl
  | n + 1 => by
    show T 0 n _ + _ = _
    rw [T_c p n, c1]
    dsimp only
    rw [show ((0 : Int) + n).toNat = n by omega]
    split <;> omega

theorem T_rows (p : Nat → Bool) (C : Nat) : ∀ R : Nat, T 0 R (fun y => T 0 C fun x => if p (C * y.toNat + x.toNat) = true then 1 else 0) = (c p (C * R) : Nat)
  | 0 => by rw [Nat.mul_zero, c0]; rfl
  | R + 1 => by
    show T 0 R _ + T 0 C _ = _
    rw [T_rows p C R, Nat.mul_succ, c_add c0 c1]
    rw [show ((0 : Int) + R).toNat = R by omega, T_c c0 c1 (fun x => p (C * R + x)) C]
    omega

/-- The difference of two images. -/
def dif (R C : Nat) (f g : Nat → Nat → Int) (y x : Int) : Int := if 0 ≤ y ∧ y < R ∧ 0 ≤ x ∧ x < C then f y.toNat x.toNat - g y.toNat x.toNat else 0

omit c0 c1 in
theorem dif_in (R C : Nat) (f g : Nat → Nat → Int) : In 0 0 R C (dif R C f g) := fun y x h => by
  unfold dif
  rw [if_neg (by omega)]

theorem L_dif {N R C : Nat} (hR : R ≤ N) (hC : C ≤ N) {f g : Nat → Nat → Int} (hf : ∀ y x, y < R → x < C → f y x = 0 ∨ f y x = 1) (hg : ∀ y x, y < R → x < C → g y x = 0 ∨ g y x = 1) (dx dy m k : Int) :
    L N dx dy (dif R C f g) k = (c (fun i => f (i / C) (i % C) == 1 && dx * (i / C : Nat) - dy * (i % C : Nat) - m == k - m) (C * R) : Nat) - (c (fun i => g (i / C) (i % C) == 1 && dx * (i / C : Nat) - dy * (i % C : Nat) - m == k - m) (C * R) : Nat) := by
  have box : L N dx dy (dif R C f g) k = T 0 R fun y => T 0 C fun x => if dx * y - dy * x = k then dif R C f g y x else 0 := by
    unfold L TT
    have z : ∀ y x : Int, (y < 0 ∨ (R : Int) ≤ y ∨ x < 0 ∨ (C : Int) ≤ x) → (if dx * y - dy * x = k then dif R C f g y x else 0) = 0 := fun y x h => by
      rw [dif_in R C f g y x (by omega)]
      split <;> rfl
    rw [T_wide (a := 0) (n := R) (by omega) (by omega) fun i hi => T_zero fun x _ _ => z i x (by omega)]
    refine T_congr fun y _ _ => ?_
    exact T_wide (a := 0) (n := C) (by omega) (by omega) fun i hi => z y i (by omega)
  have cell : ∀ (h : Nat → Nat → Int), (∀ y x, y < R → x < C → h y x = 0 ∨ h y x = 1) → (c (fun i => h (i / C) (i % C) == 1 && dx * (i / C : Nat) - dy * (i % C : Nat) - m == k - m) (C * R) : Nat) = T 0 R fun y => T 0 C fun x => if dx * y - dy * x = k then h y.toNat x.toNat else 0 := by
    intro h hh
    rw [← T_rows c0 c1]
    refine T_congr fun y y1 y2 => T_congr fun x x1 x2 => ?_
    have e1 : (C * y.toNat + x.toNat) / C = y.toNat := by rw [Nat.mul_add_div (by omega), Nat.div_eq_of_lt (by omega), Nat.add_zero]
    have e2 : (C * y.toNat + x.toNat) % C = x.toNat := by rw [Nat.mul_add_mod, Nat.mod_eq_of_lt (by omega)]
    rw [e1, e2, show ((y.toNat : Nat) : Int) = y by omega, show ((x.toNat : Nat) : Int) = x by omega]
    by_cases e : dx * y - dy * x = k
    · have e3 : (dx * y - dy * x - m == k - m) = true := by rw [e]; simp
      rw [e3, Bool.and_true, if_pos e]
      rcases hh y.toNat x.toNat (by omega) (by omega) with h0 | h0 <;> rw [h0] <;> rfl
    · have e3 : (dx * y - dy * x - m == k - m) = false := by
        rw [beq_eq_false_iff_ne]
        omega
      rw [e3, Bool.and_false, if_neg e]
      rfl
  rw [box, cell f hf, cell g hg, ← T_sub]
  refine T_congr fun y y1 y2 => ?_
  rw [← T_sub]
  refine T_congr fun x x1 x2 => ?_
  by_cases e : dx * y - dy * x = k
  · rw [if_pos e, if_pos e, if_pos e]
    unfold dif
    rw [if_pos (by omega)]
  · rw [if_neg e, if_neg e, if_neg e]
    rfl
end
end Go.Katz
/-! PURE: images of a small size with the same numbers of black cells on all lines in some directions are equal. -/
namespace Go.Katz

/-- A valid direction. -/
def okD (dx dy : Int) : Bool := decide ((0 ≤ dx ∧ dx ≤ 3) ∧ (-3 ≤ dy ∧ dy ≤ 3)) && (Nat.gcd dx.natAbs dy.natAbs == 1) && (decide (0 < dx) || dy == 1)

theorem okD_range {dx dy : Int} (h : okD dx dy = true) : (0 ≤ dx ∧ dx ≤ 3) ∧ (-3 ≤ dy ∧ dy ≤ 3) := by
  unfold okD at h
  simp only [Bool.and_eq_true, decide_eq_true_eq] at h
  exact h.1.1

theorem okD_fin {dx dy : Int} (h : okD dx dy = true) : ∃ (i : Fin 4) (j : Fin 7), dx = (i.val : Int) ∧ dy = (j.val : Int) - 3 := by
  obtain ⟨⟨h1, h2⟩, h3, h4⟩ := okD_range h
  exact ⟨⟨dx.toNat, by omega⟩, ⟨(dy + 3).toNat, by omega⟩, by show dx = ((dx.toNat : Nat) : Int); omega, by show dy = (((dy + 3).toNat : Nat) : Int) - 3; omega⟩

theorem bez_all : ∀ (i : Fin 4) (j : Fin 7), okD (i.val : Int) ((j.val : Int) - 3) = true → ∃ (a : Fin 7) (b : Fin 7), ((a.val : Int) - 3) * (i.val : Int) + ((b.val : Int) - 3) * ((j.val : Int) - 3) = 1 := by decide

theorem apart_all : ∀ (i k : Fin 4) (j l : Fin 7), okD (i.val : Int) ((j.val : Int) - 3) = true → okD (k.val : Int) ((l.val : Int) - 3) = true → (k.val : Int) * ((j.val : Int) - 3) - ((l.val : Int) - 3) * (i.val : Int) = 0 → i = k ∧ j = l := by decide

theorem okD_dir {dx dy : Int} (h : okD dx dy = true) : ∃ d : Dir, d.dx = dx ∧ d.dy = dy := by
  obtain ⟨i, j, rfl, rfl⟩ := okD_fin h
  obtain ⟨a, b, e⟩ := bez_all i j h
  exact ⟨⟨_, _, _, _, by omega, e⟩, rfl, rfl⟩

theorem okD_apart {dx dy ex ey : Int} (h : okD dx dy = true) (k : okD ex ey = true) (hz : ex * dy - ey * dx = 0) : dx = ex ∧ dy = ey := by
  obtain ⟨i, j, rfl, rfl⟩ := okD_fin h
  obtain ⟨i', j', rfl, rfl⟩ := okD_fin k
  obtain ⟨rfl, rfl⟩ := apart_all i i' j j' h k hz
  exact ⟨rfl, rfl⟩

theorem dirs_of : ∀ l : List (Int × Int), (∀ p ∈ l, okD p.1 p.2 = true) → ∃ ds : List Dir, ds.map (fun d => (d.dx, d.dy)) = l
  | [], _ => ⟨[], rfl⟩
  | p :: l, h => by
    obtain ⟨d, e1, e2⟩ := okD_dir (h p List.mem_cons_self)
    obtain ⟨ds, e3⟩ := dirs_of l fun q hq => h q (List.mem_cons_of_mem _ hq)
    exact ⟨d :: ds, by rw [List.map_cons, e3, e1, e2]⟩

section
variable {c : (Nat → Bool) → Nat → Nat} (c0 : ∀ p, c p 0 = 0) (c1 : ∀ p n, c p (n + 1) = c p n + if p n = true then 1 else 0)

/-- EQUAL ON ALL LINES, SMALLER THAN THE GHOST: EQUAL. m: what is taken from a line's number. -/
theorem determined (c0 : ∀ p, c p 0 = 0) (c1 : ∀ p n, c p (n + 1) = c p n + if p n = true then 1 else 0) {R C : Nat} {f g : Nat → Nat → Int} (hf : ∀ y x, y < R → x < C → f y x = 0 ∨ f y x = 1) (hg : ∀ y x, y < R → x < C → g y x = 0 ∨ g y x = 1) (l : List (Int × Int)) (m : Int × Int → Int)
    (hok : ∀ p ∈ l, okD p.1 p.2 = true) (hd : l.Nodup) (hs : ∀ p ∈ l, ∀ n : Int, c (fun i => f (i / C) (i % C) == 1 && p.1 * (i / C : Nat) - p.2 * (i % C : Nat) - m p == n) (C * R) = c (fun i => g (i / C) (i % C) == 1 && p.1 * (i / C : Nat) - p.2 * (i % C : Nat) - m p == n) (C * R))
    (hz : (R : Int) < 1 + (l.map fun p => if 0 ≤ p.2 then p.2 else -p.2).sum ∨ (C : Int) < 1 + (l.map fun p => p.1).sum) : ∀ y x, y < R → x < C → f y x = g y x := by
  obtain ⟨ds, rfl⟩ := dirs_of l hok
  have z := small_zero (R + C) ds (dif R C f g) 0 0 R C (dif_in R C f g) (by omega) (by omega) (by omega) (by omega) (fun d hd k => ?_) ?_ ?_
  · intro y x hy hx
    have := z y x
    unfold dif at this
    rw [if_pos (by omega)] at this
    simp only [Int.toNat_natCast] at this
    omega
  · rw [L_dif c0 c1 (by omega) (by omega) hf hg d.dx d.dy (m (d.dx, d.dy)) k]
    have := hs (d.dx, d.dy) (List.mem_map.2 ⟨d, hd, rfl⟩) (k - m (d.dx, d.dy))
    simp only at this
    rw [this]
    omega
  · have h1 := List.pairwise_map.1 hd
    have hall : ∀ d ∈ ds, okD d.dx d.dy = true := fun d hd => hok (d.dx, d.dy) (List.mem_map.2 ⟨d, hd, rfl⟩)
    refine List.Pairwise.imp_of_mem (fun {d e} hd he hne hz => hne ?_) h1
    obtain ⟨e1, e2⟩ := okD_apart (hall d hd) (hall e he) hz
    exact Prod.ext e1 e2
  · simp only [up, over, List.map_map, Function.comp_def] at hz ⊢
    omega
end
end Go.Katz
/-! PURE: the basic ghost: a grid minus its shifted copy has no sum in the shift's direction, and none where it had none; it is not 0; its elements are small (for FnGhosts). -/
namespace Go.Katz

/-- A grid minus its copy that is shifted. -/
def mns (dx dy : Int) (f : Int → Int → Int) (y x : Int) : Int := f y x - f (y - dy) (x - dx)

theorem mns_in {dx dy y0 x0 R C : Int} {f : Int → Int → Int} (hx : 0 ≤ dx) (hf : In y0 x0 R C f) : In (if 0 ≤ dy then y0 else y0 + dy) x0 (R + (if 0 ≤ dy then dy else -dy)) (C + dx) (mns dx dy f) := by
  intro y x h
  unfold mns
  by_cases hd : 0 ≤ dy
  · rw [if_pos hd, if_pos hd] at h
    rw [hf y x (by omega), hf (y - dy) (x - dx) (by omega)]
    rfl
  · rw [if_neg hd, if_neg hd] at h
    rw [hf y x (by omega), hf (y - dy) (x - dx) (by omega)]
    rfl

/-- The sums of the shifted copy. -/
theorem L_mns {N : Nat} {dx dy ex ey y0 x0 R C : Int} {f : Int → Int → Int} (hf : In y0 x0 R C f) (hR : 0 ≤ R) (hC : 0 ≤ C) (r1 : -(N : Int) ≤ y0) (r2 : y0 + R ≤ N) (r3 : -(N : Int) ≤ x0) (r4 : x0 + C ≤ N) (g1 : -(N : Int) ≤ y0 + dy) (g2 : y0 + R + dy ≤ N) (g3 : -(N : Int) ≤ x0 + dx) (g4 : x0 + C + dx ≤ N) (k : Int) :
    L N ex ey (mns dx dy f) k = L N ex ey f k - L N ex ey f (k - (ex * dy - ey * dx)) := by
  have e1 : L N ex ey (mns dx dy f) k = TT N fun y x => (if ex * y - ey * x = k then f y x else 0) - (fun y x => if ex * y - ey * x = k - (ex * dy - ey * dx) then f y x else 0) (y - dy) (x - dx) := by
    unfold L
    refine TT_congr fun y x _ _ _ _ => ?_
    have e : (ex * (y - dy) - ey * (x - dx) = k - (ex * dy - ey * dx)) ↔ ex * y - ey * x = k := by
      rw [Int.mul_sub, Int.mul_sub]
      omega
    unfold mns
    by_cases h : ex * y - ey * x = k
    · rw [if_pos h, if_pos h]
      show _ = _ - (if _ then _ else _)
      rw [if_pos (e.2 h)]
    · rw [if_neg h, if_neg h]
      show _ = _ - (if _ then _ else _)
      rw [if_neg fun x => h (e.1 x)]
      rfl
  have hB : In y0 x0 R C fun y x => if ex * y - ey * x = k - (ex * dy - ey * dx) then f y x else 0 := fun y x h => by
    show (if _ then f y x else 0) = 0
    rw [hf y x h]
    split <;> rfl
  rw [e1, TT_sub, TT_shift hB r1 r2 r3 r4 g1 g2 g3 g4 hR hC]
  rfl

/-- In its own direction the shifted copy has the same sums. -/
theorem L_mns_self {N : Nat} {dx dy y0 x0 R C : Int} {f : Int → Int → Int} (hf : In y0 x0 R C f) (hR : 0 ≤ R) (hC : 0 ≤ C) (r1 : -(N : Int) ≤ y0) (r2 : y0 + R ≤ N) (r3 : -(N : Int) ≤ x0) (r4 : x0 + C ≤ N) (g1 : -(N : Int) ≤ y0 + dy) (g2 : y0 + R + dy ≤ N) (g3 : -(N : Int) ≤ x0 + dx) (g4 : x0 + C + dx ≤ N) (k : Int) :
    L N dx dy (mns dx dy f) k = 0 := by
  rw [L_mns hf hR hC r1 r2 r3 r4 g1 g2 g3 g4, show dx * dy - dy * dx = 0 by rw [Int.mul_comm]; omega, Int.sub_zero]
  omega

/-- It is not 0. -/
theorem mns_ne {dx dy y0 x0 R C : Int} {f : Int → Int → Int} (hf : In y0 x0 R C f) (hx : 0 ≤ dx) (hd : dx ≠ 0 ∨ 0 < dy) (h : ∃ y x, f y x ≠ 0) : ∃ y x, mns dx dy f y x ≠ 0 := by
  apply Classical.byContradiction
  intro hn
  have hz : ∀ y x, f y x = f (y - dy) (x - dx) := fun y x => by
    apply Classical.byContradiction
    intro e
    exact hn ⟨y, x, by unfold mns; omega⟩
  have many : ∀ (n : Nat) (y x : Int), f y x = f (y - n * dy) (x - n * dx) := by
    intro n
    induction n with
    | zero => intro y x; simp
    | succ n ih =>
      intro y x
      rw [ih y x, hz (y - n * dy) (x - n * dx)]
      congr 1 <;> rw [show ((n + 1 : Nat) : Int) = (n : Int) + 1 by omega, Int.add_mul, Int.one_mul] <;> omega
  obtain ⟨y, x, hyx⟩ := h
  apply hyx
  rw [many ((x - x0).natAbs + (y - y0).natAbs + 1) y x]
  apply hf
  generalize hK : (x - x0).natAbs + (y - y0).natAbs + 1 = K
  rcases hd with hd | hd
  · have := Int.mul_le_mul_of_nonneg_left (show (1 : Int) ≤ dx by omega) (show (0 : Int) ≤ (K : Int) by omega)
    omega
  · have := Int.mul_le_mul_of_nonneg_left (show (1 : Int) ≤ dy by omega) (show (0 : Int) ≤ (K : Int) by omega)
    omega

theorem mns_small {dx dy : Int} {f : Int → Int → Int} {B : Nat} (h : ∀ y x, (f y x).natAbs ≤ B) (y x : Int) : (mns dx dy f y x).natAbs ≤ 2 * B := by
  have h1 := h y x
  have h2 := h (y - dy) (x - dx)
  unfold mns
  omega

/-- The ghost of some directions. -/
def ghost : List (Int × Int) → (Int → Int → Int) → (Int → Int → Int)
  | [], f => f
  | d :: l, f => ghost l (mns d.1 d.2 f)

def upI (l : List (Int × Int)) : Int := (l.map fun p => if 0 ≤ p.2 then p.2 else -p.2).sum
def overI (l : List (Int × Int)) : Int := (l.map fun p => p.1).sum
def backI (l : List (Int × Int)) : Int := (l.map fun p => if 0 ≤ p.2 then 0 else -p.2).sum

theorem upI_nonneg : ∀ l : List (Int × Int), 0 ≤ upI l
  | [] => by simp [upI]
  | p :: l => by
    have := upI_nonneg l
    simp only [upI, List.map_cons, List.sum_cons] at this ⊢
    split <;> omega
theorem overI_nonneg : ∀ l : List (Int × Int), (∀ p ∈ l, 0 ≤ p.1) → 0 ≤ overI l
  | [], _ => by simp [overI]
  | p :: l, h => by
    have := overI_nonneg l fun q hq => h q (List.mem_cons_of_mem _ hq)
    have := h p List.mem_cons_self
    simp only [overI, List.map_cons, List.sum_cons] at *
    omega

/-- THE GHOST HAS NO SUM in its directions, nor where there was none; it is not 0; it lies within its size; it is small. -/
theorem ghost_all (N : Nat) : ∀ (l : List (Int × Int)) (f : Int → Int → Int) (y0 x0 R C : Int) (B : Nat) (E : List (Int × Int)), (∀ p ∈ l, 0 ≤ p.1 ∧ (p.1 ≠ 0 ∨ 0 < p.2)) → In y0 x0 R C f → 0 ≤ R → 0 ≤ C → -(N : Int) ≤ y0 - upI l → y0 + R + upI l ≤ N → -(N : Int) ≤ x0 → x0 + C + overI l ≤ N →
    (∀ y x, (f y x).natAbs ≤ B) → (∃ y x, f y x ≠ 0) → (∀ e ∈ E, ∀ k, L N e.1 e.2 f k = 0) →
    In (y0 - backI l) x0 (R + upI l) (C + overI l) (ghost l f) ∧ (∀ y x, (ghost l f y x).natAbs ≤ 2 ^ l.length * B) ∧ (∃ y x, ghost l f y x ≠ 0) ∧ (∀ e ∈ E ++ l, ∀ k, L N e.1 e.2 (ghost l f) k = 0)
  | [], f, y0, x0, R, C, B, E, _, hf, _, _, _, _, _, _, hB, hne, hE => by
    refine ⟨by simpa [backI, upI, overI, ghost] using hf, by simpa [ghost] using hB, hne, by simpa [ghost] using hE⟩
  | p :: l, f, y0, x0, R, C, B, E, hl, hf, hR, hC, r1, r2, r3, r4, hB, hne, hE => by
    have hp := hl p List.mem_cons_self
    have hl' : ∀ q ∈ l, 0 ≤ q.1 ∧ (q.1 ≠ 0 ∨ 0 < q.2) := fun q hq => hl q (List.mem_cons_of_mem _ hq)
    have u0 := upI_nonneg l
    have o0 := overI_nonneg l fun q hq => (hl' q hq).1
    have eu : upI (p :: l) = (if 0 ≤ p.2 then p.2 else -p.2) + upI l := by simp [upI]
    have eo : overI (p :: l) = p.1 + overI l := by simp [overI]
    have eb : backI (p :: l) = (if 0 ≤ p.2 then 0 else -p.2) + backI l := by simp [backI]
    rw [eu] at r1 r2
    rw [eo] at r4
    have hb : 0 ≤ (if 0 ≤ p.2 then p.2 else -p.2) ∧ p.2 ≤ (if 0 ≤ p.2 then p.2 else -p.2) ∧ -p.2 ≤ (if 0 ≤ p.2 then p.2 else -p.2) := by split <;> omega
    obtain ⟨k1, k2, k3, k4⟩ := ghost_all N l (mns p.1 p.2 f) _ _ _ _ (2 * B) (E ++ [p]) hl' (mns_in hp.1 hf) (by omega) (by omega) (by split <;> omega) (by split <;> omega) r3 (by omega) (mns_small hB) (mns_ne hf hp.1 hp.2 hne) (fun e he k => by
      rcases List.mem_append.1 he with he | he
      · rw [L_mns hf hR hC (by omega) (by omega) r3 (by omega) (by omega) (by omega) (by omega) (by omega), hE e he, hE e he]
        rfl
      · obtain rfl : e = p := by simpa using he
        exact L_mns_self hf hR hC (by omega) (by omega) r3 (by omega) (by omega) (by omega) (by omega) (by omega) k)
    refine ⟨?_, fun y x => ?_, k3, by simpa [ghost, List.append_assoc] using k4⟩
    · rw [eb, eu, eo]
      show In _ _ _ _ (ghost l (mns p.1 p.2 f))
      intro y x h
      refine k1 y x ?_
      split at h <;> rename_i hq <;> simp only [hq, ↓reduceIte] at h ⊢ <;> omega
    · have := k2 y x
      show (ghost l (mns p.1 p.2 f) y x).natAbs ≤ _
      rw [List.length_cons, Nat.pow_succ]
      rw [Nat.mul_assoc]
      exact this
end Go.Katz
/-! PURE: the sums of a grid on its lines, cell by cell, and L; the sums of a grid and a ghost; the total over all lines. s: any sum over numbers. -/
namespace Go.Katz

/-- The grid of a function on rows and columns. -/
def box (R C : Nat) (f : Nat → Nat → Int) (y x : Int) : Int := if 0 ≤ y ∧ y < R ∧ 0 ≤ x ∧ x < C then f y.toNat x.toNat else 0

theorem box_in (R C : Nat) (f : Nat → Nat → Int) : In 0 0 R C (box R C f) := fun y x h => by
  unfold box
  rw [if_neg (by omega)]

theorem box_of {R C : Nat} {f : Int → Int → Int} (h : In 0 0 R C f) (y x : Int) : box R C (fun y x => f y x) y x = f y x := by
  unfold box
  split
  · show f ((y.toNat : Nat) : Int) ((x.toNat : Nat) : Int) = f y x
    rw [show ((y.toNat : Nat) : Int) = y by omega, show ((x.toNat : Nat) : Int) = x by omega]
  · rw [h y x (by omega)]

theorem L_congr {N : Nat} {dx dy : Int} {f g : Int → Int → Int} (h : ∀ y x, f y x = g y x) (k : Int) : L N dx dy f k = L N dx dy g k := by
  unfold L
  refine TT_congr fun y x _ _ _ _ => ?_
  rw [h]

/-- The sums of a difference. -/
theorem L_sub {N : Nat} {dx dy : Int} (f g : Int → Int → Int) (k : Int) : L N dx dy (fun y x => f y x - g y x) k = L N dx dy f k - L N dx dy g k := by
  unfold L
  rw [← TT_sub]
  refine TT_congr fun y x _ _ _ _ => ?_
  split <;> rfl

section
variable {s : (Nat → Int) → Nat → Int} (s0 : ∀ h, s h 0 = 0) (s1 : ∀ h n, s h (n + 1) = s h n + h n)
include s0 s1

theorem s_add (h : Nat → Int) (b : Nat) : ∀ n, s h (b + n) = s h b + s (fun x => h (b + x)) n
  | 0 => by rw [s0]; simp
  | n + 1 => by
    rw [← Nat.add_assoc, s1, s1, s_add h b n]
    omega

theorem T_s (h : Nat → Int) : ∀ n : Nat, T 0 n (fun i => h i.toNat) = s h n
  | 0 => by rw [s0]; rfl
  | n + 1 => by
    show T 0 n _ + _ = _
    rw [T_s h n, s1]
    dsimp only
    rw [show ((0 : Int) + n).toNat = n by omega]

theorem T_rowsS (h : Nat → Int) (C : Nat) : ∀ R : Nat, T 0 R (fun y => T 0 C fun x => h (C * y.toNat + x.toNat)) = s h (C * R)
  | 0 => by rw [Nat.mul_zero, s0]; rfl
  | R + 1 => by
    show T 0 R _ + T 0 C _ = _
    rw [T_rowsS h C R, Nat.mul_succ, s_add s0 s1]
    rw [show ((0 : Int) + R).toNat = R by omega, T_s s0 s1 (fun x => h (C * R + x)) C]

/-- The sum on line k, cell by cell. m: what is taken from a line's number. -/
theorem L_box {N R C : Nat} (hR : R ≤ N) (hC : C ≤ N) (f : Nat → Nat → Int) (dx dy m k : Int) :
    L N dx dy (box R C f) k = s (fun i => if dx * (i / C : Nat) - dy * (i % C : Nat) - m = k - m then f (i / C) (i % C) else 0) (C * R) := by
  have e : L N dx dy (box R C f) k = T 0 R fun y => T 0 C fun x => if dx * y - dy * x = k then box R C f y x else 0 := by
    unfold L TT
    have z : ∀ y x : Int, (y < 0 ∨ (R : Int) ≤ y ∨ x < 0 ∨ (C : Int) ≤ x) → (if dx * y - dy * x = k then box R C f y x else 0) = 0 := fun y x h => by
      rw [box_in R C f y x (by omega)]
      split <;> rfl
    rw [T_wide (a := 0) (n := R) (by omega) (by omega) fun i hi => T_zero fun x _ _ => z i x (by omega)]
    refine T_congr fun y _ _ => ?_
    exact T_wide (a := 0) (n := C) (by omega) (by omega) fun i hi => z y i (by omega)
  rw [e, ← T_rowsS s0 s1]
  refine T_congr fun y y1 y2 => T_congr fun x x1 x2 => ?_
  have e1 : (C * y.toNat + x.toNat) / C = y.toNat := by rw [Nat.mul_add_div (by omega), Nat.div_eq_of_lt (by omega), Nat.add_zero]
  have e2 : (C * y.toNat + x.toNat) % C = x.toNat := by rw [Nat.mul_add_mod, Nat.mod_eq_of_lt (by omega)]
  rw [e1, e2, show ((y.toNat : Nat) : Int) = y by omega, show ((x.toNat : Nat) : Int) = x by omega]
  by_cases h : dx * y - dy * x = k
  · rw [if_pos h, if_pos (by omega)]
    unfold box
    rw [if_pos (by omega)]
  · rw [if_neg h, if_neg (by omega)]
end

/-- Each number lies on one line: the sums over all lines come to the sum of all. -/
theorem total_lines {s : (Nat → Int) → Nat → Int} (s0 : ∀ h, s h 0 = 0) (s1 : ∀ h n, s h (n + 1) = s h n + h n) (ln : Nat → Nat) (v : Nat → Int) (K : Nat) : ∀ n : Nat, (∀ i, i < n → ln i < K) → s (fun k => s (fun i => if ln i = k then v i else 0) n) K = s v n
  | 0, _ => by
    have z : ∀ K, s (fun k => s (fun i => if ln i = k then v i else 0) 0) K = 0 := by
      intro K
      induction K with
      | zero => exact s0 _
      | succ K ih => rw [s1, ih, s0]; rfl
    rw [z, s0]
  | n + 1, h => by
    have split1 : ∀ K, s (fun k => s (fun i => if ln i = k then v i else 0) (n + 1)) K = s (fun k => s (fun i => if ln i = k then v i else 0) n) K + s (fun k => if ln n = k then v n else 0) K := by
      intro K
      induction K with
      | zero => rw [s0, s0, s0]; rfl
      | succ K ih => rw [s1, ih, s1, s1, s1]; omega
    have one : ∀ K, ln n < K → s (fun k => if ln n = k then v n else 0) K = v n := by
      have none : ∀ K, K ≤ ln n → s (fun k => if ln n = k then v n else 0) K = 0 := by
        intro K hK
        induction K with
        | zero => exact s0 _
        | succ K ih => rw [s1, ih (by omega), if_neg (by omega)]; rfl
      intro K hK
      induction K with
      | zero => omega
      | succ K ih =>
        rw [s1]
        by_cases e : ln n = K
        · rw [if_pos e, none K (by omega), Int.zero_add]
        · rw [if_neg e, ih (by omega), Int.add_zero]
    rw [split1, total_lines s0 s1 ln v K n fun i hi => h i (by omega), one K (h n (by omega)), s1]
end Go.Katz
/-! PURE: the ghost as it is built, grid by grid, each from its own upper left corner. -/
namespace Go.Katz

/-- A grid of R rows and C columns. -/
structure Grid where
  R : Nat
  C : Nat
  f : Nat → Nat → Int

def Grid.at (g : Grid) : Int → Int → Int := box g.R g.C g.f

/-- How far the first copy is moved down. -/
def down (dy : Int) : Int := if 0 ≤ dy then 0 else -dy
def tall (dy : Int) : Int := if 0 ≤ dy then dy else -dy

/-- A grid minus its copy that is shifted, in the least rectangle that contains both. -/
def Grid.minus (g : Grid) (d : Int × Int) : Grid := ⟨g.R + (tall d.2).toNat, g.C + d.1.toNat, fun y x => mns d.1 d.2 g.at ((y : Int) - down d.2) x⟩

def Grid.ghost (l : List (Int × Int)) (g : Grid) : Grid := l.foldl Grid.minus g

theorem minus_at (g : Grid) (d : Int × Int) (hd : 0 ≤ d.1) (y x : Int) : (g.minus d).at y x = mns d.1 d.2 g.at (y - down d.2) x := by
  have hin := mns_in (dy := d.2) hd (box_in g.R g.C g.f)
  unfold Grid.at box Grid.minus
  dsimp only
  split
  · rename_i h
    rw [show ((y.toNat : Nat) : Int) = y by omega, show ((x.toNat : Nat) : Int) = x by omega]
    rfl
  · rename_i h
    symm
    refine hin _ _ ?_
    unfold tall at h
    unfold down
    split at h <;> rename_i hh <;> simp only [hh, ↓reduceIte] at h ⊢ <;> omega

theorem ghost_down (a : Int) : ∀ (l : List (Int × Int)) (f g : Int → Int → Int), (∀ y x, g y x = f (y - a) x) → ∀ y x, ghost l g y x = ghost l f (y - a) x
  | [], f, g, h => h
  | d :: l, f, g, h => ghost_down a l (mns d.1 d.2 f) (mns d.1 d.2 g) fun y x => by
    unfold mns
    rw [h, h, show y - d.2 - a = y - a - d.2 by omega]

/-- What is built is the ghost, from its upper left corner. -/
theorem built_ghost : ∀ (l : List (Int × Int)) (g : Grid), (∀ p ∈ l, 0 ≤ p.1) → ∀ y x, (Grid.ghost l g).at y x = ghost l g.at (y - backI l) x
  | [], g, _, y, x => by simp [Grid.ghost, ghost, backI]
  | d :: l, g, h, y, x => by
    show (Grid.ghost l (g.minus d)).at y x = ghost l (mns d.1 d.2 g.at) (y - backI (d :: l)) x
    rw [built_ghost l (g.minus d) (fun p hp => h p (List.mem_cons_of_mem _ hp)), ghost_down (down d.2) l (mns d.1 d.2 g.at) (g.minus d).at fun y x => minus_at g d (h d List.mem_cons_self) y x]
    have : backI (d :: l) = down d.2 + backI l := by simp [backI, down]
    rw [this]
    congr 1
    omega

theorem ghost_size : ∀ (l : List (Int × Int)) (g : Grid), (∀ p ∈ l, 0 ≤ p.1) → ((Grid.ghost l g).R : Int) = g.R + upI l ∧ ((Grid.ghost l g).C : Int) = g.C + overI l
  | [], g, _ => by simp [Grid.ghost, upI, overI]
  | d :: l, g, h => by
    have ih := ghost_size l (g.minus d) fun p hp => h p (List.mem_cons_of_mem _ hp)
    have hd := h d List.mem_cons_self
    have ht : 0 ≤ tall d.2 := by unfold tall; split <;> omega
    have e1 : ((g.minus d).R : Int) = g.R + tall d.2 := by show ((g.R + (tall d.2).toNat : Nat) : Int) = _; omega
    have e2 : ((g.minus d).C : Int) = g.C + d.1 := by show ((g.C + d.1.toNat : Nat) : Int) = _; omega
    have e3 : upI (d :: l) = tall d.2 + upI l := by simp [upI, tall]
    have e4 : overI (d :: l) = d.1 + overI l := by simp [overI]
    refine ⟨?_, ?_⟩
    · show ((Grid.ghost l (g.minus d)).R : Int) = _
      rw [ih.1, e1, e3]; omega
    · show ((Grid.ghost l (g.minus d)).C : Int) = _
      rw [ih.2, e2, e4]; omega

/-- A grid that is moved down has the same sums on other lines. -/
theorem L_down {N : Nat} {dx dy a y0 x0 R C : Int} {f : Int → Int → Int} (hf : In y0 x0 R C f) (hR : 0 ≤ R) (hC : 0 ≤ C) (r1 : -(N : Int) ≤ y0) (r2 : y0 + R ≤ N) (r3 : -(N : Int) ≤ x0) (r4 : x0 + C ≤ N) (g1 : -(N : Int) ≤ y0 + a) (g2 : y0 + R + a ≤ N) (k : Int) :
    L N dx dy (fun y x => f (y - a) x) k = L N dx dy f (k - dx * a) := by
  have hB : In y0 x0 R C fun y x => if dx * y - dy * x = k - dx * a then f y x else 0 := fun y x h => by
    show (if _ then f y x else 0) = 0
    rw [hf y x h]
    split <;> rfl
  have e := TT_shift (dy := a) (dx := 0) hB r1 r2 r3 r4 g1 g2 (by omega) (by omega) hR hC
  unfold L
  rw [← e]
  refine TT_congr fun y x _ _ _ _ => ?_
  dsimp only
  rw [Int.sub_zero, Int.mul_sub]
  by_cases h : dx * y - dy * x = k
  · rw [if_pos h, if_pos (by omega)]
  · rw [if_neg h, if_neg (by omega)]

/-- THE BASIC GHOST, as it is built from the grid with the one element 1: its size, its sums, its elements. -/
theorem basic_ghost (l : List (Int × Int)) (hl : ∀ p ∈ l, 0 ≤ p.1 ∧ (p.1 ≠ 0 ∨ 0 < p.2)) :
    let g := Grid.ghost l ⟨1, 1, fun _ _ => 1⟩
    (g.R : Int) = 1 + upI l ∧ (g.C : Int) = 1 + overI l ∧ (∀ y x, (g.at y x).natAbs ≤ 2 ^ l.length) ∧ (∃ y x, g.at y x ≠ 0) ∧ ∃ N : Nat, g.R ≤ N ∧ g.C ≤ N ∧ ∀ p ∈ l, ∀ k, L N p.1 p.2 g.at k = 0 := by
  intro g
  have hp : ∀ p ∈ l, 0 ≤ p.1 := fun p h => (hl p h).1
  have hs := ghost_size l ⟨1, 1, fun _ _ => 1⟩ hp
  have hb := built_ghost l ⟨1, 1, fun _ _ => 1⟩ hp
  have u0 := upI_nonneg l
  have o0 := overI_nonneg l hp
  let N : Nat := (2 * upI l + overI l + 2).toNat
  have hN : (N : Int) = 2 * upI l + overI l + 2 := by show (((2 * upI l + overI l + 2).toNat : Nat) : Int) = _; omega
  have bu : 0 ≤ backI l ∧ backI l ≤ upI l := by
    clear hl hp hs hb o0 hN u0
    clear N
    clear g
    induction l with
    | nil => simp [backI, upI]
    | cons p l ih =>
      simp only [backI, upI, List.map_cons, List.sum_cons] at ih ⊢
      split <;> omega
  have h1 : Grid.at ⟨1, 1, fun _ _ => 1⟩ 0 0 = 1 := by simp [Grid.at, box]
  obtain ⟨k1, k2, k3, k4⟩ := ghost_all N l (Grid.at ⟨1, 1, fun _ _ => 1⟩) 0 0 1 1 1 [] hl (box_in 1 1 fun _ _ => 1) (by omega) (by omega) (by omega) (by omega) (by omega) (by omega) (fun y x => by
    unfold Grid.at box
    split
    · show (1 : Int).natAbs ≤ 1; decide
    · decide) ⟨0, 0, by rw [h1]; decide⟩ (fun e he => by cases he)
  refine ⟨hs.1, hs.2, fun y x => ?_, ?_, N, ?_, ?_, fun p hpl k => ?_⟩
  · rw [hb]
    have := k2 (y - backI l) x
    omega
  · obtain ⟨y, x, h⟩ := k3
    exact ⟨y + backI l, x, by rw [hb, show y + backI l - backI l = y by omega]; exact h⟩
  · have hs1 : (g.R : Int) = 1 + upI l := hs.1
    omega
  · have hs2 : (g.C : Int) = 1 + overI l := hs.2
    omega
  · rw [L_congr (fun y x => hb y x), L_down k1 (by omega) (by omega) (by omega) (by omega) (by omega) (by omega) (by omega) (by omega)]
    exact k4 p (by simpa using hpl) _
end Go.Katz
/-
  The size of the basic ghost, of the model and of the program.
-/
namespace Go.Proofs.Ytjnnoabaepmcnaa
open Go.RowKit Go.Katz
set_option maxRecDepth 100000

def tallD (d : Int × Int) : Int := if 0 ≤ d.2 then d.2 else -d.2
theorem tallD_max (d : Int × Int) : max d.2 (-d.2) = tallD d := by unfold tallD; split <;> omega
theorem upI_snoc (l : List (Int × Int)) (d : Int × Int) : upI (l ++ [d]) = upI l + tallD d := by simp [upI, tallD]
theorem overI_snoc (l : List (Int × Int)) (d : Int × Int) : overI (l ++ [d]) = overI l + d.1 := by simp [overI]
theorem up_range : ∀ l : List (Int × Int), (∀ d ∈ l, Near d.1 d.2) → 0 ≤ upI l ∧ upI l ≤ 3 * l.length ∧ 0 ≤ overI l ∧ overI l ≤ 3 * l.length
  | [], _ => by simp [upI, overI]
  | d :: l, h => by
    obtain ⟨h1, h2, h3, h4⟩ := up_range l fun e he => h e (List.mem_cons_of_mem _ he)
    obtain ⟨n1, n2, n3, n4⟩ := h d List.mem_cons_self
    have e1 : upI (d :: l) = tallD d + upI l := by simp [upI, tallD]
    have e2 : overI (d :: l) = d.1 + overI l := by simp [overI]
    have e3 : 0 ≤ tallD d ∧ tallD d ≤ 3 := by unfold tallD; split <;> omega
    rw [e1, e2, List.length_cons]
    omega
theorem dirsB_near {l : List (Int × Int)} (h : dirsB l = true) : ∀ d ∈ l, Near d.1 d.2 := fun d hd => by
  obtain ⟨i, hi, rfl⟩ := List.getElem_of_mem hd
  exact near_of (dirsB_at h hi).1

theorem ret_pair {a b c d : Int} (h1 : a = c) (h2 : b = d) : Ending.returned (.agg #[.int .i64 a, .int .i64 b]) = .returned (.agg #[.int .i64 c, .int .i64 d]) := by rw [h1, h2]
set_option maxHeartbeats 1000000 in
theorem grownBy_any (r c dx dy : Int) (w : World) (hr : 0 ≤ r ∧ r ≤ 100) (hc : 0 ≤ c ∧ c ≤ 100) (hn : Near dx dy) :
    Calls Try.prog 76 #[.agg #[.int .i64 r, .int .i64 c], .agg #[.int .i64 dx, .int .i64 dy]] w fun e w' => e = .returned (.agg #[.int .i64 (r + tallD (dx, dy)), .int .i64 (c + dx)]) ∧ Below w.heap.size w w' := by
  obtain ⟨n1, n2, n3, n4⟩ := hn
  have l1 : IntKind.i64.wrap (-dy) = -dy := IntWalk.i64_in _ (by omega)
  have hm : -3 ≤ max dy (-dy) ∧ max dy (-dy) ≤ 3 := by omega
  have l2 : IntKind.i64.wrap (r + max dy (-dy)) = r + max dy (-dy) := IntWalk.i64_in _ (by omega)
  have l3 : IntKind.i64.wrap (c + dx) = c + dx := IntWalk.i64_in _ (by omega)
  rw [← tallD_max]
  simp only
  go_enter Try.func76, Try.ntmps76
  go_wp2
  all_goals
    refine bodyPost_ret (v := .agg #[.int .i64 (r + max dy (-dy)), .int .i64 (c + dx)]) ?_ rfl ⟨rfl, (((Below.refl _ _).alloc (Nat.le_refl _) _).alloc (by simp) _).alloc (by simp; omega) _⟩
    first | rw [show max dy (-dy) = dy by omega] | rw [show max dy (-dy) = -dy by omega]
    simp [results, Try.results76, go_sem]

/-- A size in a variable. -/
def SizeAt (w : World) (g : Nat) (r c : Int) : Prop := w.heap[g]? = some (.cells #[.int .i64 r, .int .i64 c] 66 (0, 0))
theorem sizeAt_lt {w : World} {g : Nat} {r c : Int} (h : SizeAt w g r c) : g < w.heap.size := (Array.getElem?_eq_some_iff.1 h).1
theorem sizeAt_below {w w' : World} {g : Nat} {r c : Int} (h : SizeAt w g r c) (hb : Below w.heap.size w w') : SizeAt w' g r c := by
  unfold SizeAt; rw [hb.block g (sizeAt_lt h)]; exact h
theorem sizeAt_cells {w : World} {g : Nat} {r c : Int} (h : SizeAt w g r c) : w.cell? ⟨g, 0, none⟩ = some (.int .i64 r) ∧ w.cell? ⟨g, 1, none⟩ = some (.int .i64 c) :=
  ⟨by rw [cell_of_row w g 0 _ _ _ h]; rfl, by rw [cell_of_row w g 1 _ _ _ h]; rfl⟩
theorem Try.sizeSz : (Try.prog.info? 66).map (·.size) = some 2 := by kernel_rfl
theorem wpList_loadSz {ops : Array Oper} {rest : List Oper} {o : Oper} {a : Act} {Q : Exit → Act → World → Prop} {W : World} {g : Nat} {r c : Int} (hb : SizeAt W g r c)
    (hgd : o.guard = none) (x : Operand) (ho : o.op = .load 66 x) (hx : a.eval x = .pointer (some ⟨g, 0, none⟩))
    (h : wpList Try.prog ops Q rest (a.put o.dst (.agg #[.int .i64 r, .int .i64 c])) W) : wpList Try.prog ops Q (o :: rest) a W :=
  wpList_load_row hgd _ x ho g hx _ _ (0, 0) _ hb Try.underlying66 rfl Try.sizeSz h
theorem exec_loadSz {ρ : Operand → Value} {o : Oper} {w : World} {x : Operand} {g : Nat} {r c : Int} (ho : o.op = .load 66 x) (hx : ρ x = .pointer (some ⟨g, 0, none⟩)) (hb : SizeAt w g r c) : (execOp ρ o).run Try.prog w = .ok (.value (.agg #[.int .i64 r, .int .i64 c])) w := by
  unfold execOp
  simp only [ho, hx]
  obtain ⟨h0, h1⟩ := sizeAt_cells hb
  go_simp
theorem wpList_storeSz {ops : Array Oper} {rest : List Oper} {o : Oper} {a : Act} {Q : Exit → Act → World → Prop} {W : World} {g : Nat} {r0 c0 : Int} (hb : SizeAt W g r0 c0) (r c : Int)
    (hgd : o.guard = none) (x y : Operand) (ho : o.op = .store 66 x y) (hx : a.eval x = .pointer (some ⟨g, 0, none⟩)) (hy : a.eval y = .agg #[.int .i64 r, .int .i64 c])
    (h : ∀ w', SizeAt w' g r c → W.grownBy w' (some g) → w'.heap.size = W.heap.size → wpList Try.prog ops Q rest (a.put o.dst undef) w') : wpList Try.prog ops Q (o :: rest) a W := by
  refine wpList_plain hgd fun K hK => ?_
  unfold Oper.wp execOp
  simp only [ho, hx, hy, Instr.storeAt, Instr.sureAddr, Sem.run_bind, Sem.run_pure, Result.andThen_ok, run_storeVar_row W g 66 66 #[.int .i64 r0, .int .i64 c0] #[.int .i64 r, .int .i64 c] hb (by rw [Try.sizeSz]; rfl) rfl (by simp [Value.oneCell'])]
  exact hK _ _ (h _ (setRow_heap W g _ _ _ (0, 0) hb) ⟨rfl, rfl, rfl, by simp, fun k hk hr => setRow_other W g k _ (fun e => hr (by rw [e]))⟩ (by simp))
theorem sizeAt_grown {w w' : World} {g : Nat} {r c : Int} {row : Option Nat} (h : SizeAt w g r c) (hg : w.grownBy w' row) (hr : row ≠ some g) : SizeAt w' g r c := by
  unfold SizeAt; rw [hg.block g (sizeAt_lt h) (Ne.symm hr)]; exact h

set_option maxHeartbeats 2000000 in
theorem ghostSize_any (v : Value) (l : List (Int × Int)) (w : World) (hin : InDrs w v l) (hl : ∀ d ∈ l, Near d.1 d.2) (h4 : l.length ≤ 4) :
    Calls Try.prog 47 #[v] w fun e w' => e = .returned (.agg #[.int .i64 (1 + upI l), .int .i64 (1 + overI l)]) ∧ Below w.heap.size w w' := by
  obtain ⟨a, c, rfl, -, hp⟩ := hin
  have HP := hide hp; have HL := hide hl
  obtain ⟨n, hn⟩ : ∃ n, n = l.length := ⟨_, rfl⟩
  have HN := hide hn
  rw [← hn] at h4 ⊢
  clear hp hl hn
  go_enter Try.func47, Try.ntmps47
  go_wp2
  have hb1 : Below w.heap.size w (w.alloc (.cells #[.int .i64 0, .int .i64 0] 66)) := (Below.refl _ _).alloc (Nat.le_refl _) _
  have hb2 := hb1.alloc hb1.size (.cells #[.int .i64 1, .int .i64 1] 66)
  go_loopw [9] (fun i w' => ∃ k : Nat, k ≤ n ∧ i = .int .i64 k ∧ SizeAt w' w.heap.size 0 0 ∧ SizeAt w' (w.heap.size + 1) (1 + upI (l.take k)) (1 + overI (l.take k)) ∧ Below w.heap.size w w') (fun i _ => n - (intOf i).toNat)
  case atStart =>
    refine ⟨0, Nat.zero_le _, rfl, sizeAt_below (heap_alloc_new w _) ((Below.refl _ _).alloc (Nat.le_refl _) _), ?_, hb2⟩
    have := heap_alloc_new (w.alloc (.cells #[.int .i64 0, .int .i64 0] 66)) (.cells #[.int .i64 1, .int .i64 1] 66)
    simpa [SizeAt, upI, overI] using this
  case round =>
    obtain ⟨k, hk, rfl, h0, h1, hb⟩ := hrel
    have H0 := hide h0; have H1 := hide h1; have HB := hide hb
    clear h0 h1 hb
    by_cases hlt : k < n
    · have hltI : (k : Int) < n := by omega
      have hkl : k < l.length := by rw [← HN.out]; exact hlt
      obtain ⟨g, o, rfl, hg, hcl⟩ := HP.out.resolve_left (by rw [← HN.out]; omega)
      have hc := drC_below (hcl k hkl) HB.out hg
      have HTK : Hid (1 + upI (l.take (k + 1)) = 1 + upI (l.take k) + tallD l[k] ∧ 1 + overI (l.take (k + 1)) = 1 + overI (l.take k) + l[k].1) := hide (by
        rw [List.take_succ_eq_append_getElem hkl, upI_snoc, overI_snoc]; omega)
      have HNR := hide (HL.out _ (List.getElem_mem hkl))
      have hr := up_range (l.take k) fun e he => HL.out e (List.mem_of_mem_take he)
      rw [List.length_take] at hr
      obtain ⟨r1, r2, r3, r4⟩ := hr
      obtain ⟨U, hU⟩ : ∃ U, U = 1 + upI (l.take k) := ⟨_, rfl⟩
      obtain ⟨V, hV⟩ : ∃ V, V = 1 + overI (l.take k) := ⟨_, rfl⟩
      have hUb : 0 ≤ U ∧ U ≤ 100 := by omega
      have hVb : 0 ≤ V ∧ V ≤ 100 := by omega
      rw [← hU, ← hV] at H1 HTK
      obtain ⟨d, hd⟩ : ∃ d, d = l[k] := ⟨_, rfl⟩
      rw [← hd] at hc HTK HNR
      have HUB := hide hUb; have HVB := hide hVb
      clear hcl hU hV hd r1 r2 r3 r4 hUb hVb
      obtain ⟨dx, dy⟩ := d
      obtain ⟨c0, c1⟩ := hc
      simp only at c0 c1
      have HBX : Hid (Below wr.heap.size wr (wr.alloc (.cells #[.int .i64 dx, .int .i64 dy] 29))) := hide ((Below.refl _ _).alloc (Nat.le_refl _) _)
      have HD1 : Hid (DirAt (wr.alloc (.cells #[.int .i64 dx, .int .i64 dy] 29)) wr.heap.size dx dy) := hide (heap_alloc_new wr _)
      have HS1 := hide (sizeAt_below H1.out HBX.out)
      have HS0 := hide (sizeAt_below H0.out HBX.out)
      have HB1 := hide (HB.out.trans (HBX.out.mono HB.out.size))
      go_wp2_with (first | (with_reducible refine wpList_loadSz HS1.out rfl _ rfl rfl ?_) | (with_reducible refine wpList_loadDir HD1.out rfl _ rfl rfl ?_) | ((with_reducible refine (grownBy_any U V dx dy _ HUB.out HVB.out HNR.out).mono ?_); rintro e w2 ⟨rfl, hb⟩; have HS2 := hide (sizeAt_below HS1.out hb); have HT2 := hide (sizeAt_below HS0.out hb); have HB2 := hide (HB1.out.trans (hb.mono HB1.out.size)); clear hb) | ((with_reducible refine wpList_storeSz HS2.out (U + tallD (dx, dy)) (V + dx) rfl _ _ rfl rfl rfl ?_); intro w3 hs hg3 hz; have HS3 := hide hs; have HT3 := hide (sizeAt_grown HT2.out hg3 (by simp)); have HB3 := hide (HB2.out.trans (grown_below hg3 (fun q hq => by cases hq; omega) HB2.out.size)); clear hs hg3 hz))
      go_roundw
      case rel => exact ⟨k + 1, by omega, by go_num, HT3.out, by rw [HTK.out.1, HTK.out.2]; exact HS3.out, HB3.out⟩
      case measure => simp [intOf]; omega
    · obtain rfl : k = n := by omega
      have HE : Hid (l.take k = l) := hide (List.take_of_length_le (by rw [HN.out]; exact Nat.le_refl _))
      rw [HE.out] at H1
      go_wp2_with (first | (with_reducible refine wpList_loadSz H1.out rfl _ rfl rfl ?_) | ((with_reducible refine wpList_storeSz H0.out (1 + upI l) (1 + overI l) rfl _ _ rfl rfl rfl ?_); intro w3 hs hg3 hz; have HS3 := hide hs; have HB3 := hide (HB.out.trans (grown_below hg3 (fun q hq => by cases hq; omega) HB.out.size)); clear hg3 hz))
      refine bodyPost_ret (v := .agg #[.int .i64 (1 + upI l), .int .i64 (1 + overI l)]) ?_ rfl ⟨rfl, HB3.out⟩
      obtain ⟨q0, q1⟩ := sizeAt_cells HS3.out
      simp [results, Try.results47, go_sem, q0, q1]
end Go.Proofs.Ytjnnoabaepmcnaa
