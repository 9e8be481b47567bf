/-
  Texts of this claim, one behind the other: GhostP, GhostB, GhostC, Gsz, Grid, GszB, Hold, Sums, LawsQ.
-/
import Derived.Test.YtjnnoabaepmcnaaPackF
import Derived.Test.YtjnnoabaepmcnaaPackC
import Derived.Deep.CutRange
import Derived.BigQuiet
import Derived.Test.YtjnnoabaepmcnaaPackB
/-! PURE: the basic ghost: a grid minus its shifted copy has no sum in the shift's direction, and none where it had none; it is not 0; its elements are small (for FnGhosts). -/
namespace Go.Katz

/-- A grid minus its copy that is shifted. -/
def mns (dx dy : Int) (f : Int → Int → Int) (y x : Int) : Int := f y x - f (y - dy) (x - dx)

theorem mns_in {dx dy y0 x0 R C : Int} {f : Int → Int → Int} (hx : 0 ≤ dx) (hf : In y0 x0 R C f) : In (if 0 ≤ dy then y0 else y0 + dy) x0 (R + (if 0 ≤ dy then dy else -dy)) (C + dx) (mns dx dy f) := by
  intro y x h
  unfold mns
  by_cases hd : 0 ≤ dy
  · rw [if_pos hd, if_pos hd] at h
    rw [hf y x (by omega), hf (y - dy) (x - dx) (by omega)]
    rfl
  · rw [if_neg hd, if_neg hd] at h
    rw [hf y x (by omega), hf (y - dy) (x - dx) (by omega)]
    rfl

/-- The sums of the shifted copy. -/
theorem L_mns {N : Nat} {dx dy ex ey y0 x0 R C : Int} {f : Int → Int → Int} (hf : In y0 x0 R C f) (hR : 0 ≤ R) (hC : 0 ≤ C) (r1 : -(N : Int) ≤ y0) (r2 : y0 + R ≤ N) (r3 : -(N : Int) ≤ x0) (r4 : x0 + C ≤ N) (g1 : -(N : Int) ≤ y0 + dy) (g2 : y0 + R + dy ≤ N) (g3 : -(N : Int) ≤ x0 + dx) (g4 : x0 + C + dx ≤ N) (k : Int) :
    L N ex ey (mns dx dy f) k = L N ex ey f k - L N ex ey f (k - (ex * dy - ey * dx)) := by
  have e1 : L N ex ey (mns dx dy f) k = TT N fun y x => (if ex * y - ey * x = k then f y x else 0) - (fun y x => if ex * y - ey * x = k - (ex * dy - ey * dx) then f y x else 0) (y - dy) (x - dx) := by
    unfold L
    refine TT_congr fun y x _ _ _ _ => ?_
    have e : (ex * (y - dy) - ey * (x - dx) = k - (ex * dy - ey * dx)) ↔ ex * y - ey * x = k := by
      rw [Int.mul_sub, Int.mul_sub]
      omega
    unfold mns
    by_cases h : ex * y - ey * x = k
    · rw [if_pos h, if_pos h]
      show _ = _ - (if _ then _ else _)
      rw [if_pos (e.2 h)]
    · rw [if_neg h, if_neg h]
      show _ = _ - (if _ then _ else _)
      rw [if_neg fun x => h (e.1 x)]
      rfl
  have hB : In y0 x0 R C fun y x => if ex * y - ey * x = k - (ex * dy - ey * dx) then f y x else 0 := fun y x h => by
    show (if _ then f y x else 0) = 0
    rw [hf y x h]
    split <;> rfl
  rw [e1, TT_sub, TT_shift hB r1 r2 r3 r4 g1 g2 g3 g4 hR hC]
  rfl

/-- In its own direction the shifted copy has the same sums. -/
theorem L_mns_self {N : Nat} {dx dy y0 x0 R C : Int} {f : Int → Int → Int} (hf : In y0 x0 R C f) (hR : 0 ≤ R) (hC : 0 ≤ C) (r1 : -(N : Int) ≤ y0) (r2 : y0 + R ≤ N) (r3 : -(N : Int) ≤ x0) (r4 : x0 + C ≤ N) (g1 : -(N : Int) ≤ y0 + dy) (g2 : y0 + R + dy ≤ N) (g3 : -(N : Int) ≤ x0 + dx) (g4 : x0 + C + dx ≤ N) (k : Int) :
    L N dx dy (mns dx dy f) k = 0 := by
  rw [L_mns hf hR hC r1 r2 r3 r4 g1 g2 g3 g4, show dx * dy - dy * dx = 0 by rw [Int.mul_comm]; omega, Int.sub_zero]
  omega

/-- It is not 0. -/
theorem mns_ne {dx dy y0 x0 R C : Int} {f : Int → Int → Int} (hf : In y0 x0 R C f) (hx : 0 ≤ dx) (hd : dx ≠ 0 ∨ 0 < dy) (h : ∃ y x, f y x ≠ 0) : ∃ y x, mns dx dy f y x ≠ 0 := by
  apply Classical.byContradiction
  intro hn
  have hz : ∀ y x, f y x = f (y - dy) (x - dx) := fun y x => by
    apply Classical.byContradiction
    intro e
    exact hn ⟨y, x, by unfold mns; omega⟩
  have many : ∀ (n : Nat) (y x : Int), f y x = f (y - n * dy) (x - n * dx) := by
    intro n
    induction n with
    | zero => intro y x; simp
    | succ n ih =>
      intro y x
      rw [ih y x, hz (y - n * dy) (x - n * dx)]
      congr 1 <;> rw [show ((n + 1 : Nat) : Int) = (n : Int) + 1 by omega, Int.add_mul, Int.one_mul] <;> omega
  obtain ⟨y, x, hyx⟩ := h
  apply hyx
  rw [many ((x - x0).natAbs + (y - y0).natAbs + 1) y x]
  apply hf
  generalize hK : (x - x0).natAbs + (y - y0).natAbs + 1 = K
  rcases hd with hd | hd
  · have := Int.mul_le_mul_of_nonneg_left (show (1 : Int) ≤ dx by omega) (show (0 : Int) ≤ (K : Int) by omega)
    omega
  · have := Int.mul_le_mul_of_nonneg_left (show (1 : Int) ≤ dy by omega) (show (0 : Int) ≤ (K : Int) by omega)
    omega

theorem mns_small {dx dy : Int} {f : Int → Int → Int} {B : Nat} (h : ∀ y x, (f y x).natAbs ≤ B) (y x : Int) : (mns dx dy f y x).natAbs ≤ 2 * B := by
  have h1 := h y x
  have h2 := h (y - dy) (x - dx)
  unfold mns
  omega

/-- The ghost of some directions. -/
def ghost : List (Int × Int) → (Int → Int → Int) → (Int → Int → Int)
  | [], f => f
  | d :: l, f => ghost l (mns d.1 d.2 f)

def upI (l : List (Int × Int)) : Int := (l.map fun p => if 0 ≤ p.2 then p.2 else -p.2).sum
def overI (l : List (Int × Int)) : Int := (l.map fun p => p.1).sum
def backI (l : List (Int × Int)) : Int := (l.map fun p => if 0 ≤ p.2 then 0 else -p.2).sum

theorem upI_nonneg : ∀ l : List (Int × Int), 0 ≤ upI l
  | [] => by simp [upI]
  | p :: l => by
    have := upI_nonneg l
    simp only [upI, List.map_cons, List.sum_cons] at this ⊢
    split <;> omega
theorem overI_nonneg : ∀ l : List (Int × Int), (∀ p ∈ l, 0 ≤ p.1) → 0 ≤ overI l
  | [], _ => by simp [overI]
  | p :: l, h => by
    have := overI_nonneg l fun q hq => h q (List.mem_cons_of_mem _ hq)
    have := h p List.mem_cons_self
    simp only [overI, List.map_cons, List.sum_cons] at *
    omega

/-- THE GHOST HAS NO SUM in its directions, nor where there was none; it is not 0; it lies within its size; it is small. -/
theorem ghost_all (N : Nat) : ∀ (l : List (Int × Int)) (f : Int → Int → Int) (y0 x0 R C : Int) (B : Nat) (E : List (Int × Int)), (∀ p ∈ l, 0 ≤ p.1 ∧ (p.1 ≠ 0 ∨ 0 < p.2)) → In y0 x0 R C f → 0 ≤ R → 0 ≤ C → -(N : Int) ≤ y0 - upI l → y0 + R + upI l ≤ N → -(N : Int) ≤ x0 → x0 + C + overI l ≤ N →
    (∀ y x, (f y x).natAbs ≤ B) → (∃ y x, f y x ≠ 0) → (∀ e ∈ E, ∀ k, L N e.1 e.2 f k = 0) →
    In (y0 - backI l) x0 (R + upI l) (C + overI l) (ghost l f) ∧ (∀ y x, (ghost l f y x).natAbs ≤ 2 ^ l.length * B) ∧ (∃ y x, ghost l f y x ≠ 0) ∧ (∀ e ∈ E ++ l, ∀ k, L N e.1 e.2 (ghost l f) k = 0)
  | [], f, y0, x0, R, C, B, E, _, hf, _, _, _, _, _, _, hB, hne, hE => by
    refine ⟨by simpa [backI, upI, overI, ghost] using hf, by simpa [ghost] using hB, hne, by simpa [ghost] using hE⟩
  | p :: l, f, y0, x0, R, C, B, E, hl, hf, hR, hC, r1, r2, r3, r4, hB, hne, hE => by
    have hp := hl p List.mem_cons_self
    have hl' : ∀ q ∈ l, 0 ≤ q.1 ∧ (q.1 ≠ 0 ∨ 0 < q.2) := fun q hq => hl q (List.mem_cons_of_mem _ hq)
    have u0 := upI_nonneg l
    have o0 := overI_nonneg l fun q hq => (hl' q hq).1
    have eu : upI (p :: l) = (if 0 ≤ p.2 then p.2 else -p.2) + upI l := by simp [upI]
    have eo : overI (p :: l) = p.1 + overI l := by simp [overI]
    have eb : backI (p :: l) = (if 0 ≤ p.2 then 0 else -p.2) + backI l := by simp [backI]
    rw [eu] at r1 r2
    rw [eo] at r4
    have hb : 0 ≤ (if 0 ≤ p.2 then p.2 else -p.2) ∧ p.2 ≤ (if 0 ≤ p.2 then p.2 else -p.2) ∧ -p.2 ≤ (if 0 ≤ p.2 then p.2 else -p.2) := by split <;> omega
    obtain ⟨k1, k2, k3, k4⟩ := ghost_all N l (mns p.1 p.2 f) _ _ _ _ (2 * B) (E ++ [p]) hl' (mns_in hp.1 hf) (by omega) (by omega) (by split <;> omega) (by split <;> omega) r3 (by omega) (mns_small hB) (mns_ne hf hp.1 hp.2 hne) (fun e he k => by
      rcases List.mem_append.1 he with he | he
      · rw [L_mns hf hR hC (by omega) (by omega) r3 (by omega) (by omega) (by omega) (by omega) (by omega), hE e he, hE e he]
        rfl
      · obtain rfl : e = p := by simpa using he
        exact L_mns_self hf hR hC (by omega) (by omega) r3 (by omega) (by omega) (by omega) (by omega) (by omega) k)
    refine ⟨?_, fun y x => ?_, k3, by simpa [ghost, List.append_assoc] using k4⟩
    · rw [eb, eu, eo]
      show In _ _ _ _ (ghost l (mns p.1 p.2 f))
      intro y x h
      refine k1 y x ?_
      split at h <;> rename_i hq <;> simp only [hq, ↓reduceIte] at h ⊢ <;> omega
    · have := k2 y x
      show (ghost l (mns p.1 p.2 f) y x).natAbs ≤ _
      rw [List.length_cons, Nat.pow_succ]
      rw [Nat.mul_assoc]
      exact this
end Go.Katz
/-! PURE: the sums of a grid on its lines, cell by cell, and L; the sums of a grid and a ghost; the total over all lines. s: any sum over numbers. -/
namespace Go.Katz

/-- The grid of a function on rows and columns. -/
def box (R C : Nat) (f : Nat → Nat → Int) (y x : Int) : Int := if 0 ≤ y ∧ y < R ∧ 0 ≤ x ∧ x < C then f y.toNat x.toNat else 0

theorem box_in (R C : Nat) (f : Nat → Nat → Int) : In 0 0 R C (box R C f) := fun y x h => by
  unfold box
  rw [if_neg (by omega)]

theorem box_of {R C : Nat} {f : Int → Int → Int} (h : In 0 0 R C f) (y x : Int) : box R C (fun y x => f y x) y x = f y x := by
  unfold box
  split
  · show f ((y.toNat : Nat) : Int) ((x.toNat : Nat) : Int) = f y x
    rw [show ((y.toNat : Nat) : Int) = y by omega, show ((x.toNat : Nat) : Int) = x by omega]
  · rw [h y x (by omega)]

theorem L_congr {N : Nat} {dx dy : Int} {f g : Int → Int → Int} (h : ∀ y x, f y x = g y x) (k : Int) : L N dx dy f k = L N dx dy g k := by
  unfold L
  refine TT_congr fun y x _ _ _ _ => ?_
  rw [h]

/-- The sums of a difference. -/
theorem L_sub {N : Nat} {dx dy : Int} (f g : Int → Int → Int) (k : Int) : L N dx dy (fun y x => f y x - g y x) k = L N dx dy f k - L N dx dy g k := by
  unfold L
  rw [← TT_sub]
  refine TT_congr fun y x _ _ _ _ => ?_
  split <;> rfl

section
variable {s : (Nat → Int) → Nat → Int} (s0 : ∀ h, s h 0 = 0) (s1 : ∀ h n, s h (n + 1) = s h n + h n)
include s0 s1

theorem s_add (h : Nat → Int) (b : Nat) : ∀ n, s h (b + n) = s h b + s (fun x => h (b + x)) n
  | 0 => by rw [s0]; simp
  | n + 1 => by
    rw [← Nat.add_assoc, s1, s1, s_add h b n]
    omega

theorem T_s (h : Nat → Int) : ∀ n : Nat, T 0 n (fun i => h i.toNat) = s h n
  | 0 => by rw [s0]; rfl
  | n + 1 => by
    show T 0 n _ + _ = _
    rw [T_s h n, s1]
    dsimp only
    rw [show ((0 : Int) + n).toNat = n by omega]

theorem T_rowsS (h : Nat → Int) (C : Nat) : ∀ R : Nat, T 0 R (fun y => T 0 C fun x => h (C * y.toNat + x.toNat)) = s h (C * R)
  | 0 => by rw [Nat.mul_zero, s0]; rfl
  | R + 1 => by
    show T 0 R _ + T 0 C _ = _
    rw [T_rowsS h C R, Nat.mul_succ, s_add s0 s1]
    rw [show ((0 : Int) + R).toNat = R by omega, T_s s0 s1 (fun x => h (C * R + x)) C]

/-- The sum on line k, cell by cell. m: what is taken from a line's number. -/
theorem L_box {N R C : Nat} (hR : R ≤ N) (hC : C ≤ N) (f : Nat → Nat → Int) (dx dy m k : Int) :
    L N dx dy (box R C f) k = s (fun i => if dx * (i / C : Nat) - dy * (i % C : Nat) - m = k - m then f (i / C) (i % C) else 0) (C * R) := by
  have e : L N dx dy (box R C f) k = T 0 R fun y => T 0 C fun x => if dx * y - dy * x = k then box R C f y x else 0 := by
    unfold L TT
    have z : ∀ y x : Int, (y < 0 ∨ (R : Int) ≤ y ∨ x < 0 ∨ (C : Int) ≤ x) → (if dx * y - dy * x = k then box R C f y x else 0) = 0 := fun y x h => by
      rw [box_in R C f y x (by omega)]
      split <;> rfl
    rw [T_wide (a := 0) (n := R) (by omega) (by omega) fun i hi => T_zero fun x _ _ => z i x (by omega)]
    refine T_congr fun y _ _ => ?_
    exact T_wide (a := 0) (n := C) (by omega) (by omega) fun i hi => z y i (by omega)
  rw [e, ← T_rowsS s0 s1]
  refine T_congr fun y y1 y2 => T_congr fun x x1 x2 => ?_
  have e1 : (C * y.toNat + x.toNat) / C = y.toNat := by rw [Nat.mul_add_div (by omega), Nat.div_eq_of_lt (by omega), Nat.add_zero]
  have e2 : (C * y.toNat + x.toNat) % C = x.toNat := by rw [Nat.mul_add_mod, Nat.mod_eq_of_lt (by omega)]
  rw [e1, e2, show ((y.toNat : Nat) : Int) = y by omega, show ((x.toNat : Nat) : Int) = x by omega]
  by_cases h : dx * y - dy * x = k
  · rw [if_pos h, if_pos (by omega)]
    unfold box
    rw [if_pos (by omega)]
  · rw [if_neg h, if_neg (by omega)]
end

/-- Each number lies on one line: the sums over all lines come to the sum of all. -/
theorem total_lines {s : (Nat → Int) → Nat → Int} (s0 : ∀ h, s h 0 = 0) (s1 : ∀ h n, s h (n + 1) = s h n + h n) (ln : Nat → Nat) (v : Nat → Int) (K : Nat) : ∀ n : Nat, (∀ i, i < n → ln i < K) → s (fun k => s (fun i => if ln i = k then v i else 0) n) K = s v n
  | 0, _ => by
    have z : ∀ K, s (fun k => s (fun i => if ln i = k then v i else 0) 0) K = 0 := by
      intro K
      induction K with
      | zero => exact s0 _
      | succ K ih => rw [s1, ih, s0]; rfl
    rw [z, s0]
  | n + 1, h => by
    have split1 : ∀ K, s (fun k => s (fun i => if ln i = k then v i else 0) (n + 1)) K = s (fun k => s (fun i => if ln i = k then v i else 0) n) K + s (fun k => if ln n = k then v n else 0) K := by
      intro K
      induction K with
      | zero => rw [s0, s0, s0]; rfl
      | succ K ih => rw [s1, ih, s1, s1, s1]; omega
    have one : ∀ K, ln n < K → s (fun k => if ln n = k then v n else 0) K = v n := by
      have none : ∀ K, K ≤ ln n → s (fun k => if ln n = k then v n else 0) K = 0 := by
        intro K hK
        induction K with
        | zero => exact s0 _
        | succ K ih => rw [s1, ih (by omega), if_neg (by omega)]; rfl
      intro K hK
      induction K with
      | zero => omega
      | succ K ih =>
        rw [s1]
        by_cases e : ln n = K
        · rw [if_pos e, none K (by omega), Int.zero_add]
        · rw [if_neg e, ih (by omega), Int.add_zero]
    rw [split1, total_lines s0 s1 ln v K n fun i hi => h i (by omega), one K (h n (by omega)), s1]
end Go.Katz
/-! PURE: the ghost as it is built, grid by grid, each from its own upper left corner. -/
namespace Go.Katz

/-- A grid of R rows and C columns. -/
structure Grid where
  R : Nat
  C : Nat
  f : Nat → Nat → Int

def Grid.at (g : Grid) : Int → Int → Int := box g.R g.C g.f

/-- How far the first copy is moved down. -/
def down (dy : Int) : Int := if 0 ≤ dy then 0 else -dy
def tall (dy : Int) : Int := if 0 ≤ dy then dy else -dy

/-- A grid minus its copy that is shifted, in the least rectangle that contains both. -/
def Grid.minus (g : Grid) (d : Int × Int) : Grid := ⟨g.R + (tall d.2).toNat, g.C + d.1.toNat, fun y x => mns d.1 d.2 g.at ((y : Int) - down d.2) x⟩

def Grid.ghost (l : List (Int × Int)) (g : Grid) : Grid := l.foldl Grid.minus g

theorem minus_at (g : Grid) (d : Int × Int) (hd : 0 ≤ d.1) (y x : Int) : (g.minus d).at y x = mns d.1 d.2 g.at (y - down d.2) x := by
  have hin := mns_in (dy := d.2) hd (box_in g.R g.C g.f)
  unfold Grid.at box Grid.minus
  dsimp only
  split
  · rename_i h
    rw [show ((y.toNat : Nat) : Int) = y by omega, show ((x.toNat : Nat) : Int) = x by omega]
    rfl
  · rename_i h
    symm
    refine hin _ _ ?_
    unfold tall at h
    unfold down
    split at h <;> rename_i hh <;> simp only [hh, ↓reduceIte] at h ⊢ <;> omega

theorem ghost_down (a : Int) : ∀ (l : List (Int × Int)) (f g : Int → Int → Int), (∀ y x, g y x = f (y - a) x) → ∀ y x, ghost l g y x = ghost l f (y - a) x
  | [], f, g, h => h
  | d :: l, f, g, h => ghost_down a l (mns d.1 d.2 f) (mns d.1 d.2 g) fun y x => by
    unfold mns
    rw [h, h, show y - d.2 - a = y - a - d.2 by omega]

/-- What is built is the ghost, from its upper left corner. -/
theorem built_ghost : ∀ (l : List (Int × Int)) (g : Grid), (∀ p ∈ l, 0 ≤ p.1) → ∀ y x, (Grid.ghost l g).at y x = ghost l g.at (y - backI l) x
  | [], g, _, y, x => by simp [Grid.ghost, ghost, backI]
  | d :: l, g, h, y, x => by
    show (Grid.ghost l (g.minus d)).at y x = ghost l (mns d.1 d.2 g.at) (y - backI (d :: l)) x
    rw [built_ghost l (g.minus d) (fun p hp => h p (List.mem_cons_of_mem _ hp)), ghost_down (down d.2) l (mns d.1 d.2 g.at) (g.minus d).at fun y x => minus_at g d (h d List.mem_cons_self) y x]
    have : backI (d :: l) = down d.2 + backI l := by simp [backI, down]
    rw [this]
    congr 1
    omega

theorem ghost_size : ∀ (l : List (Int × Int)) (g : Grid), (∀ p ∈ l, 0 ≤ p.1) → ((Grid.ghost l g).R : Int) = g.R + upI l ∧ ((Grid.ghost l g).C : Int) = g.C + overI l
  | [], g, _ => by simp [Grid.ghost, upI, overI]
  | d :: l, g, h => by
    have ih := ghost_size l (g.minus d) fun p hp => h p (List.mem_cons_of_mem _ hp)
    have hd := h d List.mem_cons_self
    have ht : 0 ≤ tall d.2 := by unfold tall; split <;> omega
    have e1 : ((g.minus d).R : Int) = g.R + tall d.2 := by show ((g.R + (tall d.2).toNat : Nat) : Int) = _; omega
    have e2 : ((g.minus d).C : Int) = g.C + d.1 := by show ((g.C + d.1.toNat : Nat) : Int) = _; omega
    have e3 : upI (d :: l) = tall d.2 + upI l := by simp [upI, tall]
    have e4 : overI (d :: l) = d.1 + overI l := by simp [overI]
    refine ⟨?_, ?_⟩
    · show ((Grid.ghost l (g.minus d)).R : Int) = _
      rw [ih.1, e1, e3]; omega
    · show ((Grid.ghost l (g.minus d)).C : Int) = _
      rw [ih.2, e2, e4]; omega

/-- A grid that is moved down has the same sums on other lines. -/
theorem L_down {N : Nat} {dx dy a y0 x0 R C : Int} {f : Int → Int → Int} (hf : In y0 x0 R C f) (hR : 0 ≤ R) (hC : 0 ≤ C) (r1 : -(N : Int) ≤ y0) (r2 : y0 + R ≤ N) (r3 : -(N : Int) ≤ x0) (r4 : x0 + C ≤ N) (g1 : -(N : Int) ≤ y0 + a) (g2 : y0 + R + a ≤ N) (k : Int) :
    L N dx dy (fun y x => f (y - a) x) k = L N dx dy f (k - dx * a) := by
  have hB : In y0 x0 R C fun y x => if dx * y - dy * x = k - dx * a then f y x else 0 := fun y x h => by
    show (if _ then f y x else 0) = 0
    rw [hf y x h]
    split <;> rfl
  have e := TT_shift (dy := a) (dx := 0) hB r1 r2 r3 r4 g1 g2 (by omega) (by omega) hR hC
  unfold L
  rw [← e]
  refine TT_congr fun y x _ _ _ _ => ?_
  dsimp only
  rw [Int.sub_zero, Int.mul_sub]
  by_cases h : dx * y - dy * x = k
  · rw [if_pos h, if_pos (by omega)]
  · rw [if_neg h, if_neg (by omega)]

/-- THE BASIC GHOST, as it is built from the grid with the one element 1: its size, its sums, its elements. -/
theorem basic_ghost (l : List (Int × Int)) (hl : ∀ p ∈ l, 0 ≤ p.1 ∧ (p.1 ≠ 0 ∨ 0 < p.2)) :
    let g := Grid.ghost l ⟨1, 1, fun _ _ => 1⟩
    (g.R : Int) = 1 + upI l ∧ (g.C : Int) = 1 + overI l ∧ (∀ y x, (g.at y x).natAbs ≤ 2 ^ l.length) ∧ (∃ y x, g.at y x ≠ 0) ∧ ∃ N : Nat, g.R ≤ N ∧ g.C ≤ N ∧ ∀ p ∈ l, ∀ k, L N p.1 p.2 g.at k = 0 := by
  intro g
  have hp : ∀ p ∈ l, 0 ≤ p.1 := fun p h => (hl p h).1
  have hs := ghost_size l ⟨1, 1, fun _ _ => 1⟩ hp
  have hb := built_ghost l ⟨1, 1, fun _ _ => 1⟩ hp
  have u0 := upI_nonneg l
  have o0 := overI_nonneg l hp
  let N : Nat := (2 * upI l + overI l + 2).toNat
  have hN : (N : Int) = 2 * upI l + overI l + 2 := by show (((2 * upI l + overI l + 2).toNat : Nat) : Int) = _; omega
  have bu : 0 ≤ backI l ∧ backI l ≤ upI l := by
    clear hl hp hs hb o0 hN u0
    clear N
    clear g
    induction l with
    | nil => simp [backI, upI]
    | cons p l ih =>
      simp only [backI, upI, List.map_cons, List.sum_cons] at ih ⊢
      split <;> omega
  have h1 : Grid.at ⟨1, 1, fun _ _ => 1⟩ 0 0 = 1 := by simp [Grid.at, box]
  obtain ⟨k1, k2, k3, k4⟩ := ghost_all N l (Grid.at ⟨1, 1, fun _ _ => 1⟩) 0 0 1 1 1 [] hl (box_in 1 1 fun _ _ => 1) (by omega) (by omega) (by omega) (by omega) (by omega) (by omega) (fun y x => by
    unfold Grid.at box
    split
    · show (1 : Int).natAbs ≤ 1; decide
    · decide) ⟨0, 0, by rw [h1]; decide⟩ (fun e he => by cases he)
  refine ⟨hs.1, hs.2, fun y x => ?_, ?_, N, ?_, ?_, fun p hpl k => ?_⟩
  · rw [hb]
    have := k2 (y - backI l) x
    omega
  · obtain ⟨y, x, h⟩ := k3
    exact ⟨y + backI l, x, by rw [hb, show y + backI l - backI l = y by omega]; exact h⟩
  · have hs1 : (g.R : Int) = 1 + upI l := hs.1
    omega
  · have hs2 : (g.C : Int) = 1 + overI l := hs.2
    omega
  · rw [L_congr (fun y x => hb y x), L_down k1 (by omega) (by omega) (by omega) (by omega) (by omega) (by omega) (by omega) (by omega)]
    exact k4 p (by simpa using hpl) _
end Go.Katz
/-
  The size of the basic ghost, of the model and of the program.
-/
namespace Go.Proofs.Ytjnnoabaepmcnaa
open Go.RowKit Go.Katz
set_option maxRecDepth 100000

def tallD (d : Int × Int) : Int := if 0 ≤ d.2 then d.2 else -d.2
theorem tallD_max (d : Int × Int) : max d.2 (-d.2) = tallD d := by unfold tallD; split <;> omega
theorem upI_snoc (l : List (Int × Int)) (d : Int × Int) : upI (l ++ [d]) = upI l + tallD d := by simp [upI, tallD]
theorem overI_snoc (l : List (Int × Int)) (d : Int × Int) : overI (l ++ [d]) = overI l + d.1 := by simp [overI]
theorem up_range : ∀ l : List (Int × Int), (∀ d ∈ l, Near d.1 d.2) → 0 ≤ upI l ∧ upI l ≤ 3 * l.length ∧ 0 ≤ overI l ∧ overI l ≤ 3 * l.length
  | [], _ => by simp [upI, overI]
  | d :: l, h => by
    obtain ⟨h1, h2, h3, h4⟩ := up_range l fun e he => h e (List.mem_cons_of_mem _ he)
    obtain ⟨n1, n2, n3, n4⟩ := h d List.mem_cons_self
    have e1 : upI (d :: l) = tallD d + upI l := by simp [upI, tallD]
    have e2 : overI (d :: l) = d.1 + overI l := by simp [overI]
    have e3 : 0 ≤ tallD d ∧ tallD d ≤ 3 := by unfold tallD; split <;> omega
    rw [e1, e2, List.length_cons]
    omega
theorem dirsB_near {l : List (Int × Int)} (h : dirsB l = true) : ∀ d ∈ l, Near d.1 d.2 := fun d hd => by
  obtain ⟨i, hi, rfl⟩ := List.getElem_of_mem hd
  exact near_of (dirsB_at h hi).1

theorem ret_pair {a b c d : Int} (h1 : a = c) (h2 : b = d) : Ending.returned (.agg #[.int .i64 a, .int .i64 b]) = .returned (.agg #[.int .i64 c, .int .i64 d]) := by rw [h1, h2]
set_option maxHeartbeats 1000000 in
theorem grownBy_any (r c dx dy : Int) (w : World) (hr : 0 ≤ r ∧ r ≤ 100) (hc : 0 ≤ c ∧ c ≤ 100) (hn : Near dx dy) :
    Calls Try.prog 76 #[.agg #[.int .i64 r, .int .i64 c], .agg #[.int .i64 dx, .int .i64 dy]] w fun e w' => e = .returned (.agg #[.int .i64 (r + tallD (dx, dy)), .int .i64 (c + dx)]) ∧ Below w.heap.size w w' := by
  obtain ⟨n1, n2, n3, n4⟩ := hn
  have l1 : IntKind.i64.wrap (-dy) = -dy := IntWalk.i64_in _ (by omega)
  have hm : -3 ≤ max dy (-dy) ∧ max dy (-dy) ≤ 3 := by omega
  have l2 : IntKind.i64.wrap (r + max dy (-dy)) = r + max dy (-dy) := IntWalk.i64_in _ (by omega)
  have l3 : IntKind.i64.wrap (c + dx) = c + dx := IntWalk.i64_in _ (by omega)
  rw [← tallD_max]
  simp only
  go_enter Try.func76, Try.ntmps76
  go_wp2
  all_goals
    refine bodyPost_ret (v := .agg #[.int .i64 (r + max dy (-dy)), .int .i64 (c + dx)]) ?_ rfl ⟨rfl, (((Below.refl _ _).alloc (Nat.le_refl _) _).alloc (by simp) _).alloc (by simp; omega) _⟩
    first | rw [show max dy (-dy) = dy by omega] | rw [show max dy (-dy) = -dy by omega]
    simp [results, Try.results76, go_sem]

/-- A size in a variable. -/
def SizeAt (w : World) (g : Nat) (r c : Int) : Prop := w.heap[g]? = some (.cells #[.int .i64 r, .int .i64 c] 66 (0, 0))
theorem sizeAt_lt {w : World} {g : Nat} {r c : Int} (h : SizeAt w g r c) : g < w.heap.size := (Array.getElem?_eq_some_iff.1 h).1
theorem sizeAt_below {w w' : World} {g : Nat} {r c : Int} (h : SizeAt w g r c) (hb : Below w.heap.size w w') : SizeAt w' g r c := by
  unfold SizeAt; rw [hb.block g (sizeAt_lt h)]; exact h
theorem sizeAt_cells {w : World} {g : Nat} {r c : Int} (h : SizeAt w g r c) : w.cell? ⟨g, 0, none⟩ = some (.int .i64 r) ∧ w.cell? ⟨g, 1, none⟩ = some (.int .i64 c) :=
  ⟨by rw [cell_of_row w g 0 _ _ _ h]; rfl, by rw [cell_of_row w g 1 _ _ _ h]; rfl⟩
theorem Try.sizeSz : (Try.prog.info? 66).map (·.size) = some 2 := by kernel_rfl
theorem wpList_loadSz {ops : Array Oper} {rest : List Oper} {o : Oper} {a : Act} {Q : Exit → Act → World → Prop} {W : World} {g : Nat} {r c : Int} (hb : SizeAt W g r c)
    (hgd : o.guard = none) (x : Operand) (ho : o.op = .load 66 x) (hx : a.eval x = .pointer (some ⟨g, 0, none⟩))
    (h : wpList Try.prog ops Q rest (a.put o.dst (.agg #[.int .i64 r, .int .i64 c])) W) : wpList Try.prog ops Q (o :: rest) a W :=
  wpList_load_row hgd _ x ho g hx _ _ (0, 0) _ hb Try.underlying66 rfl Try.sizeSz h
theorem exec_loadSz {ρ : Operand → Value} {o : Oper} {w : World} {x : Operand} {g : Nat} {r c : Int} (ho : o.op = .load 66 x) (hx : ρ x = .pointer (some ⟨g, 0, none⟩)) (hb : SizeAt w g r c) : (execOp ρ o).run Try.prog w = .ok (.value (.agg #[.int .i64 r, .int .i64 c])) w := by
  unfold execOp
  simp only [ho, hx]
  obtain ⟨h0, h1⟩ := sizeAt_cells hb
  go_simp
theorem wpList_storeSz {ops : Array Oper} {rest : List Oper} {o : Oper} {a : Act} {Q : Exit → Act → World → Prop} {W : World} {g : Nat} {r0 c0 : Int} (hb : SizeAt W g r0 c0) (r c : Int)
    (hgd : o.guard = none) (x y : Operand) (ho : o.op = .store 66 x y) (hx : a.eval x = .pointer (some ⟨g, 0, none⟩)) (hy : a.eval y = .agg #[.int .i64 r, .int .i64 c])
    (h : ∀ w', SizeAt w' g r c → W.grownBy w' (some g) → w'.heap.size = W.heap.size → wpList Try.prog ops Q rest (a.put o.dst undef) w') : wpList Try.prog ops Q (o :: rest) a W := by
  refine wpList_plain hgd fun K hK => ?_
  unfold Oper.wp execOp
  simp only [ho, hx, hy, Instr.storeAt, Instr.sureAddr, Sem.run_bind, Sem.run_pure, Result.andThen_ok, run_storeVar_row W g 66 66 #[.int .i64 r0, .int .i64 c0] #[.int .i64 r, .int .i64 c] hb (by rw [Try.sizeSz]; rfl) rfl (by simp [Value.oneCell'])]
  exact hK _ _ (h _ (setRow_heap W g _ _ _ (0, 0) hb) ⟨rfl, rfl, rfl, by simp, fun k hk hr => setRow_other W g k _ (fun e => hr (by rw [e]))⟩ (by simp))
theorem sizeAt_grown {w w' : World} {g : Nat} {r c : Int} {row : Option Nat} (h : SizeAt w g r c) (hg : w.grownBy w' row) (hr : row ≠ some g) : SizeAt w' g r c := by
  unfold SizeAt; rw [hg.block g (sizeAt_lt h) (Ne.symm hr)]; exact h

set_option maxHeartbeats 2000000 in
theorem ghostSize_any (v : Value) (l : List (Int × Int)) (w : World) (hin : InDrs w v l) (hl : ∀ d ∈ l, Near d.1 d.2) (h4 : l.length ≤ 4) :
    Calls Try.prog 47 #[v] w fun e w' => e = .returned (.agg #[.int .i64 (1 + upI l), .int .i64 (1 + overI l)]) ∧ Below w.heap.size w w' := by
  obtain ⟨a, c, rfl, -, hp⟩ := hin
  have HP := hide hp; have HL := hide hl
  obtain ⟨n, hn⟩ : ∃ n, n = l.length := ⟨_, rfl⟩
  have HN := hide hn
  rw [← hn] at h4 ⊢
  clear hp hl hn
  go_enter Try.func47, Try.ntmps47
  go_wp2
  have hb1 : Below w.heap.size w (w.alloc (.cells #[.int .i64 0, .int .i64 0] 66)) := (Below.refl _ _).alloc (Nat.le_refl _) _
  have hb2 := hb1.alloc hb1.size (.cells #[.int .i64 1, .int .i64 1] 66)
  go_loopw [9] (fun i w' => ∃ k : Nat, k ≤ n ∧ i = .int .i64 k ∧ SizeAt w' w.heap.size 0 0 ∧ SizeAt w' (w.heap.size + 1) (1 + upI (l.take k)) (1 + overI (l.take k)) ∧ Below w.heap.size w w') (fun i _ => n - (intOf i).toNat)
  case atStart =>
    refine ⟨0, Nat.zero_le _, rfl, sizeAt_below (heap_alloc_new w _) ((Below.refl _ _).alloc (Nat.le_refl _) _), ?_, hb2⟩
    have := heap_alloc_new (w.alloc (.cells #[.int .i64 0, .int .i64 0] 66)) (.cells #[.int .i64 1, .int .i64 1] 66)
    simpa [SizeAt, upI, overI] using this
  case round =>
    obtain ⟨k, hk, rfl, h0, h1, hb⟩ := hrel
    have H0 := hide h0; have H1 := hide h1; have HB := hide hb
    clear h0 h1 hb
    by_cases hlt : k < n
    · have hltI : (k : Int) < n := by omega
      have hkl : k < l.length := by rw [← HN.out]; exact hlt
      obtain ⟨g, o, rfl, hg, hcl⟩ := HP.out.resolve_left (by rw [← HN.out]; omega)
      have hc := drC_below (hcl k hkl) HB.out hg
      have HTK : Hid (1 + upI (l.take (k + 1)) = 1 + upI (l.take k) + tallD l[k] ∧ 1 + overI (l.take (k + 1)) = 1 + overI (l.take k) + l[k].1) := hide (by
        rw [List.take_succ_eq_append_getElem hkl, upI_snoc, overI_snoc]; omega)
      have HNR := hide (HL.out _ (List.getElem_mem hkl))
      have hr := up_range (l.take k) fun e he => HL.out e (List.mem_of_mem_take he)
      rw [List.length_take] at hr
      obtain ⟨r1, r2, r3, r4⟩ := hr
      obtain ⟨U, hU⟩ : ∃ U, U = 1 + upI (l.take k) := ⟨_, rfl⟩
      obtain ⟨V, hV⟩ : ∃ V, V = 1 + overI (l.take k) := ⟨_, rfl⟩
      have hUb : 0 ≤ U ∧ U ≤ 100 := by omega
      have hVb : 0 ≤ V ∧ V ≤ 100 := by omega
      rw [← hU, ← hV] at H1 HTK
      obtain ⟨d, hd⟩ : ∃ d, d = l[k] := ⟨_, rfl⟩
      rw [← hd] at hc HTK HNR
      have HUB := hide hUb; have HVB := hide hVb
      clear hcl hU hV hd r1 r2 r3 r4 hUb hVb
      obtain ⟨dx, dy⟩ := d
      obtain ⟨c0, c1⟩ := hc
      simp only at c0 c1
      have HBX : Hid (Below wr.heap.size wr (wr.alloc (.cells #[.int .i64 dx, .int .i64 dy] 29))) := hide ((Below.refl _ _).alloc (Nat.le_refl _) _)
      have HD1 : Hid (DirAt (wr.alloc (.cells #[.int .i64 dx, .int .i64 dy] 29)) wr.heap.size dx dy) := hide (heap_alloc_new wr _)
      have HS1 := hide (sizeAt_below H1.out HBX.out)
      have HS0 := hide (sizeAt_below H0.out HBX.out)
      have HB1 := hide (HB.out.trans (HBX.out.mono HB.out.size))
      go_wp2_with (first | (with_reducible refine wpList_loadSz HS1.out rfl _ rfl rfl ?_) | (with_reducible refine wpList_loadDir HD1.out rfl _ rfl rfl ?_) | ((with_reducible refine (grownBy_any U V dx dy _ HUB.out HVB.out HNR.out).mono ?_); rintro e w2 ⟨rfl, hb⟩; have HS2 := hide (sizeAt_below HS1.out hb); have HT2 := hide (sizeAt_below HS0.out hb); have HB2 := hide (HB1.out.trans (hb.mono HB1.out.size)); clear hb) | ((with_reducible refine wpList_storeSz HS2.out (U + tallD (dx, dy)) (V + dx) rfl _ _ rfl rfl rfl ?_); intro w3 hs hg3 hz; have HS3 := hide hs; have HT3 := hide (sizeAt_grown HT2.out hg3 (by simp)); have HB3 := hide (HB2.out.trans (grown_below hg3 (fun q hq => by cases hq; omega) HB2.out.size)); clear hs hg3 hz))
      go_roundw
      case rel => exact ⟨k + 1, by omega, by go_num, HT3.out, by rw [HTK.out.1, HTK.out.2]; exact HS3.out, HB3.out⟩
      case measure => simp [intOf]; omega
    · obtain rfl : k = n := by omega
      have HE : Hid (l.take k = l) := hide (List.take_of_length_le (by rw [HN.out]; exact Nat.le_refl _))
      rw [HE.out] at H1
      go_wp2_with (first | (with_reducible refine wpList_loadSz H1.out rfl _ rfl rfl ?_) | ((with_reducible refine wpList_storeSz H0.out (1 + upI l) (1 + overI l) rfl _ _ rfl rfl rfl ?_); intro w3 hs hg3 hz; have HS3 := hide hs; have HB3 := hide (HB.out.trans (grown_below hg3 (fun q hq => by cases hq; omega) HB.out.size)); clear hg3 hz))
      refine bodyPost_ret (v := .agg #[.int .i64 (1 + upI l), .int .i64 (1 + overI l)]) ?_ rfl ⟨rfl, HB3.out⟩
      obtain ⟨q0, q1⟩ := sizeAt_cells HS3.out
      simp [results, Try.results47, go_sem, q0, q1]
end Go.Proofs.Ytjnnoabaepmcnaa
/-
  Grids in variables; collect over rows of zeros; zeroGrid.
-/
namespace Go.Proofs.Ytjnnoabaepmcnaa
open Go.RowKit
set_option maxRecDepth 100000

abbrev gridV (R C : Int) (v : Value) : Value := .agg #[.int .i64 R, .int .i64 C, v]
/-- A grid in a variable. -/
def GridAt (w : World) (g : Nat) (R C : Int) (v : Value) : Prop := w.heap[g]? = some (.cells #[.int .i64 R, .int .i64 C, v] 68 (0, 0))
theorem gridAt_lt {w : World} {g : Nat} {r c : Int} {v : Value} (h : GridAt w g r c v) : g < w.heap.size := (Array.getElem?_eq_some_iff.1 h).1
theorem gridAt_below {w w' : World} {g : Nat} {r c : Int} {v : Value} (h : GridAt w g r c v) (hb : Below w.heap.size w w') : GridAt w' g r c v := by
  unfold GridAt; rw [hb.block g (gridAt_lt h)]; exact h
theorem gridAt_grown {w w' : World} {g : Nat} {r c : Int} {v : Value} {row : Option Nat} (h : GridAt w g r c v) (hg : w.grownBy w' row) (hr : row ≠ some g) : GridAt w' g r c v := by
  unfold GridAt; rw [hg.block g (gridAt_lt h) (Ne.symm hr)]; exact h
theorem gridAt_within {w w' : World} {g lo hi : Nat} {r c : Int} {v : Value} (h : GridAt w g r c v) (hw : Within lo hi w w') (ha : g < lo ∨ hi ≤ g) : GridAt w' g r c v := by
  unfold GridAt; rw [hw.block g (gridAt_lt h) ha]; exact h
theorem gridAt_cells {w : World} {g : Nat} {r c : Int} {v : Value} (h : GridAt w g r c v) : w.cell? ⟨g, 0, none⟩ = some (.int .i64 r) ∧ w.cell? ⟨g, 1, none⟩ = some (.int .i64 c) ∧ w.cell? ⟨g, 2, none⟩ = some v :=
  ⟨by rw [cell_of_row w g 0 _ _ _ h]; rfl, by rw [cell_of_row w g 1 _ _ _ h]; rfl, by rw [cell_of_row w g 2 _ _ _ h]; rfl⟩
theorem Try.sizeGr : (Try.prog.info? 68).map (·.size) = some 3 := by kernel_rfl
theorem wpList_loadGr {ops : Array Oper} {rest : List Oper} {o : Oper} {a : Act} {Q : Exit → Act → World → Prop} {W : World} {g : Nat} {r c : Int} {v : Value} (hb : GridAt W g r c v)
    (hgd : o.guard = none) (x : Operand) (ho : o.op = .load 68 x) (hx : a.eval x = .pointer (some ⟨g, 0, none⟩))
    (h : wpList Try.prog ops Q rest (a.put o.dst (gridV r c v)) W) : wpList Try.prog ops Q (o :: rest) a W :=
  wpList_load_row hgd _ x ho g hx _ _ (0, 0) _ hb Try.underlying68 rfl Try.sizeGr h
theorem exec_loadGr {ρ : Operand → Value} {o : Oper} {w : World} {x : Operand} {g : Nat} {r c : Int} {v : Value} (ho : o.op = .load 68 x) (hx : ρ x = .pointer (some ⟨g, 0, none⟩)) (hb : GridAt w g r c v) : (execOp ρ o).run Try.prog w = .ok (.value (gridV r c v)) w := by
  unfold execOp
  simp only [ho, hx, Instr.loadAt, Instr.sureAddr, Sem.run_bind, Sem.run_pure, Result.andThen_ok, run_loadVar_row w g _ _ _ _ _ hb Try.underlying68 rfl Try.sizeGr]
theorem exec_storeGr {ρ : Operand → Value} {o : Oper} {w : World} {x y : Operand} {g : Nat} {r0 c0 : Int} {v0 : Value} (r c : Int) (v : Value) (ho : o.op = .store 68 x y) (hx : ρ x = .pointer (some ⟨g, 0, none⟩)) (hy : ρ y = gridV r c v) (hb : GridAt w g r0 c0 v0) (hv : v.oneCell' = true) :
    ∃ w', (execOp ρ o).run Try.prog w = .ok .skip w' ∧ GridAt w' g r c v ∧ w.grownBy w' (some g) ∧ w'.heap.size = w.heap.size := by
  unfold execOp
  simp only [ho, hx, hy, gridV, Instr.storeAt, Instr.sureAddr, Sem.run_bind, Sem.run_pure, Result.andThen_ok, run_storeVar_row w g 68 68 #[.int .i64 r0, .int .i64 c0, v0] #[.int .i64 r, .int .i64 c, v] hb (by rw [Try.sizeGr]; rfl) rfl (by simp [Value.oneCell'] <;> simpa [Value.oneCell'] using hv)]
  exact ⟨_, rfl, setRow_heap w g _ _ _ (0, 0) hb, ⟨rfl, rfl, rfl, by simp, fun k hk hr => setRow_other w g k _ (fun e => hr (by rw [e]))⟩, by simp⟩
theorem wpList_storeGr {ops : Array Oper} {rest : List Oper} {o : Oper} {a : Act} {Q : Exit → Act → World → Prop} {W : World} {g : Nat} {r0 c0 : Int} {v0 : Value} (hb : GridAt W g r0 c0 v0) (r c : Int) (v : Value) (hv : v.oneCell' = true)
    (hgd : o.guard = none) (x y : Operand) (ho : o.op = .store 68 x y) (hx : a.eval x = .pointer (some ⟨g, 0, none⟩)) (hy : a.eval y = gridV r c v)
    (h : ∀ w', GridAt w' g r c v → W.grownBy w' (some g) → w'.heap.size = W.heap.size → wpList Try.prog ops Q rest (a.put o.dst undef) w') : wpList Try.prog ops Q (o :: rest) a W := by
  refine wpList_plain hgd fun K hK => ?_
  obtain ⟨w', h1, h2, h3, h4⟩ := exec_storeGr (ρ := a.eval) r c v ho hx hy hb hv
  unfold Oper.wp
  rw [h1]
  exact hK _ _ (h w' h2 h3 h4)
theorem ownMat_slice {w : World} {lo hi : Nat} {v : Value} {m : List (List Int)} (h : OwnMat w lo hi v m) : ∃ a n c, v = .slice a n c := by
  obtain ⟨vs, ho, -⟩ := h
  obtain ⟨a, c, rfl⟩ := own_slice ho
  exact ⟨a, _, c, rfl⟩
theorem exec_field0S {ρ : Operand → Value} {o : Oper} {w : World} {x : Operand} {g : Nat} (ho : o.op = .fieldAddr 66 x 0) (hx : ρ x = .pointer (some ⟨g, 0, none⟩)) : (execOp ρ o).run Try.prog w = .ok (.value (.pointer (some ⟨g, 0, none⟩))) w := by
  unfold execOp
  simp only [ho, hx]
  go_simp
theorem exec_loadS0 {ρ : Operand → Value} {o : Oper} {w : World} {x : Operand} {g : Nat} {r c : Int} (ho : o.op = .load 3 x) (hx : ρ x = .pointer (some ⟨g, 0, none⟩)) (hb : SizeAt w g r c) : (execOp ρ o).run Try.prog w = .ok (.value (.int .i64 r)) w := by
  obtain ⟨h0, -⟩ := sizeAt_cells hb
  unfold execOp
  simp only [ho, hx]
  go_simp
theorem exec_fun1 {ρ : Operand → Value} {o : Oper} {w : World} {x : Operand} {f : FuncId} {v : Value} (ho : o.op = .makeFunc (.func f) #[] #[x]) (hx : ρ x = v) : (execOp ρ o).run Try.prog w = .ok (.value (.func (.func f) #[] #[v])) w := by
  unfold execOp
  simp only [ho]
  go_simp
theorem exec_buildGrid {ρ : Operand → Value} {o : Oper} {w : World} {x y : Operand} {r c : Int} {v : Value} (ho : o.op = .build 68 #[(0, x), (1, y)]) (hx : ρ x = .agg #[.int .i64 r, .int .i64 c]) (hy : ρ y = v) (hv : ∃ a n c, v = .slice a n c) : (execOp ρ o).run Try.prog w = .ok (.value (gridV r c v)) w := by
  obtain ⟨a, n, c', rfl⟩ := hv
  unfold execOp gridV
  simp only [ho]
  go_simp

set_option maxHeartbeats 400000 in
theorem zeroRow_any (k C g R : Nat) (w : World) (hs : SizeAt w g R C) (hC : C ≤ 40) :
    Calls Try.prog 82 #[.int .i64 ((k : Int) + 1), .pointer (some ⟨g, 0, none⟩)] w fun e w' => ∃ v, e = .returned v ∧ w'.ownsRow w.heap.size 3 1 v C (ints (rowF C fun _ => 0)) ∧ Below w.heap.size w w' := by
  obtain ⟨h0, h1⟩ := sizeAt_cells hs
  clear hs
  go_enter Try.func82, Try.ntmps82
  go_wp2_with (at_make; refine wpList_new w.heap.size C (.int .i64 0) rfl _ _ rfl Try.underlying30 Try.infoInt rfl (by decide) rfl rfl (by omega) (Nat.le_refl _) ?_; intro w1 hown1 hb1 hg1; have HO := hide hown1; have HB := hide hb1; clear hown1 hb1 hg1)
  go_ret
  have e : List.replicate C (Value.int .i64 0) = ints (rowF C fun _ => 0) := by
    apply List.ext_getElem
    · simp [ints, rowF]
    · intro i h1 h2; simp [ints, rowF]
  exact ⟨_, rfl, by rw [← e]; exact HO.out, HB.out⟩
set_option maxHeartbeats 1000000 in
theorem collectZ_any (gf : Nat) (C : Nat) (cb : Array Value) (n : Nat) (w : World) (eg : ∀ args w, (callFunc gf args).run Try.prog w = .ok (.enter gf args) w) (hn : n ≤ 40)
    (hF : ∀ (k : Nat) (W : World), k < n → Below w.heap.size w W → Calls Try.prog gf (#[.int .i64 ((k : Int) + 1)] ++ cb) W fun e W' => ∃ v, e = .returned v ∧ W'.ownsRow W.heap.size 3 1 v C (ints (rowF C fun _ => 0)) ∧ Below W.heap.size W W') :
    Calls Try.prog 81 #[.int .i64 n, .func (.func gf) #[] cb] w fun e w' => ∃ v, e = .returned v ∧ OwnMat w' w.heap.size w'.heap.size v (mkM n C fun _ _ => 0) ∧ Below w.heap.size w w' := by
  have HF := hide hF
  obtain ⟨m, hm⟩ : ∃ m, m = mkM n C fun _ _ => (0 : Int) := ⟨_, rfl⟩
  have HM0 := hide hm
  have hml : m.length = n := by rw [hm, mkM_len]
  have HML := hide hml
  rw [← hm]
  clear hF hm hml
  go_enter Try.func81, Try.ntmps81
  go_wp2_with (at_make; refine wpList_new w.heap.size n (.slice none 0 0) rfl _ _ rfl Try.underlying23 Try.infoInts rfl (by decide) rfl rfl (by omega) (Nat.le_refl _) ?_; intro w1 hown1 hb1 hg1)
  have HO := hide hown1; have HB := hide hb1
  clear hown1 hb1 hg1
  go_wp2
  go_loopw [10] (fun i w' => ∃ k : Nat, k ≤ n ∧ i = .int .i64 k ∧ OwnMat w' w.heap.size w'.heap.size (.slice (some ⟨w.heap.size, 0, none⟩) n n) (fillM m k) ∧ Below w.heap.size w w') (fun i _ => n - (intOf i).toNat)
  case atStart => exact ⟨0, Nat.zero_le _, rfl, by rw [fillM_zero, HML.out]; exact ownMat_fresh _ HO.out (HO.out.lt _ rfl).2, HB.out⟩
  case round =>
    clear HO HB
    obtain ⟨k, hk, rfl, hown, hb⟩ := hrel
    have HO := hide hown; have HB := hide hb
    clear hown hb
    by_cases hlt : k < n
    · have hkm : k < m.length := by rw [HML.out]; exact hlt
      have HCA := hide (HF.out k wr hlt HB.out)
      have HL := hide (fillM_len m k (by omega))
      have HFS := hide (fillM_set m k hkm)
      have HRW : Hid (m[k] = rowF C fun _ => 0) := hide (by
        have h := HM0.out
        subst h
        rw [mkM_at])
      go_wp2_with fail
      refine HCA.out.mono ?_
      rintro e w2 ⟨v2, rfl, ho2, hb2⟩
      obtain ⟨a2, c2, rfl⟩ := own_slice ho2
      have HO2 := hide ho2; have HB2 := hide hb2
      clear ho2 hb2
      have HM := hide (ownMat_below HO.out HB2.out)
      obtain ⟨u0, hx2, hf2, -, -, -⟩ := ownMat_row HM.out k (by rw [HL.out]; exact hkm)
      go_wp2
      go_roundw
      case rel =>
        have hp := ownMat_put (r := rowF C fun _ => 0) (hi' := w2.heap.size) HM.out k (by rw [HL.out]; exact hkm) (by rw [rowF_len]; exact HO2.out) HB.out.size (Nat.le_refl _) HB2.out.size
        rw [← HRW.out, HFS.out] at hp
        exact ⟨k + 1, by omega, by go_num, ownMat_mono hp (Nat.le_refl _) (by simp), (HB.out.trans (HB2.out.mono HB.out.size)).setCell (Nat.le_refl _) _⟩
      case measure => simp [intOf]; omega
    · have HE : Hid (fillM m k = m) := hide (fillM_all _ _ (by rw [HML.out]; omega))
      go_wp2
      go_ret
      exact ⟨_, rfl, by have := HO.out; rw [HE.out] at this; exact this, HB.out⟩

/-- What answers a grid of the call's own. -/
def GridRes (R C : Nat) (f : Nat → Nat → Int) (w : World) (e : Ending) (w' : World) : Prop := ∃ v, e = .returned (gridV R C v) ∧ OwnMat w' w.heap.size w'.heap.size v (mkM R C f) ∧ Below w.heap.size w w'
set_option maxHeartbeats 2000000 in
theorem zeroGrid_any (R C : Nat) (w : World) (hR : R ≤ 40) (hC : C ≤ 40) :
    Calls Try.prog 69 #[.agg #[.int .i64 R, .int .i64 C]] w (GridRes R C (fun _ _ => 0) w) := by
  have HB0 := hide (((Below.refl w.heap.size w).alloc (Nat.le_refl _) (.cells #[.int .i64 R, .int .i64 C] 66)).alloc (by simp) (.cells #[.int .i64 0, .int .i64 0, .slice none 0 0] 68))
  have HZ : Hid (SizeAt ((w.alloc (.cells #[.int .i64 R, .int .i64 C] 66)).alloc (.cells #[.int .i64 0, .int .i64 0, .slice none 0 0] 68)) w.heap.size R C) := hide (sizeAt_below (heap_alloc_new w _) ((Below.refl _ _).alloc (Nat.le_refl _) _))
  have HG : Hid (GridAt ((w.alloc (.cells #[.int .i64 R, .int .i64 C] 66)).alloc (.cells #[.int .i64 0, .int .i64 0, .slice none 0 0] 68)) (w.heap.size + 1) 0 0 (.slice none 0 0)) := hide (by
    have := heap_alloc_new (w.alloc (.cells #[.int .i64 R, .int .i64 C] 66)) (.cells #[.int .i64 0, .int .i64 0, .slice none 0 0] 68)
    simpa [GridAt] using this)
  go_enter Try.func69, Try.ntmps69
  go_upto_region 1 with fail
  obtain ⟨fs, hfs⟩ : ∃ fs : List FactP, fs = [(isV (.agg #[.int .i64 R, .int .i64 C])), (isV (.pointer (some ⟨w.heap.size, 0, none⟩))), (isV (.int .i64 R)), (isV (.func (.func 82) #[] #[.pointer (some ⟨w.heap.size, 0, none⟩)])), (fun u w2 => OwnMat w2 (w.heap.size + 2) w2.heap.size u (mkM R C fun _ _ => 0)), (fun u w2 => ∃ x, u = gridV R C x ∧ OwnMat w2 (w.heap.size + 2) w2.heap.size x (mkM R C fun _ _ => 0))] := ⟨_, rfl⟩
  have hst : ∀ f ∈ fs, StableP f := by
    rw [hfs]; intro f hf
    simp only [List.mem_cons, List.not_mem_nil, or_false] at hf
    rcases hf with rfl | rfl | rfl | rfl | rfl | rfl <;> first | exact stable_v _ | exact fun u w2 w3 hb h => ownMat_mono (ownMat_below h hb) (Nat.le_refl _) hb.size | exact fun u w2 w3 hb ⟨x, h1, h2⟩ => ⟨x, h1, ownMat_mono (ownMat_below h2 hb) (Nat.le_refl _) hb.size⟩
  subst hfs
  refine wp_region_g (S := fun w2 => (SizeAt w2 w.heap.size R C ∧ GridAt w2 (w.heap.size + 1) 0 0 (.slice none 0 0) ∧ w.heap.size + 2 ≤ w2.heap.size) ∧ Below w.heap.size w w2) [(isV (.agg #[.int .i64 R, .int .i64 C])), (isV (.pointer (some ⟨w.heap.size, 0, none⟩))), (isV (.int .i64 R)), (isV (.func (.func 82) #[] #[.pointer (some ⟨w.heap.size, 0, none⟩)])), (fun u w2 => OwnMat w2 (w.heap.size + 2) w2.heap.size u (mkM R C fun _ _ => 0)), (fun u w2 => ∃ x, u = gridV R C x ∧ OwnMat w2 (w.heap.size + 2) w2.heap.size x (mkM R C fun _ _ => 0))] [(1, .pointer (some ⟨w.heap.size, 0, none⟩))] _ _ 6 (by kernel_rfl) rfl rfl (by kernel_rfl) (by kernel_rfl) rfl (by kernel_rfl) ?base ⟨⟨HZ.out, HG.out, by simp⟩, below_drew HB0.out⟩ ?ob rfl ?fin
  case base =>
    intro t v ht
    simp only [List.lookup_cons, List.lookup_nil] at ht
    repeat' split at ht
    all_goals first | (cases ht; done) | (obtain rfl := Option.some.inj ht; rename_i hh; obtain rfl := eq_of_beq hh; rfl)
  case ob =>
    exact ⟨obg_of rfl (obt_one (.agg #[.int .i64 R, .int .i64 C]) rfl rfl (srt_b 1 rfl) (fun ρ w2 hS hx => exec_loadSz rfl hx hS.1.1)),
      obg_of rfl (obt_one (.pointer (some ⟨w.heap.size, 0, none⟩)) rfl rfl (srt_b 1 rfl) (fun ρ w2 hS hx => exec_field0S rfl hx)),
      obg_of rfl (obt_one (.int .i64 R) rfl rfl (srt_j 1 rfl (by kernel_rfl) rfl) (fun ρ w2 hS hx => exec_loadS0 rfl hx hS.1.1)),
      obg_of rfl (obt_any rfl (fun a w2 hS hs hd => ⟨.func (.func 82) #[] #[.pointer (some ⟨w.heap.size, 0, none⟩)], exec_fun1 rfl (hs _ _ (srt_b 1 rfl)), rfl⟩)),
      obg_of rfl (obt_call hst [.int .i64 R, .func (.func 82) #[] #[.pointer (some ⟨w.heap.size, 0, none⟩)]] rfl Try.func81 (by kernel_rfl) (by kernel_rfl) rfl ⟨(srt_j 2 rfl (by kernel_rfl) rfl), (srt_j 3 rfl (by kernel_rfl) rfl), trivial⟩ (fun w2 hS => (collectZ_any 82 C #[.pointer (some ⟨w.heap.size, 0, none⟩)] R w2 (fun _ _ => rfl) (by omega) (fun k W hk hb => zeroRow_any k C w.heap.size R W (sizeAt_below hS.1.1 hb) (by omega))).mono fun e w3 ⟨u, he, ho, hh⟩ => ⟨_, he, ⟨⟨sizeAt_below hS.1.1 hh, gridAt_below hS.1.2.1 hh, Nat.le_trans hS.1.2.2 hh.size⟩, hS.2.trans (hh.mono hS.2.size)⟩, hh, ownMat_mono ho hS.1.2.2 (Nat.le_refl _)⟩)),
      obg_of rfl (obt_any rfl (fun a w2 hS hs hd => by
      obtain ⟨x, hx⟩ : ∃ x, x = a.tmps.getD 7 undef := ⟨_, rfl⟩
      have h7 : OwnMat w2 (w.heap.size + 2) w2.heap.size x (mkM R C fun _ _ => 0) := by rw [hx]; exact hd 4 7 rfl (by kernel_rfl)
      exact ⟨gridV R C x, exec_buildGrid rfl (hs _ _ (srt_j 0 rfl (by kernel_rfl) rfl)) (show a.eval (.tmp 7) = x from hx.symm) (ownMat_slice h7), x, rfl, h7⟩)),
      trivial⟩
  case fin =>
    intro a' w' h1 h2 h3 hS h4 K hK
    have ha := frame_ov rfl h1 h2 h3 [(3, .agg #[.int .i64 R, .int .i64 C]), (4, .pointer (some ⟨w.heap.size, 0, none⟩)), (5, .int .i64 R), (6, .func (.func 82) #[] #[.pointer (some ⟨w.heap.size, 0, none⟩)]), (7, a'.tmps.getD 7 undef), (8, a'.tmps.getD 8 undef)] (by kernel_rfl) ⟨h4 0 3 rfl (by decide), h4 1 4 rfl (by decide), h4 2 5 rfl (by decide), h4 3 6 rfl (by decide), rfl, rfl, trivial⟩
    dsimp only [ov, List.lookup, Nat.reduceBEq, Nat.reduceAdd] at ha
    obtain ⟨x, hx8, ho⟩ := h4 5 8 rfl (by decide)
    obtain ⟨a9, n9, c9, hxs⟩ := ownMat_slice ho
    obtain ⟨w9, hrun, hg9, hgr, hsz⟩ := exec_storeGr (w := w') (ρ := a'.eval) (o := { dst := none, op := .store 68 (.tmp 2) (.tmp 8), type := 0, pos := "", after := #[], guard := none }) (R : Int) (C : Int) x rfl (h3 2 (by kernel_rfl)) hx8 hS.1.2.1 (by rw [hxs]; rfl)
    refine run_skip (w' := w9) hrun (hK undef _ ?_)
    show Exit.then _ _ Exit.normal a' _
    have HO := hide (ownMat_mono (lo' := w.heap.size) (hi' := w9.heap.size) (ownMat_within (lo' := w.heap.size + 1) (hi' := w.heap.size + 2) ho (within_grown hgr (fun k e => by cases e; omega)) (.inr (Nat.le_refl _))) (by omega) (by omega))
    have HG9 := hide hg9
    have HB9 := hide (hS.2.trans (grown_below hgr (fun k e => by cases e; omega) hS.2.size))
    clear hrun hg9 hgr hsz ho hS hxs a9 n9 c9
    rw [ha]
    generalize a'.tmps.getD 7 undef = u7
    generalize a'.tmps.getD 8 undef = u8
    clear ha h1 h2 h3 h4 hst hK
    clear hx8
    go_wp2
    obtain ⟨q0, q1, q2⟩ := gridAt_cells HG9.out
    refine bodyPost_ret (v := gridV R C x) ?_ rfl ⟨x, rfl, HO.out, HB9.out⟩
    simp [results, Try.results69, go_sem, q0, q1, q2, gridV]
end Go.Proofs.Ytjnnoabaepmcnaa
/-
  GhostSize of both.
-/
namespace Go.Proofs.Ytjnnoabaepmcnaa
open Go.RowKit Go.Katz
set_option maxRecDepth 100000

def gzR (l : List (Int × Int)) : Int := if dirsB l = true then 1 + upI l else 0
def gzC (l : List (Int × Int)) : Int := if dirsB l = true then 1 + overI l else 0
set_option maxHeartbeats 2000000 in
theorem implGhostSize_any (v : Value) (l : List (Int × Int)) (w : World) (hin : DrsC w v l) :
    Calls Try.prog 20 #[v] w fun e w' => e = .returned (.tuple #[.int .i64 (gzR l), .int .i64 (gzC l)]) ∧ Below w.heap.size w w' := by
  have HIN := hide hin
  obtain ⟨a, c, rfl, hlc, -⟩ := hin
  have HOK := hide fun w h => implDirsOk_any (.slice a l.length c) l w h
  cases hd : dirsB l with
  | false =>
    rw [hd] at HOK
    have HD := hide hd
    clear hd hlc
    go_enter Try.func20, Try.ntmps20
    go_wp2_with ((with_reducible refine (HOK.out _ HIN.out).mono ?_); rintro e w1 ⟨rfl, hb⟩; have HB := hide hb; clear hb)
    go_ret2
    exact ⟨by rw [gzR, gzC, HD.out]; rfl, HB.out⟩
  | true =>
    rw [hd] at HOK
    have HD := hide hd
    have HG := hide fun w h => ghostSize_any (.slice a l.length c) l w h (dirsB_near hd) (dirsB_len hd).2
    have HR : Hid (gzR l = 1 + upI l ∧ gzC l = 1 + overI l) := hide ⟨if_pos hd, if_pos hd⟩
    obtain ⟨U, hU⟩ : ∃ U, U = 1 + upI l := ⟨_, rfl⟩
    obtain ⟨V, hV⟩ : ∃ V, V = 1 + overI l := ⟨_, rfl⟩
    rw [← hU, ← hV] at HG HR
    clear hd hlc hU hV
    rw [HR.out.1, HR.out.2]
    go_enter Try.func20, Try.ntmps20
    go_wp2_with (first | ((with_reducible refine (HOK.out _ HIN.out).mono ?_); rintro e w1 ⟨rfl, hb⟩; have HB := hide hb; clear hb) | ((with_reducible refine (HG.out _ (drsC_in (drsC_below HIN.out HB.out))).mono ?_); rintro e w2 ⟨rfl, hb⟩; have HB2 := hide (HB.out.trans (hb.mono HB.out.size)); have hbx : Below w2.heap.size w2 (w2.alloc (.cells #[.int .i64 U, .int .i64 V] 66)) := (Below.refl _ _).alloc (Nat.le_refl _) _; have HB3 := hide (HB2.out.trans (hbx.mono HB2.out.size)); clear hb hbx))
    go_quiet (fail)
    go_wp2
    go_ret2
    exact ⟨rfl, below_draws HB3.out _⟩

end Go.Proofs.Ytjnnoabaepmcnaa
/-
  A size that is that of an image; a rectangle within another one.
-/
namespace Go.Proofs.Ytjnnoabaepmcnaa
open Go.RowKit Go.Katz
set_option maxRecDepth 100000

set_option maxHeartbeats 1000000 in
theorem sizeok_any (r c : Int) (w : World) :
    Calls Try.prog 48 #[.agg #[.int .i64 r, .int .i64 c]] w fun e w' => e = .returned (.bool (sizeOk r c)) ∧ Below w.heap.size w w' := by
  have HS : Hid (sizeOk r c = (decide (1 ≤ r ∧ r ≤ 5) && decide (1 ≤ c ∧ c ≤ 5))) := hide rfl
  by_cases h1 : 1 ≤ r ∧ r ≤ 5
  · have H1 := hide (decide_eq_true h1)
    clear h1
    go_enter Try.func48, Try.ntmps48
    go_wp2_with (first | (with_reducible refine (sideOk_any r _).mono ?_; rw [H1.out]; rintro e w' ⟨rfl, rfl⟩) | (with_reducible refine (sideOk_any c _).mono ?_; rintro e w' ⟨rfl, rfl⟩))
    go_ret
    exact ⟨ret_bool (by rw [HS.out, H1.out]; simp), (Below.refl _ _).alloc (Nat.le_refl _) _⟩
  · have H1 := hide (decide_eq_false h1)
    clear h1
    go_enter Try.func48, Try.ntmps48
    go_wp2_with (first | (with_reducible refine (sideOk_any r _).mono ?_; rw [H1.out]; rintro e w' ⟨rfl, rfl⟩))
    go_ret
    exact ⟨ret_bool (by rw [HS.out, H1.out]; rfl), (Below.refl _ _).alloc (Nat.le_refl _) _⟩

def holdsB (a b c d y x : Int) : Bool := decide (0 ≤ y) && decide (y ≤ a - c) && decide (0 ≤ x) && decide (x ≤ b - d)
set_option maxHeartbeats 2000000 in
theorem holds_any (a b c d y x : Int) (w : World) (ha : 0 ≤ a ∧ a ≤ 100) (hb : 0 ≤ b ∧ b ≤ 100) (hc : 0 ≤ c ∧ c ≤ 100) (hd : 0 ≤ d ∧ d ≤ 100) :
    Calls Try.prog 56 #[.agg #[.int .i64 a, .int .i64 b], .agg #[.int .i64 c, .int .i64 d], .int .i64 y, .int .i64 x] w fun e w' => e = .returned (.bool (holdsB a b c d y x)) ∧ Below w.heap.size w w' := by
  have l1 : IntKind.i64.wrap (a - c) = a - c := IntWalk.i64_in _ (by omega)
  have l2 : IntKind.i64.wrap (b - d) = b - d := IntWalk.i64_in _ (by omega)
  have HB : Hid (Below w.heap.size w ((w.alloc (.cells #[.int .i64 a, .int .i64 b] 66)).alloc (.cells #[.int .i64 c, .int .i64 d] 66))) := hide (((Below.refl _ _).alloc (Nat.le_refl _) _).alloc (by simp) _)
  clear ha hb hc hd
  by_cases h1 : 0 ≤ y
  · by_cases h2 : y ≤ a - c
    · by_cases h3 : 0 ≤ x
      · have HE : Hid (holdsB a b c d y x = decide (x ≤ b - d)) := hide (by simp [holdsB, h1, h2, h3])
        rw [HE.out]
        go_enter Try.func56, Try.ntmps56
        go_wp2
        go_ret
        exact ⟨rfl, HB.out⟩
      · have HE : Hid (holdsB a b c d y x = false) := hide (by simp [holdsB, h3])
        rw [HE.out]
        go_enter Try.func56, Try.ntmps56
        go_wp2
        go_ret
        exact ⟨rfl, HB.out⟩
    · have HE : Hid (holdsB a b c d y x = false) := hide (by simp [holdsB, h2])
      rw [HE.out]
      go_enter Try.func56, Try.ntmps56
      go_wp2
      go_ret
      exact ⟨rfl, HB.out⟩
  · have HE : Hid (holdsB a b c d y x = false) := hide (by simp [holdsB, h1])
    rw [HE.out]
    go_enter Try.func56, Try.ntmps56
    go_wp2
    go_ret
    exact ⟨rfl, HB.out⟩

/-- The rows are fewer than the ghost's, or the columns. -/
def detB (rows cols : Int) (l : List (Int × Int)) : Bool := sizeOk rows cols && dirsB l && (decide (rows < gzR l) || decide (cols < gzC l))
end Go.Proofs.Ytjnnoabaepmcnaa
/-
  SumsOk, of the model and of the program.
-/
namespace Go.Proofs.Ytjnnoabaepmcnaa
open Go.RowKit

def badB (most x : Int) : Bool := decide (x < 0) || decide (most < x)
theorem any_no {p : Int → Bool} {r : List Int} (h : ∀ i, (hi : i < r.length) → p r[i] = false) : r.any p = false := by
  rw [Bool.eq_false_iff]; intro e
  rw [List.any_eq_true] at e
  obtain ⟨x, hx, hp⟩ := e
  obtain ⟨i, hi, rfl⟩ := List.getElem_of_mem hx
  rw [h i hi] at hp; cases hp
theorem any_yes {p : Int → Bool} {r : List Int} (i : Nat) (hi : i < r.length) (h : p r[i] = true) : r.any p = true := List.any_eq_true.2 ⟨_, List.getElem_mem hi, h⟩

set_option maxHeartbeats 400000 in
theorem bad_any (x most : Int) (g : Nat) (w : World) (hc : w.cell? ⟨g, 0, none⟩ = some (.int .i64 most)) :
    Calls Try.prog 73 #[.int .i64 x, .pointer (some ⟨g, 0, none⟩)] w fun e w' => e = .returned (.bool (badB most x)) ∧ w = w' := by
  have HB : Hid (badB most x = (decide (x < 0) || decide (most < x))) := hide rfl
  by_cases h1 : x < 0
  · go_enter Try.func73, Try.ntmps73
    go_wp2
    go_ret
    exact ⟨ret_bool (by rw [HB.out]; simp [h1]), rfl⟩
  · go_enter Try.func73, Try.ntmps73
    go_wp2
    go_ret
    exact ⟨ret_bool (by rw [HB.out]; simp; omega), rfl⟩

def IdxRes (b : Bool) (w : World) (e : Ending) (w' : World) : Prop := ∃ i : Int, e = .returned (.int .i64 i) ∧ -1 ≤ i ∧ b = decide (0 ≤ i) ∧ w = w'
set_option maxHeartbeats 1000000 in
theorem indexFunc_any (v : Value) (r : List Int) (most : Int) (q : Nat) (w : World) (hin : InRow w v r) (hq : w.cell? ⟨q, 0, none⟩ = some (.int .i64 most)) :
    Calls Try.prog 84 #[v, .func (.func 73) #[] #[.pointer (some ⟨q, 0, none⟩)]] w (IdxRes (r.any (badB most)) w) := by
  obtain ⟨a, c, rfl, hm, hp⟩ := hin
  unfold maxLen at hm
  by_cases h0 : r.length = 0
  · have hr : r = [] := List.eq_nil_of_length_eq_zero h0
    subst hr
    clear hp h0 hm
    go_enter Try.func84, Try.ntmps84
    go_wp2
    go_loop [8] (fun i => i = .int .i64 0) (fun _ => 0)
    case atStart => rfl
    case round =>
      obtain rfl := hrel
      go_wp2
      go_ret
      exact ⟨-1, rfl, by omega, rfl, rfl⟩
  · obtain ⟨g, o, rfl, hg, hc⟩ := hp.resolve_left h0
    have HC := hide hc
    obtain ⟨n, hn⟩ : ∃ n, n = r.length := ⟨_, rfl⟩
    have HN := hide hn
    rw [← hn] at hm ⊢
    clear hp hc h0 hn
    go_enter Try.func84, Try.ntmps84
    go_wp2
    go_loop [8] (fun i => ∃ k : Nat, k ≤ n ∧ i = .int .i64 k ∧ ∀ t, (h : t < r.length) → t < k → badB most r[t] = false) (fun i => n - (intOf i).toNat)
    case atStart => exact ⟨0, Nat.zero_le _, rfl, fun t _ h => absurd h (Nat.not_lt_zero _)⟩
    case round =>
      obtain ⟨k, hk, rfl, hall⟩ := hrel
      have HA := hide hall
      clear hall
      by_cases hlt : k < n
      · have hk' : k < r.length := by rw [← HN.out]; exact hlt
        have hx := HC.out k hk'
        have HNO := hide (fun h => any_yes (p := badB most) k hk' h)
        have HST : Hid (badB most r[k] = false → ∀ t, (h : t < r.length) → t < k + 1 → badB most r[t] = false) := hide fun h t h1 ht => by
          by_cases e : t = k
          · subst e; exact h
          · exact HA.out t h1 (by omega)
        obtain ⟨x, hxx⟩ : ∃ x, x = r[k] := ⟨_, rfl⟩
        rw [← hxx] at hx HNO HST
        clear hxx
        cases e : badB most x with
        | true =>
          have HE := hide e
          have HF := hide (HNO.out e)
          clear e
          go_wp2_with (go_at_call 73; refine (bad_any _ most q _ hq).mono ?_; rw [HE.out]; rintro e w9 ⟨rfl, rfl⟩)
          go_ret
          exact ⟨k, rfl, by omega, by rw [HF.out]; simp, rfl⟩
        | false =>
          have HE := hide e
          have HST := hide (HST.out e)
          clear e
          go_wp2_with (go_at_call 73; refine (bad_any _ most q _ hq).mono ?_; rw [HE.out]; rintro e w9 ⟨rfl, rfl⟩)
          go_round
          case rel => exact ⟨k + 1, by omega, by go_num, HST.out⟩
          case measure => simp [intOf]; omega
      · have HY := hide (any_no (p := badB most) fun t h => HA.out t h (by have := HN.out; omega))
        go_wp2
        go_ret
        exact ⟨-1, rfl, by omega, by rw [HY.out]; rfl, rfl⟩

set_option maxHeartbeats 400000 in
theorem containsFunc_any (v : Value) (r : List Int) (most : Int) (q : Nat) (w : World) (hin : InRow w v r) (hq : w.cell? ⟨q, 0, none⟩ = some (.int .i64 most)) :
    Calls Try.prog 72 #[v, .func (.func 73) #[] #[.pointer (some ⟨q, 0, none⟩)]] w fun e w' => e = .returned (.bool (r.any (badB most))) ∧ w = w' := by
  have HI := hide hin; have HQ := hide hq
  clear hin hq
  go_enter Try.func72, Try.ntmps72
  go_wp2_with fail
  refine (indexFunc_any v r most q _ HI.out HQ.out).mono ?_
  rintro e w1 ⟨i, rfl, hi, hb, rfl⟩
  have HB := hide hb
  clear hb
  by_cases h : 0 ≤ i
  · go_wp2
    go_ret
    exact ⟨ret_bool (by rw [HB.out]; simp [h]), rfl⟩
  · go_wp2
    go_ret
    exact ⟨ret_bool (by rw [HB.out]), rfl⟩

theorem sumsInRange_any (v : Value) (r : List Int) (most : Int) (w : World) (hin : InRow w v r) :
    Calls Try.prog 43 #[v, .int .i64 most] w fun e w' => e = .returned (.bool (!r.any (badB most))) ∧ Below w.heap.size w w' := by
  have HB := hide ((Below.refl w.heap.size w).alloc (Nat.le_refl _) (.cells #[.int .i64 most] 3))
  have HI := hide (inRow_below hin HB.out)
  have HQ := hide (show (w.alloc (.cells #[.int .i64 most] 3)).cell? ⟨w.heap.size, 0, none⟩ = some (.int .i64 most) by simp [World.cell?_alloc_new])
  clear hin
  go_enter Try.func43, Try.ntmps43
  go_wp2_with fail
  refine (containsFunc_any v r most w.heap.size _ HI.out HQ.out).mono ?_
  rintro e w1 ⟨rfl, rfl⟩
  go_wp2
  go_ret
  exact ⟨rfl, HB.out⟩

theorem sum_snoc (r : List Int) (k : Nat) (h : k < r.length) : (r.take (k + 1)).sum = (r.take k).sum + r[k] := by
  rw [List.take_succ_eq_append_getElem h, List.sum_append]; simp
def SmallL (r : List Int) : Prop := r.length ≤ 5 ∧ ∀ i, (h : i < r.length) → 0 ≤ r[i] ∧ r[i] ≤ 5
theorem sum_small {r : List Int} (h : SmallL r) : ∀ k, k ≤ r.length → 0 ≤ (r.take k).sum ∧ (r.take k).sum ≤ 5 * k := by
  intro k
  induction k with
  | zero => intro _; simp
  | succ k ih =>
    intro hk
    have := ih (by omega)
    have := h.2 k (by omega)
    rw [sum_snoc r k (by omega)]; omega
set_option maxHeartbeats 400000 in
theorem totalOf_any (v : Value) (r : List Int) (w : World) (hin : InRow w v r) (hs : SmallL r) :
    Calls Try.prog 44 #[v] w fun e w' => e = .returned (.int .i64 r.sum) ∧ w = w' := by
  obtain ⟨a, c, rfl, hm, hp⟩ := hin
  unfold maxLen at hm
  have HS := hide hs
  by_cases h0 : r.length = 0
  · have hr : r = [] := List.eq_nil_of_length_eq_zero h0
    subst hr
    clear hp h0 hm hs
    go_enter Try.func44, Try.ntmps44
    go_wp2
    go_loop [3, 8] (fun s i => s = .int .i64 0 ∧ i = .int .i64 0) (fun _ _ => 0)
    case atStart => exact ⟨rfl, rfl⟩
    case round =>
      obtain ⟨rfl, rfl⟩ := hrel
      go_wp2
      go_ret
      exact ⟨rfl, rfl⟩
  · obtain ⟨g, o, rfl, hg, hc⟩ := hp.resolve_left h0
    have HC := hide hc
    have h5 := hs.1
    obtain ⟨n, hn⟩ : ∃ n, n = r.length := ⟨_, rfl⟩
    have HN := hide hn
    rw [← hn] at hm h5 ⊢
    clear hp hc h0 hn hs
    go_enter Try.func44, Try.ntmps44
    go_wp2
    go_loop [3, 8] (fun s i => ∃ k : Nat, k ≤ n ∧ i = .int .i64 k ∧ s = .int .i64 (r.take k).sum) (fun _ i => n - (intOf i).toNat)
    case atStart => exact ⟨0, Nat.zero_le _, rfl, rfl⟩
    case round =>
      obtain ⟨k, hk, rfl, rfl⟩ := hrel
      obtain ⟨b1, b2⟩ := sum_small HS.out k (by rw [← HN.out]; exact hk)
      by_cases hlt : k < n
      · have hk' : k < r.length := by rw [← HN.out]; exact hlt
        have hx := HC.out k hk'
        have HST := hide (sum_snoc r k hk')
        obtain ⟨b3, b4⟩ := HS.out.2 k hk'
        obtain ⟨x, hxx⟩ : ∃ x, x = r[k] := ⟨_, rfl⟩
        obtain ⟨S, hSS⟩ : ∃ S, S = (r.take k).sum := ⟨_, rfl⟩
        rw [← hxx] at hx HST b3 b4
        rw [← hSS] at HST b1 b2 ⊢
        clear hxx hSS
        go_wp2
        go_round
        case rel => exact ⟨k + 1, by omega, by go_num, by rw [HST.out]⟩
        case measure => simp [intOf]; omega
      · have HE : Hid ((r.take k).sum = r.sum) := hide (by rw [List.take_of_length_le (by have := HN.out; omega)])
        rw [HE.out]
        clear b1 b2
        go_wp2
        go_ret
        exact ⟨rfl, rfl⟩

/-- What SumsOk returns. -/
def sumsOk (r c : List Int) : Bool := sizeOk r.length c.length && !r.any (badB c.length) && !c.any (badB r.length) && r.sum == c.sum
theorem small_of {r : List Int} {m : Int} (hl : r.length ≤ 5) (hm : m ≤ 5) (h : r.any (badB m) = false) : SmallL r := by
  refine ⟨hl, fun i hi => ?_⟩
  rw [List.any_eq_false] at h
  have := h _ (List.getElem_mem hi)
  simp only [badB, Bool.or_eq_true, decide_eq_true_eq, not_or] at this
  omega
set_option maxHeartbeats 1000000 in
theorem implSumsOk_any (va vb : Value) (r c : List Int) (w : World) (ha : InRow w va r) (hb : InRow w vb c) :
    Calls Try.prog 17 #[va, vb] w fun e w' => e = .returned (.bool (sumsOk r c)) ∧ Below w.heap.size w w' := by
  obtain ⟨a, ca, rfl, hma, hpa⟩ := ha
  obtain ⟨b, cb, rfl, hmb, hpb⟩ := hb
  have HA : Hid (InRow w (.slice a r.length ca) r) := hide ⟨a, ca, rfl, hma, hpa⟩
  have HB : Hid (InRow w (.slice b c.length cb) c) := hide ⟨b, cb, rfl, hmb, hpb⟩
  clear hpa hpb
  unfold maxLen at hma hmb
  obtain ⟨R, hR⟩ : ∃ R, R = r.length := ⟨_, rfl⟩
  obtain ⟨C, hC⟩ : ∃ C, C = c.length := ⟨_, rfl⟩
  have HRR := hide hR; have HCC := hide hC
  have HS : Hid (sumsOk r c = (decide ((1 : Int) ≤ R ∧ (R : Int) ≤ 5) && decide ((1 : Int) ≤ C ∧ (C : Int) ≤ 5) && !r.any (badB C) && !c.any (badB R) && r.sum == c.sum)) := hide (by rw [sumsOk, sizeOk, hR, hC])
  rw [← hR] at HA hma ⊢
  rw [← hC] at HB hmb ⊢
  rw [HS.out]
  by_cases h1 : 1 ≤ R ∧ R ≤ 5
  · have H1 : Hid (decide ((1 : Int) ≤ R ∧ (R : Int) ≤ 5) = true) := hide (decide_eq_true (by omega))
    rw [H1.out]
    by_cases h2 : 1 ≤ C ∧ C ≤ 5
    · have H2 : Hid (decide ((1 : Int) ≤ C ∧ (C : Int) ≤ 5) = true) := hide (decide_eq_true (by omega))
      rw [H2.out]
      cases h3 : r.any (badB C) with
      | true =>
        have H3 := hide h3
        clear hR hC h3
        go_enter Try.func17, Try.ntmps17
        go_wp2_with (first | (with_reducible refine (sideOk_any (R : Int) _).mono ?_; rw [H1.out]; rintro e w' ⟨rfl, rfl⟩) | (with_reducible refine (sideOk_any (C : Int) _).mono ?_; rw [H2.out]; rintro e w' ⟨rfl, rfl⟩) | ((with_reducible refine (sumsInRange_any _ r (C : Int) _ HA.out).mono ?_); rw [H3.out]; rintro e w1 ⟨rfl, b1⟩; have B1 := hide b1; clear b1))
        go_ret
        exact ⟨rfl, B1.out⟩
      | false =>
        have HSA := hide (small_of (m := C) (by rw [← hR]; exact h1.2) (by omega) h3)
        have H3 := hide h3
        cases h4 : c.any (badB R) with
        | true =>
          have H4 := hide h4
          clear hR hC h3 h4
          go_enter Try.func17, Try.ntmps17
          go_wp2_with (first | (with_reducible refine (sideOk_any (R : Int) _).mono ?_; rw [H1.out]; rintro e w' ⟨rfl, rfl⟩) | (with_reducible refine (sideOk_any (C : Int) _).mono ?_; rw [H2.out]; rintro e w' ⟨rfl, rfl⟩) | ((with_reducible refine (sumsInRange_any _ r (C : Int) _ HA.out).mono ?_); rw [H3.out]; rintro e w1 ⟨rfl, b1⟩; have B1 := hide b1; clear b1) | ((with_reducible refine (sumsInRange_any _ c (R : Int) _ (inRow_below HB.out B1.out)).mono ?_); rw [H4.out]; rintro e w2 ⟨rfl, b2⟩; have B2 := hide (B1.out.trans (b2.mono B1.out.size)); clear b2))
          go_ret
          exact ⟨rfl, B2.out⟩
        | false =>
          have HSB := hide (small_of (m := R) (by rw [← hC]; exact h2.2) (by omega) h4)
          have H4 := hide h4
          clear hR hC h3 h4
          obtain ⟨p1, p2⟩ := sum_small HSA.out r.length (Nat.le_refl _)
          obtain ⟨q1, q2⟩ := sum_small HSB.out c.length (Nat.le_refl _)
          rw [List.take_length] at p1 p2 q1 q2
          have TA := fun w hw => totalOf_any (.slice a R ca) r w hw HSA.out
          have TB := fun w hw => totalOf_any (.slice b C cb) c w hw HSB.out
          obtain ⟨X, hX⟩ : ∃ X, X = r.sum := ⟨_, rfl⟩
          obtain ⟨Y, hY⟩ : ∃ Y, Y = c.sum := ⟨_, rfl⟩
          rw [← hX] at TA p1 p2 ⊢
          rw [← hY] at TB q1 q2 ⊢
          have TA := hide TA; have TB := hide TB
          clear hX hY
          go_enter Try.func17, Try.ntmps17
          go_wp2_with (first | (with_reducible refine (sideOk_any (R : Int) _).mono ?_; rw [H1.out]; rintro e w' ⟨rfl, rfl⟩) | (with_reducible refine (sideOk_any (C : Int) _).mono ?_; rw [H2.out]; rintro e w' ⟨rfl, rfl⟩) | ((with_reducible refine (sumsInRange_any _ r (C : Int) _ HA.out).mono ?_); rw [H3.out]; rintro e w1 ⟨rfl, b1⟩; have B1 := hide b1; clear b1) | ((with_reducible refine (sumsInRange_any _ c (R : Int) _ (inRow_below HB.out B1.out)).mono ?_); rw [H4.out]; rintro e w2 ⟨rfl, b2⟩; have B2 := hide (B1.out.trans (b2.mono B1.out.size)); clear b2) | ((with_reducible refine (TA.out _ (inRow_below HA.out B2.out)).mono ?_); rintro e w' ⟨rfl, rfl⟩) | ((with_reducible refine (TB.out _ (inRow_below HB.out B2.out)).mono ?_); rintro e w' ⟨rfl, rfl⟩))
          go_ret
          exact ⟨ret_bool (by simp), B2.out⟩
    · have H2 : Hid (decide ((1 : Int) ≤ C ∧ (C : Int) ≤ 5) = false) := hide (decide_eq_false (by omega))
      rw [H2.out]
      clear hR hC h1 h2
      go_enter Try.func17, Try.ntmps17
      go_wp2_with (first | (with_reducible refine (sideOk_any (R : Int) _).mono ?_; rw [H1.out]; rintro e w' ⟨rfl, rfl⟩) | (with_reducible refine (sideOk_any (C : Int) _).mono ?_; rw [H2.out]; rintro e w' ⟨rfl, rfl⟩))
      go_ret
      exact ⟨rfl, Below.refl _ _⟩
  · have H1 : Hid (decide ((1 : Int) ≤ R ∧ (R : Int) ≤ 5) = false) := hide (decide_eq_false (by omega))
    rw [H1.out]
    clear hR hC h1
    go_enter Try.func17, Try.ntmps17
    go_wp2_with (first | (with_reducible refine (sideOk_any (R : Int) _).mono ?_; rw [H1.out]; rintro e w' ⟨rfl, rfl⟩))
    go_ret
    exact ⟨rfl, Below.refl _ _⟩

theorem bad_in (m x : Int) : decide (0 ≤ x ∧ x ≤ m) = !badB m x := by
  unfold badB
  by_cases h : 0 ≤ x ∧ x ≤ m
  · rw [decide_eq_true h, decide_eq_false (by omega), decide_eq_false (by omega)]; rfl
  · rw [decide_eq_false h]
    by_cases h1 : x < 0
    · rw [decide_eq_true h1]; rfl
    · rw [decide_eq_false h1, decide_eq_true (by omega : m < x)]; rfl
end Go.Proofs.Ytjnnoabaepmcnaa
/-
  The exact law on SumsOk, walked.
-/
namespace Go.Proofs.Ytjnnoabaepmcnaa
open Go.RowKit
set_option linter.unusedVariables false

/-- What 'open_ints' hands over. -/
theorem inRow_of {w : World} {x : Addr} {l c : Nat} {zs : List Int} (hl : l ≤ c) (hm : c ≤ maxLen) (hz : zs.length = c) (hcell : ∀ i, i < zs.length → w.cell? (x.add i) = some (.int .i64 (zs.getD i 0))) : InRow w (.slice (some x) l c) (zs.take l) := by
  have hlen : (zs.take l).length = l := by rw [List.length_take]; omega
  refine ⟨some x, c, by rw [hlen], by omega, ?_⟩
  by_cases h0 : l = 0
  · exact .inl (by omega)
  · refine .inr ?_
    obtain ⟨g, o, spot⟩ := x
    have hc := hcell 0 (by omega)
    have hspot : spot = none := by simpa [Addr.add] using World.cell?_spot hc
    subst hspot
    refine ⟨g, o, rfl, by have := World.block_lt_of_cell? w _ hc; simpa [Addr.add] using this, fun i hi => ?_⟩
    have := hcell i (by omega)
    rw [addr_add] at this
    rw [this, List.getElem_take, List.getD_eq_getElem?_getD, List.getElem?_eq_getElem (by omega)]; rfl

end Go.Proofs.Ytjnnoabaepmcnaa
