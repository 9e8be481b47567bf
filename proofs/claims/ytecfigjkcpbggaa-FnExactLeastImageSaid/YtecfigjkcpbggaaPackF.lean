/-
  Texts of this claim, one behind the other: Mask, MostS, Seq, ShSort, SortF, Bound, Bounds, BoundsOf.
-/
import Derived.Test.YtecfigjkcpbggaaRows
import Derived.Test.YtecfigjkcpbggaaPackD
import Derived.RangeFuncBox
import Derived.RangeFuncLeaves
import Derived.Shelf.Abstract
import Derived.OwnWalkIn
import Derived.TacticsInMore
import Derived.LoopNIn
import Derived.LoopIn
import Derived.Maps.AppendAt
import Derived.Shelf.SlSortCmp.NoneTotal
import Derived.Test.YtecfigjkcpbggaaProg
import Derived.Shelf.SlSortCmp.QuietGrown
import Derived.Test.YtecfigjkcpbggaaPackC
/-
  Sums over ranges, and the theorem on 0-1 matrices with given sums between two bounds.
-/
namespace Go.Proofs.Ytecfigjkcpbggaa.Mx

/-- The sum of f 0, .., f (n - 1). -/
def S : Nat → (Nat → Int) → Int
  | 0, _ => 0
  | n + 1, f => S n f + f n
theorem S_congr {f g : Nat → Int} : ∀ n, (∀ i, i < n → f i = g i) → S n f = S n g
  | 0, _ => rfl
  | n + 1, h => by rw [S, S, S_congr n (fun i hi => h i (by omega)), h n (by omega)]
theorem S_le {f g : Nat → Int} : ∀ n, (∀ i, i < n → f i ≤ g i) → S n f ≤ S n g
  | 0, _ => Int.le_refl _
  | n + 1, h => by
    have := S_le n (fun i hi => h i (by omega))
    have := h n (by omega)
    rw [S, S]; omega
theorem S_add (f g : Nat → Int) : ∀ n, S n (fun i => f i + g i) = S n f + S n g
  | 0 => rfl
  | n + 1 => by rw [S, S, S, S_add f g n]; omega
theorem S_sub (f g : Nat → Int) : ∀ n, S n (fun i => f i - g i) = S n f - S n g
  | 0 => rfl
  | n + 1 => by rw [S, S, S, S_sub f g n]; omega
theorem S_zero : ∀ n, S n (fun _ => 0) = 0
  | 0 => rfl
  | n + 1 => by rw [S, S_zero n]; rfl
theorem S_one {f : Nat → Int} {k : Nat} : ∀ n, k < n → (∀ i, i < n → i ≠ k → f i = 0) → S n f = f k
  | 0, h, _ => absurd h (Nat.not_lt_zero _)
  | n + 1, h, h0 => by
    rw [S]
    by_cases e : k = n
    · subst e
      rw [S_congr k (g := fun _ => 0) (fun i hi => h0 i (by omega) (by omega)), S_zero]; omega
    · rw [S_one n (by omega) (fun i hi => h0 i (by omega)), h0 n (by omega) (Ne.symm e)]; omega
theorem S_pick {k n : Nat} (h : k < n) (v : Int) : S n (fun i => if i = k then v else 0) = v := by
  rw [S_one n h (fun i _ hne => by rw [if_neg hne]), if_pos rfl]
theorem S_swap (f : Nat → Nat → Int) (m : Nat) : ∀ n, S n (fun i => S m fun j => f i j) = S m fun j => S n fun i => f i j
  | 0 => by rw [S, S_congr m (f := fun j => S 0 fun i => f i j) (g := fun _ => 0) (fun j _ => rfl), S_zero]
  | n + 1 => by rw [S, S_swap f m n, ← S_add]; rfl
theorem S_nonneg {f : Nat → Int} (n : Nat) (h : ∀ i, i < n → 0 ≤ f i) : 0 ≤ S n f := by
  have := S_le (f := fun _ => 0) (g := f) n h
  rwa [S_zero] at this
/-- The numbers x at which p holds. -/
def on (p : Nat → Bool) (f : Nat → Int) (i : Nat) : Int := if p i then f i else 0

/-- What a cell gives to the rows of L (a: its row is one) from outside the columns of O (d: its column is one), less what it must give away. -/
def kc (a d : Bool) (h l : Int) : Int := (if a && !d then h else 0) - if !a && d then l else 0
/-- What the rows of L and the columns of O ask for beyond what the cells can give. -/
def over (R C : Nat) (r c : Nat → Int) (lo hi : Nat → Nat → Int) (L O : Nat → Bool) : Int :=
  S R (on L r) - S C (on O c) - S R (fun y => S C fun x => kc (L y) (O x) (hi y x) (lo y x))
theorem ite_or (a b : Bool) (v : Int) : (if a then v else 0) + (if b then v else 0) = (if (a || b) then v else 0) + (if (a && b) then v else 0) := by cases a <;> cases b <;> simp
theorem kc_or (a b d e : Bool) (h l q : Int) (hle : l ≤ h) (hq : q ≤ if (a && !d) && (!b && e) then h - l else 0) : kc (a || b) (d || e) h l + kc (a && b) (d && e) h l + q ≤ kc a d h l + kc b e h l := by
  unfold kc
  cases a <;> cases b <;> cases d <;> cases e <;> simp at hq ⊢ <;> omega
def orB (p q : Nat → Bool) (i : Nat) : Bool := p i || q i
def andB (p q : Nat → Bool) (i : Nat) : Bool := p i && q i
theorem over_sum {R C : Nat} {r c : Nat → Int} {lo hi : Nat → Nat → Int} (h : ∀ y x, y < R → x < C → lo y x ≤ hi y x) (L O L' O' : Nat → Bool) (q : Nat → Nat → Int)
    (hq : ∀ y x, y < R → x < C → q y x ≤ (if (L y && !O x) && (!L' y && O' x) then hi y x - lo y x else 0)) :
    over R C r c lo hi L O + over R C r c lo hi L' O' + S R (fun y => S C fun x => q y x) ≤ over R C r c lo hi (orB L L') (orB O O') + over R C r c lo hi (andB L L') (andB O O') := by
  have hr : S R (on L r) + S R (on L' r) = S R (on (orB L L') r) + S R (on (andB L L') r) := by
    rw [← S_add, ← S_add]
    exact S_congr R fun y _ => ite_or (L y) (L' y) (r y)
  have hc : S C (on O c) + S C (on O' c) = S C (on (orB O O') c) + S C (on (andB O O') c) := by
    rw [← S_add, ← S_add]
    exact S_congr C fun x _ => ite_or (O x) (O' x) (c x)
  have hk : S R (fun y => S C fun x => kc (orB L L' y) (orB O O' x) (hi y x) (lo y x)) + S R (fun y => S C fun x => kc (andB L L' y) (andB O O' x) (hi y x) (lo y x)) + S R (fun y => S C fun x => q y x) ≤
      S R (fun y => S C fun x => kc (L y) (O x) (hi y x) (lo y x)) + S R (fun y => S C fun x => kc (L' y) (O' x) (hi y x) (lo y x)) := by
    rw [← S_add, ← S_add, ← S_add]
    refine S_le R fun y hy => ?_
    rw [← S_add, ← S_add, ← S_add]
    exact S_le C fun x hx => kc_or _ _ _ _ _ _ _ (h y x hy hx) (hq y x hy hx)
  unfold over
  omega

/-- The number of cells that are free. -/
def free (R C : Nat) (lo hi : Nat → Nat → Int) : Nat := (S R fun y => S C fun x => hi y x - lo y x).toNat
def put (m : Nat → Nat → Int) (y x : Nat) (v : Int) (a b : Nat) : Int := if a = y ∧ b = x then v else m a b
/-- Between the bounds lies a matrix with these sums, where no rows and columns ask for too much. -/
theorem exists_between (R C : Nat) (r c : Nat → Int) (ht : S R r = S C c) : ∀ (n : Nat) (lo hi : Nat → Nat → Int), free R C lo hi ≤ n → (∀ y x, y < R → x < C → (lo y x = 0 ∨ lo y x = 1) ∧ (hi y x = 0 ∨ hi y x = 1) ∧ lo y x ≤ hi y x) →
    (∀ L O, over R C r c lo hi L O ≤ 0) → ∃ m : Nat → Nat → Int, (∀ y x, y < R → x < C → lo y x ≤ m y x ∧ m y x ≤ hi y x) ∧ (∀ y, y < R → S C (m y) = r y) ∧ ∀ x, x < C → S R (fun y => m y x) = c x := by
  intro n
  induction n with
  | zero =>
    intro lo hi hf hb hov
    have heq : ∀ y x, y < R → x < C → lo y x = hi y x := by
      intro y x hy hx
      have h0 : (S R fun y => S C fun x => hi y x - lo y x) ≤ 0 := by unfold free at hf; omega
      have h1 : ∀ y, y < R → 0 ≤ S C (fun x => hi y x - lo y x) := fun y hy => S_nonneg C fun x hx => by have := (hb y x hy hx).2.2; omega
      have hrow : S C (fun x => hi y x - lo y x) ≤ 0 := by
        have h2 := S_le (f := fun i => if i = y then S C (fun x => hi y x - lo y x) else 0) (g := fun y => S C fun x => hi y x - lo y x) R (fun i hi' => by
          by_cases e : i = y
          · subst e; simp
          · rw [if_neg e]; exact h1 i hi')
        rw [S_pick hy] at h2
        omega
      have h2 := S_le (f := fun i => if i = x then hi y x - lo y x else 0) (g := fun x => hi y x - lo y x) C (fun i hi' => by
        by_cases e : i = x
        · subst e; simp
        · rw [if_neg e]; have := (hb y i hy hi').2.2; omega)
      rw [S_pick hx] at h2
      have := (hb y x hy hx).2.2
      omega
    refine ⟨lo, fun y x hy hx => ⟨Int.le_refl _, by rw [heq y x hy hx]; exact Int.le_refl _⟩, fun y hy => ?_, fun x hx => ?_⟩
    · have a := hov (fun i => i == y) (fun _ => false)
      have b := hov (fun i => i != y) (fun _ => true)
      unfold over at a b
      simp only [] at a b
      have a1 : S R (on (fun i => i == y) r) = r y := by
        rw [S_one R hy (fun i _ hne => by simp [on, hne])]; simp [on]
      have a2 : S C (on (fun _ => false) c) = 0 := by rw [S_congr C (g := fun _ => 0) (fun i _ => by simp [on]), S_zero]
      have a3 : S R (fun i => S C fun x => kc (i == y) false (hi i x) (lo i x)) = S C (lo y) := by
        rw [S_one R hy (fun i _ hne => by rw [S_congr C (g := fun _ => 0) (fun j _ => by simp [kc, hne]), S_zero])]
        exact S_congr C fun j hj => by simp [kc, heq y j hy hj]
      have b1 : S R (on (fun i => i != y) r) = S R r - r y := by
        rw [S_congr R (g := fun i => r i - (if i = y then r y else 0)) (fun i _ => by
          unfold on
          by_cases e : i = y
          · subst e; simp
          · simp [e]), S_sub, S_pick hy]
      have b2 : S C (on (fun _ => true) c) = S C c := S_congr C fun i _ => by simp [on]
      have b3 : S R (fun i => S C fun x => kc (i != y) true (hi i x) (lo i x)) = - S C (lo y) := by
        rw [S_one R hy (fun i _ hne => by rw [S_congr C (g := fun _ => 0) (fun j _ => by simp [kc, hne]), S_zero])]
        rw [S_congr C (g := fun x => 0 - lo y x) (fun j _ => by simp [kc]), S_sub, S_zero]; omega
      rw [a1, a2, a3] at a
      rw [b1, b2, b3] at b
      omega
    · have a := hov (fun _ => true) (fun i => i != x)
      have b := hov (fun _ => false) (fun i => i == x)
      unfold over at a b
      simp only [] at a b
      have a1 : S R (on (fun _ => true) r) = S R r := S_congr R fun i _ => by simp [on]
      have a2 : S C (on (fun i => i != x) c) = S C c - c x := by
        rw [S_congr C (g := fun i => c i - (if i = x then c x else 0)) (fun i _ => by
          unfold on
          by_cases e : i = x
          · subst e; simp
          · simp [e]), S_sub, S_pick hx]
      have a3 : S R (fun y => S C fun i => kc true (i != x) (hi y i) (lo y i)) = S R (fun y => lo y x) := S_congr R fun y hy => by
        rw [S_one C hx (fun i _ hne => by simp [kc, hne])]
        simp [kc, heq y x hy hx]
      have b1 : S R (on (fun _ => false) r) = 0 := by rw [S_congr R (g := fun _ => 0) (fun i _ => by simp [on]), S_zero]
      have b2 : S C (on (fun i => i == x) c) = c x := by
        rw [S_one C hx (fun i _ hne => by simp [on, hne])]; simp [on]
      have b3 : S R (fun y => S C fun i => kc false (i == x) (hi y i) (lo y i)) = - S R (fun y => lo y x) := by
        rw [S_congr R (g := fun y => 0 - lo y x) (fun y _ => by
          rw [S_one C hx (fun i _ hne => by simp [kc, hne])]
          simp [kc]), S_sub, S_zero]; omega
      rw [a1, a2, a3] at a
      rw [b1, b2, b3] at b
      omega
  | succ n ih =>
    intro lo hi hf hb hov
    by_cases hex : ∃ y x, y < R ∧ x < C ∧ lo y x = 0 ∧ hi y x = 1
    · obtain ⟨y, x, hy, hx, hl, hh⟩ := hex
      have hsum : ∀ (m m' : Nat → Nat → Int) (d : Int), (∀ a b, a < R → b < C → m' a b = m a b + if a = y ∧ b = x then d else 0) → S R (fun a => S C fun b => m' a b) = S R (fun a => S C fun b => m a b) + d := by
        intro m m' d h
        have e1 : ∀ a, a < R → S C (fun b => m' a b) = S C (fun b => m a b) + if a = y then d else 0 := by
          intro a ha
          rw [S_congr C (fun b hb' => h a b ha hb'), S_add]
          congr 1
          by_cases e : a = y
          · subst e
            rw [if_pos rfl, S_one C hx (fun i _ hne => by simp [hne])]; simp
          · rw [if_neg e, S_congr C (g := fun _ => 0) (fun i _ => by simp [e]), S_zero]
        rw [S_congr R e1, S_add, S_pick hy]
      have hfr : (S R fun a => S C fun b => hi a b - lo a b) = (free R C lo hi : Nat) := by
        unfold free
        have := S_nonneg R (f := fun a => S C fun b => hi a b - lo a b) fun a ha => S_nonneg C fun b hb' => by have := (hb a b ha hb').2.2; omega
        omega
      have hpos : 1 ≤ free R C lo hi := by
        have h1 : ∀ a, a < R → 0 ≤ S C (fun b => hi a b - lo a b) := fun a ha => S_nonneg C fun b hb' => by have := (hb a b ha hb').2.2; omega
        have h2 := S_le (f := fun i => if i = y then S C (fun b => hi y b - lo y b) else 0) (g := fun a => S C fun b => hi a b - lo a b) R (fun i hi' => by
          by_cases e : i = y
          · subst e; simp
          · rw [if_neg e]; exact h1 i hi')
        rw [S_pick hy] at h2
        have h3 := S_le (f := fun i => if i = x then hi y x - lo y x else 0) (g := fun b => hi y b - lo y b) C (fun i hi' => by
          by_cases e : i = x
          · subst e; simp
          · rw [if_neg e]; have := (hb y i hy hi').2.2; omega)
        rw [S_pick hx] at h3
        simp [hl, hh] at h2 h3
        omega
      -- the cell white
      by_cases h0 : ∀ L O, over R C r c lo (put hi y x 0) L O ≤ 0
      · have hfree : free R C lo (put hi y x 0) ≤ n := by
          unfold free
          rw [hsum (fun a b => hi a b - lo a b) (fun a b => put hi y x 0 a b - lo a b) (-1) (fun a b _ _ => by
            unfold put
            by_cases e : a = y ∧ b = x
            · obtain ⟨rfl, rfl⟩ := e; simp [hh]; omega
            · simp [e])]
          rw [hfr]; omega
        obtain ⟨m, hm1, hm2, hm3⟩ := ih lo (put hi y x 0) hfree (fun a b ha hb' => by
          have := hb a b ha hb'
          unfold put
          by_cases e : a = y ∧ b = x
          · obtain ⟨rfl, rfl⟩ := e; simp [hl]
          · simp [e]; exact this) h0
        refine ⟨m, fun a b ha hb' => ?_, hm2, hm3⟩
        have := hm1 a b ha hb'
        refine ⟨this.1, ?_⟩
        by_cases e : a = y ∧ b = x
        · obtain ⟨rfl, rfl⟩ := e; simp [put] at this; omega
        · simp [put, e] at this; omega
      · by_cases h1 : ∀ L O, over R C r c (put lo y x 1) hi L O ≤ 0
        · have hfree : free R C (put lo y x 1) hi ≤ n := by
            unfold free
            rw [hsum (fun a b => hi a b - lo a b) (fun a b => hi a b - put lo y x 1 a b) (-1) (fun a b _ _ => by
              unfold put
              by_cases e : a = y ∧ b = x
              · obtain ⟨rfl, rfl⟩ := e; simp [hl]; omega
              · simp [e])]
            rw [hfr]; omega
          obtain ⟨m, hm1, hm2, hm3⟩ := ih (put lo y x 1) hi hfree (fun a b ha hb' => by
            have := hb a b ha hb'
            unfold put
            by_cases e : a = y ∧ b = x
            · obtain ⟨rfl, rfl⟩ := e; simp [hh]
            · simp [e]; exact this) h1
          refine ⟨m, fun a b ha hb' => ?_, hm2, hm3⟩
          have := hm1 a b ha hb'
          refine ⟨?_, this.2⟩
          by_cases e : a = y ∧ b = x
          · obtain ⟨rfl, rfl⟩ := e; simp [put] at this; omega
          · simp [put, e] at this; omega
        · exfalso
          simp only [Classical.not_forall] at h0 h1
          obtain ⟨L, O, h0⟩ := h0
          obtain ⟨L', O', h1⟩ := h1
          have e0 : over R C r c lo (put hi y x 0) L O = over R C r c lo hi L O + if L y && !O x then 1 else 0 := by
            unfold over
            rw [hsum (fun a b => kc (L a) (O b) (hi a b) (lo a b)) (fun a b => kc (L a) (O b) (put hi y x 0 a b) (lo a b)) (-(if L y && !O x then 1 else 0)) (fun a b _ _ => by
              unfold put kc
              by_cases e : a = y ∧ b = x
              · rw [if_pos e, if_pos e]
                obtain ⟨rfl, rfl⟩ := e
                rw [hh]
                cases L a <;> cases O b <;> simp
              · rw [if_neg e, if_neg e]; simp)]
            omega
          have e1 : over R C r c (put lo y x 1) hi L' O' = over R C r c lo hi L' O' + if !L' y && O' x then 1 else 0 := by
            unfold over
            rw [hsum (fun a b => kc (L' a) (O' b) (hi a b) (lo a b)) (fun a b => kc (L' a) (O' b) (hi a b) (put lo y x 1 a b)) (-(if !L' y && O' x then 1 else 0)) (fun a b _ _ => by
              unfold put kc
              by_cases e : a = y ∧ b = x
              · rw [if_pos e, if_pos e]
                obtain ⟨rfl, rfl⟩ := e
                rw [hl]
                cases L' a <;> cases O' b <;> simp
              · rw [if_neg e, if_neg e]; simp)]
            omega
          have a0 := hov L O
          have a1 := hov L' O'
          have hL : (L y && !O x) = true := by
            cases h : L y && !O x with
            | true => rfl
            | false => rw [e0, h] at h0; simp at h0; omega
          have hL' : (!L' y && O' x) = true := by
            cases h : !L' y && O' x with
            | true => rfl
            | false => rw [e1, h] at h1; simp at h1; omega
          rw [e0, hL] at h0
          rw [e1, hL'] at h1
          have hs := over_sum (r := r) (c := c) (lo := lo) (hi := hi) (R := R) (C := C) (fun a b ha hb' => (hb a b ha hb').2.2) L O L' O' (fun a b => if a = y ∧ b = x then 1 else 0) (fun a b ha hb' => by
            by_cases e : a = y ∧ b = x
            · obtain ⟨rfl, rfl⟩ := e
              rw [hL, hL']; simp [hl, hh]
            · rw [if_neg e]
              have := (hb a b ha hb').2.2
              split <;> omega)
          have hq : S R (fun a => S C fun b => if a = y ∧ b = x then (1 : Int) else 0) = 1 := by
            have := hsum (fun _ _ => 0) (fun a b => if a = y ∧ b = x then 1 else 0) 1 (fun a b _ _ => by omega)
            rw [this, S_congr R (g := fun _ => 0) (fun a _ => S_zero C), S_zero]; rfl
          rw [hq] at hs
          have b0 := hov (orB L L') (orB O O')
          have b1 := hov (andB L L') (andB O O')
          simp at h0 h1
          omega
    · refine ih lo hi ?_ hb hov
      have hz : ∀ y x, y < R → x < C → hi y x - lo y x = 0 := fun y x hy hx => by
        have := hb y x hy hx
        rcases this.1 with e | e <;> rcases this.2.1 with e' | e'
        · omega
        · exact absurd ⟨y, x, hy, hx, e, e'⟩ hex
        · omega
        · omega
      unfold free
      rw [S_congr R (g := fun _ => 0) (fun y hy => by rw [S_congr C (g := fun _ => 0) (fun x hx => hz y x hy hx), S_zero]), S_zero]
      exact Nat.zero_le _
end Go.Proofs.Ytecfigjkcpbggaa.Mx
/-
  The sums of the lesser ones are the sums of the conjugate.
-/
namespace Go.Proofs.Ytecfigjkcpbggaa
open Go.RowKit

theorem most_step (r : List Int) (k : Nat) : (r.map fun x => min x ((k : Int) + 1)).sum = (r.map fun x => min x (k : Int)).sum + (atLeast ((k : Int) + 1) r : Nat) := by
  induction r with
  | nil => rfl
  | cons x r ih =>
    rw [List.map_cons, List.map_cons, List.sum_cons, List.sum_cons, ih, atLeast, atLeast, List.countP_cons]
    by_cases h : (k : Int) + 1 ≤ x
    · rw [if_pos (decide_eq_true h)]; omega
    · rw [if_neg (by simpa using h)]; omega
theorem most_sum {r : List Int} {n : Nat} (hr : ∀ x ∈ r, 0 ≤ x) : ∀ k, k ≤ n → (r.map fun x => min x (k : Int)).sum = ((conjL r n).take k).sum := by
  intro k
  induction k with
  | zero =>
    intro _
    have h : (r.map fun x => min x ((0 : Nat) : Int)) = r.map fun _ => 0 := List.map_congr_left fun x hx => by have := hr x hx; omega
    rw [h]
    clear h hr
    induction r with
    | nil => rfl
    | cons x r ih => rw [List.map_cons, List.sum_cons, ih]; simp
  | succ k ih =>
    intro hk
    have hl : (conjL r n).length = n := by rw [conjL, tabL_len]
    have ha : (conjL r n)[k]'(by omega) = ((atLeast (k + 1) r : Nat) : Int) := tabL_at _
    rw [sum_snoc _ k (by omega), ← ih (by omega), ha]
    exact most_step r k
end Go.Proofs.Ytecfigjkcpbggaa
/-
  slices.Collect over slices.Values: a copy of the list, in memory of the call's own.
-/
namespace Go.Proofs.Ytecfigjkcpbggaa
open Go.RowKit Go.Shelf
attribute [local go_sem] Oper.semAt_some

set_option maxRecDepth 100000 in
set_option maxHeartbeats 2000000 in
/-- The iterator of slices.Values: the elements in their order, for every body that keeps what lay in w. -/
theorem valuesEach_in (F : Fence) (n : Nat) (hF : F.fn 90) (hro : F.round = none) (hn : 1 ≤ n) (l Bs : Nat) (v : Value) (zs : List Int) (w W : World) (hin : InRow w v zs) (hW : Below w.heap.size w W) (J Jx : List Int → World → Prop)
    (hY : ∀ pre x W, J pre W → pre.length < zs.length → YieldAt F (n - 1) Try.prog l #[.int .i64 x] W fun e W' =>
      (e = .returned (.bool true) ∧ J (pre ++ [x]) W' ∧ Below w.heap.size W W') ∨ (e = .returned (.bool false) ∧ Jx (pre ++ [x]) W'))
    (hBs : W.cell? ⟨Bs, 0, none⟩ = some v) (h0 : J [] W) :
    CallsIn F n Try.prog 90 #[.func (.yield l) #[] #[], .pointer (some ⟨Bs, 0, none⟩)] W fun e W' => (∃ u, e = .returned u) ∧ ((∃ ys, ys = zs ∧ J ys W') ∨ ∃ pre, pre <+: zs ∧ Jx pre W') := by
  obtain ⟨a, c, rfl, hm, hp⟩ := hin
  unfold maxLen at hm
  have HP := hide fun h : zs.length ≠ 0 => hp.resolve_left h
  have HY := hide hY
  obtain ⟨L, hL⟩ : ∃ L, L = zs.length := ⟨_, rfl⟩
  have HL := hide hL
  rw [← hL] at hm hBs
  clear hp hL hY
  refine callsIn_of_wp Try.func90 rfl hF ?_ hro
  simp only [Try.ntmps90, List.size_toArray, List.length_cons, List.length_nil, Nat.reduceAdd, Nat.reduceSub, Array.replicate_succ, Array.replicate_zero, List.push_toArray, List.append_toArray, List.nil_append, List.cons_append]
  gi_wp2
  gi_loopw [7] (fun i wr => ∃ k : Nat, k ≤ L ∧ i = .int .i64 k ∧ J (zs.take k) wr ∧ Below w.heap.size w wr) (fun i _ => L - (intOf i).toNat)
  case atStart => exact ⟨0, Nat.zero_le _, rfl, h0, hW⟩
  case round =>
    obtain ⟨k, hk, rfl, hJ, hB⟩ := hrel
    have HB := hide hB
    clear hB
    by_cases hlt : k < L
    · obtain ⟨g, o, rfl, hg, hc⟩ := HP.out (by have := HL.out; omega)
      have hk' : k < zs.length := by rw [← HL.out]; exact hlt
      have hx := below_cell HB.out hg (hc k hk')
      have HT := hide (show zs.take (k + 1) = zs.take k ++ [zs[k]] from List.take_succ_eq_append_getElem hk')
      obtain ⟨x, hxx⟩ : ∃ x, x = zs[k] := ⟨_, rfl⟩
      rw [← hxx] at hx HT
      clear hxx hc
      obtain ⟨fn, tmps, assign, body, hy, hR⟩ := HY.out _ x wr hJ (by rw [List.length_take]; omega)
      gi_wp2
      refine hR.mono ?_
      rintro e W3 (⟨rfl, hJ3, hk3⟩ | ⟨rfl, hJx3⟩)
      · have HB3 := hide (HB.out.trans hk3)
        have HJ3 := hide (show J (zs.take (k + 1)) W3 by rw [HT.out]; exact hJ3)
        clear hJ3 hk3
        gi_wp2
        go_roundw
        case rel => exact ⟨k + 1, by omega, by go_num, HJ3.out, HB3.out⟩
        case measure => simp [intOf]; omega
      · have HJ3 := hide (show Jx (zs.take (k + 1)) W3 by rw [HT.out]; exact hJx3)
        clear hJx3
        gi_wp2
        refine bodyPost_ret (results_none rfl _ _ _) rfl ?_
        exact ⟨⟨_, rfl⟩, .inr ⟨_, List.take_prefix _ _, HJ3.out⟩⟩
    · have HE : Hid (zs.take k = zs) := hide (List.take_of_length_le (by have := HL.out; omega))
      rw [HE.out] at hJ
      gi_wp2
      go_end0
      exact ⟨⟨_, rfl⟩, .inl ⟨_, rfl, hJ⟩⟩

set_option maxRecDepth 100000 in
set_option maxHeartbeats 2000000 in
theorem appendSeq_in (F : Fence) (n : Nat) (hA : F.fn 101) (hV : F.fn 90) (hro : F.round = none) (hn : 3 ≤ n) (Bs : Nat) (v : Value) (zs : List Int) (w : World) (hin : InRow w v zs) (hlen : zs.length ≤ 2000000) (hB : Bs < w.heap.size) (hc : w.cell? ⟨Bs, 0, none⟩ = some v) :
    CallsIn F n Try.prog 101 #[.slice none 0 0, .func (.func 90) #[] #[.pointer (some ⟨Bs, 0, none⟩)]] w (IntsRes zs w) := by
  have h1 : 1 ≤ n := by omega
  have HI := hide hin
  obtain ⟨i0, hi, hz0, hz1, hz2⟩ := info_parts Try.infoInt
  clear hin
  refine callsIn_of_wp_marks Try.func101 rfl hA ?_ hro
  simp only [Try.ntmps101, List.size_toArray, List.length_cons, List.length_nil, Nat.reduceAdd, Nat.reduceSub, Array.replicate_succ, Array.replicate_zero, List.push_toArray, List.append_toArray, List.nil_append, List.cons_append]
  gi_wp2
  have bO := Boxed.new w 22 (.slice none 0 0)
  have hB0 : Below w.heap.size w (w.alloc (.cells #[.slice none 0 0] 22)) := (Below.refl _ w).alloc (Nat.le_refl _) _
  have hI0 := inRow_below HI.out hB0
  have hc0 := below_cell hB0 hB hc
  refine wpIn_rangeFunc_ownG hro h1 (gf := 90) (lb := #[.pointer (some ⟨Bs, 0, none⟩)]) rfl hV (enters_of Try.func90 (by kernel_rfl) rfl)
    (encs := fun x : Int => #[Value.int .i64 x]) (Kp := Below w.heap.size) (S := fun ys => ys = zs) (Sp := fun pre => pre <+: zs) (N := zs.length) (w0 := w.alloc (.cells #[.slice none 0 0] 22))
    (fun l J Jx W hW _ _ hY h0 => valuesEach_in F (n - 1) hV hro (by omega) l Bs v zs w W HI.out (hB0.trans (hW.mono hB0.size)) J Jx hY (below_cell hW (Nat.lt_of_lt_of_le hB hB0.size) hc0) h0) belowK_t (belowK_b (by simp)) (Below.refl _ _) (fun _ => rfl)
    (fun pre W => (∃ u, Boxed W w.heap.size 22 u ∧ W.ownsRow w.heap.size 3 1 u pre.length (ints pre) ∧ True) ∧ Below w.heap.size w W)
    (fun _ _ _ => False)
    (OwnFrom.and (Own.from (holdsRow_own w.heap.size w.heap.size 22 3 1 (fun pre : List Int => pre.length) (fun pre => ints pre) (fun _ _ => True)) _) (ownFrom_below (Nat.le_refl _) (by simp)))
    (fun _ _ _ _ _ hs _ _ => hs)
    ⟨⟨_, bO, World.ownsRow_nil _ _ _ _, trivial⟩, hB0⟩
    (fun x => { tmps := #[.slice none 0 0, .func (.func 90) #[] #[.pointer (some ⟨Bs, 0, none⟩)], .pointer (some ⟨w.heap.size, 0, none⟩), undef, .slice none 0 0, .int .i64 x, .func (.func 90) #[] #[.pointer (some ⟨Bs, 0, none⟩)], .int .i64 x, undef, undef, undef, undef, undef], defers := [] }) ?assign ?body ?done ?stop
  case assign =>
    intro l x W K hK
    gi_wp2
    exact hK
  case body =>
    rintro l pre x W ⟨⟨u, hv, hrow, -⟩, hBW⟩ hlt
    have hcu := hv.cell
    gi_wp2_with (gi_at_builtin; refine wpListIn_append_own _ rfl _ _ 22 rfl w.heap.size 3 i0 (.int .i64 0) 1 8 Try.underlying22 hi hz0 hz1 hz2 rfl (by decide) _ _ _ rfl (hrow.alloc _) ⟨W.heap.size, 0, none⟩ 1 1 [.int .i64 x] rfl rfl (cell_one_new _ _ _) (by simp [Value.oneCell']) (by unfold maxLen; omega) (by omega) (by have := hBW.size; simp; omega) ?_; intro v' w1 hown' hgrow _; obtain ⟨g', cap', rfl⟩ := ownsRow_succ hown'; obtain ⟨hv1, hv2, hr2, hk2, hb2⟩ := hv.appended (by decide) hrow hBW.size (Nat.le_refl _) hown' hgrow; have hc1 := hv1.cell; have hf1 := hv1.frozen)
    exact ⟨hk2.from _, hb2, ⟨_, hv2, by simpa [ints] using hr2, trivial⟩, hBW.trans hb2⟩
  case done =>
    rintro D ys W hD rfl ⟨⟨u, hv, hrow, -⟩, hBW⟩ hK
    have hcu := hv.cell
    gi_wp2
    refine ⟨by simp, .inl ⟨_, _, rfl, run_takeDeferred hK, ?_⟩⟩
    exact ⟨_, results_tmp rfl _ _ _, _, rfl, ownsRow_putObj hrow _ hK rfl, hBW.trans (belowK_b (w := w) (Nat.le_refl _) W D _ _ (by simp at hD; omega) hK rfl rfl)⟩
  case stop =>
    rintro D c pre W _ _ h _
    exact h.elim

set_option maxHeartbeats 1000000 in
theorem collect_in (F : Fence) (n : Nat) (hC : F.fn 88) (hA : F.fn 101) (hV : F.fn 90) (hro : F.round = none) (hn : 4 ≤ n) (Bs : Nat) (v : Value) (zs : List Int) (w : World) (hin : InRow w v zs) (hlen : zs.length ≤ 2000000) (hB : Bs < w.heap.size) (hc : w.cell? ⟨Bs, 0, none⟩ = some v) :
    CallsIn F n Try.prog 88 #[.func (.func 90) #[] #[.pointer (some ⟨Bs, 0, none⟩)]] w (IntsRes zs w) := by
  have HX := hide (appendSeq_in F (n - 1) hA hV hro (by omega) Bs v zs w hin hlen hB hc)
  have h1 : 1 ≤ n := by omega
  clear hin hc
  refine callsIn_of_wp Try.func88 rfl hC ?_ hro
  simp only [Try.ntmps88, List.size_toArray, List.length_cons, List.length_nil, Nat.reduceAdd, Nat.reduceSub, Array.replicate_succ, Array.replicate_zero, List.push_toArray, List.append_toArray, List.nil_append, List.cons_append]
  gi_wp2_with (gi_at_call 101; refine HX.out.mono ?_; rintro e w' ⟨u, rfl, ho, hb⟩)
  go_ret
  exact ⟨_, rfl, ho, hb⟩
theorem collectVals_any (Bs : Nat) (v : Value) (zs : List Int) (w : World) (hin : InRow w v zs) (hlen : zs.length ≤ 2000000) (hB : Bs < w.heap.size) (hc : w.cell? ⟨Bs, 0, none⟩ = some v) :
    Calls Try.prog 88 #[.func (.func 90) #[] #[.pointer (some ⟨Bs, 0, none⟩)]] w (IntsRes zs w) :=
  (callsIn_wide (n := 4)).1 (collect_in Fence.wide 4 trivial trivial trivial rfl (by omega) Bs v zs w hin hlen hB hc)
end Go.Proofs.Ytecfigjkcpbggaa
/-
  Contracts of the library, at this translation: laid by the shelf, in plain declarations.
-/
namespace Go.Proofs
open Go.Shelf
def Try.sortI_ren : Go.Shelf.Ren := ⟨fun | 6 => 89 | 15 => 103 | 14 => 102 | 28 => 113 | 29 => 114 | 20 => 97 | 21 => 106 | 22 => 107 | 23 => 108 | 24 => 109 | 25 => 110 | 26 => 111 | 27 => 112 | 46 => 116 | 47 => 117 | 48 => 118 | 49 => 119 | 50 => 120 | 57 => 121 | n => n, fun | 22 => 22 | 24 => 3 | 25 => 55 | 3 => 3 | 39 => 77 | 0 => 0 | 53 => 88 | 55 => 90 | 4 => 4 | 46 => 94 | 45 => 93 | 50 => 98 | 5 => 5 | 9 => 9 | 66 => 100 | 70 => 104 | 76 => 106 | 77 => 107 | n => n, fun | n => n⟩
theorem Try.sortI : Go.Proofs.SlLaysF.n6 Try.prog Try.sortI_ren := {
  mixed := by kernel_rfl
  f6 := ⟨Try.f89.name, by decide, Try.func89.trans (congrArg some (by kernel_rfl))⟩
  f14 := ⟨Try.f102.name, by decide, Try.func102.trans (congrArg some (by kernel_rfl))⟩
  f15 := Try.func103.trans (congrArg some (by kernel_rfl))
  f20 := ⟨Try.f97.name, by decide, Try.func97.trans (congrArg some (by kernel_rfl))⟩
  f21 := ⟨Try.f106.name, by decide, Try.func106.trans (congrArg some (by kernel_rfl))⟩
  f22 := ⟨Try.f107.name, by decide, Try.func107.trans (congrArg some (by kernel_rfl))⟩
  f23 := ⟨Try.f108.name, by decide, Try.func108.trans (congrArg some (by kernel_rfl))⟩
  f24 := ⟨Try.f109.name, by decide, Try.func109.trans (congrArg some (by kernel_rfl))⟩
  f25 := ⟨Try.f110.name, by decide, Try.func110.trans (congrArg some (by kernel_rfl))⟩
  f26 := ⟨Try.f111.name, by decide, Try.func111.trans (congrArg some (by kernel_rfl))⟩
  f27 := ⟨Try.f112.name, by decide, Try.func112.trans (congrArg some (by kernel_rfl))⟩
  f28 := Try.func113.trans (congrArg some (by kernel_rfl))
  f29 := Try.func114.trans (congrArg some (by kernel_rfl))
  f46 := ⟨Try.f116.name, by decide, Try.func116.trans (congrArg some (by kernel_rfl))⟩
  f47 := Try.func117.trans (congrArg some (by kernel_rfl))
  f48 := Try.func118.trans (congrArg some (by kernel_rfl))
  f49 := ⟨Try.f119.name, by decide, Try.func119.trans (congrArg some (by kernel_rfl))⟩
  f50 := ⟨Try.f120.name, by decide, Try.func120.trans (congrArg some (by kernel_rfl))⟩
  f57 := ⟨Try.f121.name, by decide, Try.func121.trans (congrArg some (by kernel_rfl))⟩
  t0 := Try.underlying0
  a0 := Try.isAgg0
  z0 := Try.sizeOf0
  v0 := Try.zeroValue0
  t3 := Try.underlying3
  a3 := Try.isAgg3
  z3 := Try.sizeOf3
  v3 := Try.zeroValue3
  t4 := Try.underlying4
  a4 := Try.isAgg4
  z4 := Try.sizeOf4
  v4 := Try.zeroValue4
  t5 := Try.underlying5
  a5 := Try.isAgg5
  z5 := Try.sizeOf5
  v5 := Try.zeroValue5
  t9 := Try.underlying9
  a9 := Try.isAgg9
  z9 := Try.sizeOf9
  v9 := Try.zeroValue9
  t22 := Try.underlying22
  a22 := Try.isAgg22
  z22 := Try.sizeOf22
  v22 := Try.zeroValue22
  a24 := Try.isAgg3
  z24 := Try.sizeOf3
  t25 := Try.underlying55
  a25 := Try.isAgg55
  z25 := Try.sizeOf55
  v25 := Try.zeroValue55
  t39 := Try.underlying77
  a39 := Try.isAgg77
  z39 := Try.sizeOf77
  v39 := Try.zeroValue77
  t45 := Try.underlying93
  a45 := Try.isAgg93
  z45 := Try.sizeOf93
  v45 := Try.zeroValue93
  t46 := Try.underlying94
  a46 := Try.isAgg94
  z46 := Try.sizeOf94
  v46 := Try.zeroValue94
  t50 := Try.underlying98
  a50 := Try.isAgg98
  z50 := Try.sizeOf98
  v50 := Try.zeroValue98
  t53 := Try.underlying88
  a53 := Try.isAgg88
  z53 := Try.sizeOf88
  v53 := Try.zeroValue88
  t55 := Try.underlying90
  a55 := Try.isAgg90
  z55 := Try.sizeOf90
  v55 := Try.zeroValue90
  t66 := Try.underlying100
  a66 := Try.isAgg100
  z66 := Try.sizeOf100
  v66 := Try.zeroValue100
  t70 := Try.underlying104
  a70 := Try.isAgg104
  z70 := Try.sizeOf104
  v70 := Try.zeroValue104
  t76 := Try.underlying106
  a76 := Try.isAgg106
  z76 := Try.sizeOf106
  v76 := Try.zeroValue106
  t77 := Try.underlying107
  a77 := Try.isAgg107
  z77 := Try.sizeOf107
  v77 := Try.zeroValue107 }
end Go.Proofs
/-
  SortedDown of the program: slices.SortedFunc over slices.Values.
-/
namespace Go.Proofs.Ytecfigjkcpbggaa
open Go.RowKit

/-- cmp.Compare on integers. -/
def cmpI (x y : Int) : Int := if x < y then -1 else if y < x then 1 else 0
theorem cmpI_neg (x y : Int) : (cmpI x y < 0) = (x < y) := by
  unfold cmpI
  by_cases h1 : x < y
  · rw [if_pos h1]; simp [h1]
  · rw [if_neg h1]
    by_cases h2 : y < x
    · rw [if_pos h2]; simp; omega
    · rw [if_neg h2]; simp; omega
theorem isNaN_any (x : Int) (w : World) : Calls Try.prog 85 #[.int .i64 x] w fun e w' => e = .returned (.bool false) ∧ w = w' := by
  go_enter Try.func85, Try.ntmps85
  go_wp2
  go_ret
  exact ⟨ret_bool (by simp), rfl⟩
set_option maxHeartbeats 400000 in
theorem compare_any (x y : Int) (w : World) : Calls Try.prog 58 #[.int .i64 x, .int .i64 y] w fun e w' => e = .returned (.int .i64 (cmpI x y)) ∧ w = w' := by
  have H1 := hide fun h : x < y => (show cmpI x y = -1 by rw [cmpI, if_pos h])
  have H2 := hide fun (h : ¬ x < y) (h2 : y < x) => (show cmpI x y = 1 by rw [cmpI, if_neg h, if_pos h2])
  have H3 := hide fun (h : ¬ x < y) (h2 : ¬ y < x) => (show cmpI x y = 0 by rw [cmpI, if_neg h, if_neg h2])
  by_cases h1 : x < y
  · rw [H1.out h1]
    go_enter Try.func58, Try.ntmps58
    go_wp2_with (first | (with_reducible refine (isNaN_any x _).mono ?_; rintro e w' ⟨rfl, rfl⟩) | (with_reducible refine (isNaN_any y _).mono ?_; rintro e w' ⟨rfl, rfl⟩))
    go_ret
    exact ⟨rfl, rfl⟩
  · by_cases h2 : y < x
    · rw [H2.out h1 h2]
      go_enter Try.func58, Try.ntmps58
      go_wp2_with (first | (with_reducible refine (isNaN_any x _).mono ?_; rintro e w' ⟨rfl, rfl⟩) | (with_reducible refine (isNaN_any y _).mono ?_; rintro e w' ⟨rfl, rfl⟩))
      go_ret
      exact ⟨rfl, rfl⟩
    · rw [H3.out h1 h2]
      go_enter Try.func58, Try.ntmps58
      go_wp2_with (first | (with_reducible refine (isNaN_any x _).mono ?_; rintro e w' ⟨rfl, rfl⟩) | (with_reducible refine (isNaN_any y _).mono ?_; rintro e w' ⟨rfl, rfl⟩))
      go_ret
      exact ⟨rfl, rfl⟩
theorem downCmp_any (x y : Int) (w : World) : Calls Try.prog 74 #[.int .i64 x, .int .i64 y] w fun e w' => e = .returned (.int .i64 (cmpI y x)) ∧ w = w' := by
  go_enter Try.func74, Try.ntmps74
  go_wp2_with ((with_reducible refine (compare_any y x _).mono ?_); rintro e w' ⟨rfl, rfl⟩)
  go_ret
  exact ⟨rfl, rfl⟩

def downC (x y : Int) : Int := cmpI y x
theorem downC_lt (x y : Int) : ltOf downC x y = decide (y < x) := by
  unfold ltOf downC; simp only [cmpI_neg]
theorem downC_swo : Go.Sort.SWO (ltOf downC) where
  irrefl x := by rw [downC_lt]; simp
  trans x y z h1 h2 := by rw [downC_lt] at *; simp at *; omega
  ntrans x y z h1 h2 := by rw [downC_lt] at *; simp at *; omega

/-- What the sort leaves of a slice that the call owns. -/
theorem own_sorted {w : World} {base E n g cap : Nat} {r : List Int} (s : List Int) (m : Nat) (os : Array Obj) (h : w.ownsRow base E 1 (.slice (some ⟨g, 0, none⟩) n cap) n (ints r)) (hs : s.length = n) :
    (sortWorld (Value.int .i64) w g 0 m s.toArray os).ownsRow base E 1 (.slice (some ⟨g, 0, none⟩) n cap) n (ints s) ∧ w.grownBy (sortWorld (Value.int .i64) w g 0 m s.toArray os) (some g) := by
  rcases h.2 with ⟨he, _⟩ | ⟨g', cap', cur, he, hbg, hg, hc, hm, hz, ht⟩
  · cases he
  cases he
  have hgl := (Array.getElem?_eq_some_iff.1 hg).1
  have hheap : (sortWorld (Value.int .i64) w g 0 m s.toArray os).heap = w.heap.modify g (Go.Sort.onCells (Go.Sort.putCells (Value.int .i64) 0 s.toArray)) ++ os := rfl
  have hsz : (w.heap.modify g (Go.Sort.onCells (Go.Sort.putCells (Value.int .i64) 0 s.toArray))).size = w.heap.size := Array.size_modify
  have hat : (sortWorld (Value.int .i64) w g 0 m s.toArray os).heap[g]? = some (.cells (Go.Sort.putCells (Value.int .i64) 0 s.toArray cur) E (0, 0)) := by
    rw [hheap, Array.getElem?_append_left (by rw [hsz]; exact hgl), Array.getElem?_modify, if_pos rfl, hg]; rfl
  refine ⟨⟨by rw [ints_len]; omega, .inr ⟨g, cap, _, rfl, hbg, hat, hc, hm, by rw [Go.Sort.putCells, Array.size_mapIdx]; exact hz, ?_⟩⟩, ⟨rfl, rfl, rfl, by rw [hheap, Array.size_append, hsz]; omega, fun k hk hne => ?_⟩⟩
  · apply List.ext_getElem
    · rw [List.length_take, Array.length_toList, Go.Sort.putCells, Array.size_mapIdx, ints_len]; omega
    · intro i h1 h2
      rw [ints_len] at h2
      have h3 := ints_at s i h2
      rw [List.getElem?_eq_getElem (by rw [ints_len]; exact h2)] at h3
      rw [Option.some.inj h3, List.getElem_take, Array.getElem_toList]
      simp only [Go.Sort.putCells, Array.getElem_mapIdx]
      rw [if_pos ⟨Nat.zero_le _, by simp; omega⟩]
      simp [h2]
  · rw [hheap, Array.getElem?_append_left (by rw [hsz]; exact hk), Array.getElem?_modify, if_neg (fun e => hne (by rw [e]))]

set_option maxHeartbeats 1000000 in
theorem sortFunc_any (base : Nat) (v : Value) (r : List Int) (w : World) (h : w.ownsRow base 3 1 v r.length (ints r)) (hr : r.length ≤ 2000000) (hb : base ≤ w.heap.size) :
    Calls Try.prog 89 #[v, .func (.func 74) #[] #[]] w fun e w' => e = .returned (.tuple #[]) ∧ w'.ownsRow base 3 1 v r.length (ints (sortD r)) ∧ Below base w w' := by
  by_cases h0 : r.length = 0
  · obtain rfl : r = [] := List.eq_nil_of_length_eq_zero h0
    obtain ⟨a, c, rfl⟩ := own_none h
    have hcon := AnyF.slices_SortFunc_none (P := Try.prog) (ρ := Try.sortI_ren) { Try.sortI with } a c (.func (.func 74) #[] #[]) w
    change Calls Try.prog 89 _ _ _ at hcon
    refine hcon.mono ?_
    rintro e w' ⟨rfl, rfl⟩
    exact ⟨rfl, by simpa [sortD] using h, Below.refl _ _⟩
  · obtain ⟨g, cap, rfl, hbg, hg, hc, hm, hcell, hfr⟩ := own_some h (by omega)
    have eg : ∀ args w, (callFunc 74 args).run Try.prog w = .ok (.enter 74 args) w := enters_of Try.func74 (by kernel_rfl) rfl
    have hcmp : CmpLays1 Try.prog 74 #[] (Value.int .i64) downC g 0 r.toArray.size w := fun m os dk _ x y =>
      (downCmp_any x y _).mono fun e w' ⟨he, hw⟩ => ⟨he, 0, #[], by rw [← hw, Go.Sort.grow_empty]; rfl⟩
    have hH : Go.Sort.Holds (Value.int .i64) w g 0 r.toArray := fun j hj => by
      have hj' : j < r.length := by simpa using hj
      rw [Nat.zero_add]
      exact ⟨by rw [hcell j hj', ints_at r j hj']; simp [hj'], hfr j⟩
    have hcon := Any.slices_SortFunc_total Try.sortI (Value.int .i64) (fun _ => rfl) downC downC_swo 74 #[] g 0 cap r.toArray w eg hcmp hH hg (by simp; omega)
      (fun x y h1 h2 => by rw [downC_lt] at h1 h2; simp at h1 h2; omega)
    change Calls Try.prog 89 _ _ _ at hcon
    rw [List.size_toArray] at hcon
    refine hcon.mono ?_
    rintro e w' ⟨rfl, m, os, rfl⟩
    have hs : (r.mergeSort fun x y => !ltOf downC y x) = sortD r := by
      rw [sortD]; congr 1; funext x y; rw [downC_lt]; by_cases hxy : x < y
      · rw [decide_eq_true hxy, decide_eq_false (by omega)]; rfl
      · rw [decide_eq_false hxy, decide_eq_true (by omega)]; rfl
    dsimp only
    rw [hs]
    obtain ⟨k1, k2⟩ := own_sorted (sortD r) m os h (sortD_len r)
    exact ⟨rfl, k1, (Below.refl _ _).grown k2 hb (fun k hk => by cases hk; exact hbg)⟩

theorem values_any (a : Option Addr) (n c : Nat) (w : World) :
    Calls Try.prog 73 #[.slice a n c] w fun e w' => e = .returned (.func (.func 90) #[] #[.pointer (some ⟨w.heap.size, 0, none⟩)]) ∧ w' = w.alloc (.cells #[.slice a n c] 22) := by
  go_enter Try.func73, Try.ntmps73
  go_wp2
  go_ret
  exact ⟨rfl, rfl⟩
set_option maxHeartbeats 400000 in
theorem sortedFunc_any (Bs : Nat) (v : Value) (r : List Int) (w : World) (hin : InRow w v r) (hr : r.length ≤ 2000000) (hB : Bs < w.heap.size) (hc : w.cell? ⟨Bs, 0, none⟩ = some v) :
    Calls Try.prog 72 #[.func (.func 90) #[] #[.pointer (some ⟨Bs, 0, none⟩)], .func (.func 74) #[] #[]] w (IntsRes (sortD r) w) := by
  have HX := hide (collectVals_any Bs v r w hin hr hB hc)
  clear hin hc
  go_enter Try.func72, Try.ntmps72
  go_wp2_with fail
  refine HX.out.mono ?_
  rintro e w1 ⟨u, rfl, ho, hb⟩
  have HS := hide (sortFunc_any w.heap.size u r w1 ho hr hb.size)
  have HB := hide hb
  clear ho hb
  go_wp2_with fail
  refine HS.out.mono ?_
  rintro e w2 ⟨rfl, ho, hb⟩
  have HO := hide ho; have HB2 := hide (HB.out.trans hb)
  clear ho hb
  go_wp2
  go_ret
  exact ⟨_, rfl, by rw [sortD_len]; exact HO.out, HB2.out⟩
set_option maxHeartbeats 400000 in
theorem implSortedDown_any (v : Value) (l : List Int) (w : World) (hin : InRow w v l) (hl : l.length ≤ 1048576) :
    Calls Try.prog 43 #[v] w (IntsRes (sortD l) w) := by
  have hb := (Below.refl w.heap.size w).alloc (Nat.le_refl _) (.cells #[v] 22)
  have HX := hide (sortedFunc_any w.heap.size v l _ (inRow_below hin hb) (by omega) (by simp) (show (w.alloc (.cells #[v] 22)).cell? ⟨w.heap.size, 0, none⟩ = some v by simp [World.cell?_alloc_new]))
  have HB := hide hb
  obtain ⟨a, c, rfl, -, -⟩ := hin
  clear hb
  go_enter Try.func43, Try.ntmps43
  go_wp2_with fail
  refine (values_any a _ c _).mono ?_
  rintro e w1 ⟨rfl, rfl⟩
  go_wp2_with fail
  refine HX.out.mono ?_
  rintro e w2 ⟨u, rfl, ho, hb⟩
  have HO := hide (own_base ho HB.out.size); have HB2 := hide (HB.out.trans (hb.mono HB.out.size))
  clear ho hb
  go_wp2
  go_ret
  exact ⟨_, rfl, HO.out, HB2.out⟩
end Go.Proofs.Ytecfigjkcpbggaa
/-
  The bounds of chapter 5: slack, isBroken, and the comparison by slack.
-/
namespace Go.Proofs.Ytecfigjkcpbggaa
open Go.RowKit

/-- After some draws, with some blocks laid behind. -/
def GrownW (w w' : World) : Prop := ∃ q os, w' = Go.Sort.grow (w.drewN q) os
theorem grownW_refl (w : World) : GrownW w w := ⟨0, #[], by rw [Go.Sort.grow_empty]; rfl⟩
theorem grownW_grow (w : World) (q : Nat) (os : Array Obj) : GrownW w (Go.Sort.grow (w.drewN q) os) := ⟨q, os, rfl⟩
theorem grownW_trans {a b c : World} (h : GrownW a b) (k : GrownW b c) : GrownW a c := by
  obtain ⟨q, os, rfl⟩ := h
  obtain ⟨p, os', rfl⟩ := k
  exact ⟨q + p, os ++ os', by show Go.Sort.grow (Go.Sort.grow ((a.drewN q).drewN p) os) os' = _; rw [Go.Sort.grow_grow, World.drewN_drewN]⟩
theorem grownW_alloc (w : World) (o : Obj) : GrownW w (w.alloc o) := ⟨0, #[o], by rw [Go.Sort.alloc_eq_grow]; rfl⟩
theorem grownW_below {w w' : World} (h : GrownW w w') : Below w.heap.size w w' := by
  obtain ⟨q, os, rfl⟩ := h
  refine ⟨rfl, rfl, rfl, ?_, fun k hk => ?_⟩
  · show w.heap.size ≤ (w.heap ++ os).size
    rw [Array.size_append]; omega
  · show (w.heap ++ os)[k]? = _
    rw [Array.getElem?_append_left hk]
theorem quiet_of {P : Program} {f : FuncId} {args : Array Value} {w : World} {n : Nat} {os : Array Obj} {v : Value} (h : Calls P f args (Go.Sort.grow (w.drewN n) os) fun e w' => e = .returned v ∧ GrownW (Go.Sort.grow (w.drewN n) os) w') :
    Calls P f args (Go.Sort.grow (w.drewN n) os) fun e w'' => e = .returned v ∧ ∃ p : GrownBy, w'' = Go.Sort.grow (w.drewN p.n) p.os := Calls.grown_of h
/-- A bound in a variable. -/
def BoundAt (w : World) (g : Nat) (s m : Int) : Prop := w.heap[g]? = some (.cells #[.int .i64 s, .int .i64 m] 72 (0, 0))
theorem boundAt_below {w w' : World} {g : Nat} {s m : Int} (h : BoundAt w g s m) (hb : Below w.heap.size w w') : BoundAt w' g s m := by
  unfold BoundAt; rw [hb.block g (Array.getElem?_eq_some_iff.1 h).1]; exact h
theorem boundAt_cells {w : World} {g : Nat} {s m : Int} (h : BoundAt w g s m) : w.cell? ⟨g, 0, none⟩ = some (.int .i64 s) ∧ w.cell? ⟨g, 1, none⟩ = some (.int .i64 m) :=
  ⟨by rw [cell_of_row w g 0 _ _ _ h]; rfl, by rw [cell_of_row w g 1 _ _ _ h]; rfl⟩
theorem boundAt_frozen {w : World} {g : Nat} {s m : Int} (h : BoundAt w g s m) : w.frozen? ⟨g, 0, none⟩ = false ∧ w.frozen? ⟨g, 1, none⟩ = false := by
  unfold BoundAt at h
  simp [World.frozen?, h]
theorem Try.sizeBound : (Try.prog.info? 72).map (·.size) = some 2 := by kernel_rfl
theorem wpList_loadBound {ops : Array Oper} {rest : List Oper} {o : Oper} {a : Act} {Q : Exit → Act → World → Prop} {W : World} {g : Nat} {s m : Int} (hb : BoundAt W g s m)
    (hgd : o.guard = none) (x : Operand) (ho : o.op = .load 72 x) (hx : a.eval x = .pointer (some ⟨g, 0, none⟩))
    (h : wpList Try.prog ops Q rest (a.put o.dst (.agg #[.int .i64 s, .int .i64 m])) W) : wpList Try.prog ops Q (o :: rest) a W :=
  wpList_load_row hgd _ x ho g hx _ _ (0, 0) _ hb Try.underlying72 rfl Try.sizeBound h

set_option maxHeartbeats 400000 in
theorem slack_any (s m : Int) (w : World) (hs : 0 ≤ s ∧ s ≤ 25) (hm : 0 ≤ m ∧ m ≤ 25) :
    Calls Try.prog 96 #[.agg #[.int .i64 s, .int .i64 m]] w fun e w' => e = .returned (.int .i64 (m - s)) ∧ GrownW w w' := by
  obtain ⟨s1, s2⟩ := hs
  obtain ⟨m1, m2⟩ := hm
  go_enter Try.func96, Try.ntmps96
  go_wp2
  go_ret
  exact ⟨rfl, grownW_alloc _ _⟩
set_option maxHeartbeats 400000 in
theorem isBroken_any (s m : Int) (w : World) (hs : 0 ≤ s ∧ s ≤ 25) (hm : 0 ≤ m ∧ m ≤ 25) :
    Calls Try.prog 83 #[.agg #[.int .i64 s, .int .i64 m]] w fun e w' => e = .returned (.bool (decide (m - s < 0))) ∧ Below w.heap.size w w' := by
  have HG := hide (show BoundAt (w.alloc (.cells #[.int .i64 s, .int .i64 m] 72)) w.heap.size s m from heap_alloc_new w _)
  have HSL := hide fun w => slack_any s m w hs hm
  go_enter Try.func83, Try.ntmps83
  go_wp2_with (first | (with_reducible refine wpList_loadBound HG.out rfl _ rfl rfl ?_) | ((with_reducible refine (HSL.out _).mono ?_); rintro e w1 ⟨rfl, hg⟩; have HB := hide (grownW_below (grownW_trans (grownW_alloc _ _) hg)); clear hg))
  go_ret
  exact ⟨rfl, HB.out⟩
theorem load_bound {w : World} {g : Nat} {s m : Int} (h : BoundAt w g s m) (n : Nat) (os : Array Obj) : BoundAt (Go.Sort.grow (w.drewN n) os) g s m := boundAt_below h (grownW_below ⟨n, os, rfl⟩)
end Go.Proofs.Ytecfigjkcpbggaa
/-
  boundsOf: the sums of the greatest columns, and the most that they can have.
-/
namespace Go.Proofs.Ytecfigjkcpbggaa
open Go.RowKit

/-- The slice v reads as r, and lies in a block with room for it. -/
def RowAt (w : World) (v : Value) (r : List Int) : Prop :=
  ∃ g c, v = .slice (some ⟨g, 0, none⟩) r.length c ∧ r.length ≤ c ∧ c ≤ maxLen ∧ g < w.heap.size ∧ ∀ i, (h : i < r.length) → w.cell? ⟨g, i, none⟩ = some (.int .i64 r[i])
theorem rowAt_below {w w' : World} {v : Value} {r : List Int} (h : RowAt w v r) (hb : Below w.heap.size w w') : RowAt w' v r := by
  obtain ⟨g, c, hv, h1, h2, hg, hc⟩ := h
  exact ⟨g, c, hv, h1, h2, Nat.lt_of_lt_of_le hg hb.size, fun i hi => below_cell hb hg (hc i hi)⟩
theorem rowAt_own {w : World} {base : Nat} {v : Value} {r : List Int} (h : w.ownsRow base 3 1 v r.length (ints r)) (hn : 0 < r.length) : RowAt w v r := by
  obtain ⟨g, c, rfl, -, hg, h1, h2, hc, -⟩ := own_some h hn
  exact ⟨g, c, rfl, h1, h2, hg, fun i hi => by rw [hc i hi, ints_at r i hi]⟩
theorem rowAt_take {w : World} {g n c k : Nat} {r : List Int} (h : RowAt w (.slice (some ⟨g, 0, none⟩) n c) r) (hk : k ≤ r.length) : InRow w (.slice (some ⟨g, 0, none⟩) k c) (r.take k) := by
  obtain ⟨g', c', he, h1, h2, hg, hc⟩ := h
  cases he
  have hl : (r.take k).length = k := by rw [List.length_take]; omega
  refine ⟨_, c, by rw [hl], by omega, .inr ⟨g, 0, rfl, hg, fun i hi => ?_⟩⟩
  rw [Nat.zero_add, List.getElem_take]; exact hc i (by omega)
theorem small_take {r : List Int} (h : SmallL r) (k : Nat) : SmallL (r.take k) :=
  ⟨by have := h.1; rw [List.length_take]; omega, fun i hi => by rw [List.getElem_take]; exact h.2 i (by rw [List.length_take] at hi; omega)⟩
theorem small_sum {r : List Int} (h : SmallL r) (k : Nat) : 0 ≤ (r.take k).sum ∧ (r.take k).sum ≤ 25 := by
  have h1 := sum_small (small_take h k) _ (Nat.le_refl _)
  rw [List.take_length] at h1
  have h2 := (small_take h k).1
  omega

/-- Bounds lie one behind the other. -/
def InBounds (w : World) (v : Value) (bs : List (Int × Int)) : Prop :=
  ∃ g c, v = .slice (some ⟨g, 0, none⟩) bs.length c ∧ bs.length ≤ c ∧ g < w.heap.size ∧ ∀ i, (h : i < bs.length) → w.cell? ⟨g, i * 2, none⟩ = some (.int .i64 bs[i].1) ∧ w.cell? ⟨g, i * 2 + 1, none⟩ = some (.int .i64 bs[i].2)
theorem inBounds_below {w w' : World} {v : Value} {bs : List (Int × Int)} (h : InBounds w v bs) (hb : Below w.heap.size w w') : InBounds w' v bs := by
  obtain ⟨g, c, hv, hc1, hg, hc⟩ := h
  exact ⟨g, c, hv, hc1, Nat.lt_of_lt_of_le hg hb.size, fun i hi => ⟨below_cell hb hg (hc i hi).1, below_cell hb hg (hc i hi).2⟩⟩
theorem own_below2 {w w' : World} {base e n z : Nat} {v : Value} {xs : List Value} (h : w.ownsRow base e z v n xs) (hb : Below w.heap.size w w') : w'.ownsRow base e z v n xs := by
  refine ⟨h.1, ?_⟩
  rcases h.2 with hn | ⟨g, cap, cur, hv, hbg, hg, r⟩
  · exact .inl hn
  · exact .inr ⟨g, cap, cur, hv, hbg, by rw [hb.block g (Array.getElem?_eq_some_iff.1 hg).1]; exact hg, r⟩
theorem own2_cell {w : World} {base e n z g c j : Nat} {xs : List Value} (h : w.ownsRow base e z (.slice (some ⟨g, 0, none⟩) n c) n xs) (hj : j < n * z) : ∃ y, w.cell? ⟨g, j, none⟩ = some y := by
  have := h.1
  exact ⟨xs[j], by rw [h.cellAt j hj, List.getElem?_eq_getElem (by omega)]⟩
def tabB (n : Nat) (S C : List Int) : List (Int × Int) := (List.range n).map fun k => ((S.take (k + 1)).sum, (C.take (k + 1)).sum)
theorem tabB_len (n : Nat) (S C : List Int) : (tabB n S C).length = n := by simp [tabB]
theorem tabB_at {n : Nat} {S C : List Int} {i : Nat} (h : i < (tabB n S C).length) : (tabB n S C)[i] = ((S.take (i + 1)).sum, (C.take (i + 1)).sum) := by simp [tabB]

theorem exec_storeBound {ρ : Operand → Value} {o : Oper} {w : World} {x y : Operand} {p : Nat} {s m u v : Int} (ho : o.op = .store 72 x y) (hx : ρ x = .pointer (some ⟨p, 0, none⟩)) (hy : ρ y = .agg #[.int .i64 s, .int .i64 m])
    (h1 : w.cell? ⟨p, 0, none⟩ = some (.int .i64 u)) (h2 : w.cell? ⟨p, 1, none⟩ = some (.int .i64 v)) (f1 : w.frozen? ⟨p, 0, none⟩ = false) (f2 : w.frozen? ⟨p, 1, none⟩ = false) :
    (execOp ρ o).run Try.prog w = .ok .skip ((w.setCell ⟨p, 0, none⟩ (.int .i64 s)).setCell ⟨p, 1, none⟩ (.int .i64 m)) := by
  unfold execOp
  simp only [ho, hx, hy]
  go_simp

set_option maxRecDepth 100000 in
set_option maxHeartbeats 2000000 in
theorem boundAtK_any (S C : List Int) (v1 v2 : Value) (q1 q2 k : Nat) (w : World) (h1 : RowAt w v1 S) (h2 : RowAt w v2 C) (hq1 : q1 < w.heap.size) (hq2 : q2 < w.heap.size) (hc1 : w.cell? ⟨q1, 0, none⟩ = some v1) (hc2 : w.cell? ⟨q2, 0, none⟩ = some v2) (hs : SmallL S) (hs2 : SmallL C) (hk1 : k ≤ S.length) (hk2 : k ≤ C.length) :
    Calls Try.prog 95 #[.int .i64 k, .pointer (some ⟨q1, 0, none⟩), .pointer (some ⟨q2, 0, none⟩)] w fun e w' => e = .returned (.agg #[.int .i64 (S.take k).sum, .int .i64 (C.take k).sum]) ∧ Below w.heap.size w w' := by
  obtain ⟨W, hW⟩ : ∃ W, W = w.alloc (.cells #[.int .i64 0, .int .i64 0] 72) := ⟨_, rfl⟩
  have hb : Below w.heap.size w W := by rw [hW]; exact (Below.refl _ _).alloc (Nat.le_refl _) _
  have hr1 := rowAt_below h1 hb; have hr2 := rowAt_below h2 hb
  have hcw1 := below_cell hb hq1 hc1; have hcw2 := below_cell hb hq2 hc2
  have hba : BoundAt W w.heap.size 0 0 := by rw [hW]; exact heap_alloc_new w _
  obtain ⟨g1, c1, rfl, hl1, hm1, -, -⟩ := h1
  obtain ⟨g2, c2, rfl, hl2, hm2, -, -⟩ := h2
  unfold maxLen at hm1 hm2
  have HT1 := hide (inRow_below (rowAt_take hr1 hk1) (below_drew (Below.refl _ W))); have HT2 := hide (inRow_below (rowAt_take hr2 hk2) (below_drew (Below.refl _ W)))
  have HM1 := hide (small_take hs k); have HM2 := hide (small_take hs2 k)
  have HB := hide hb; have HW := hide hW; have HBA := hide hba
  obtain ⟨s, hs'⟩ : ∃ s, s = (S.take k).sum := ⟨_, rfl⟩
  obtain ⟨m, hm'⟩ : ∃ m, m = (C.take k).sum := ⟨_, rfl⟩
  have HSS := hide hs'; have HMM := hide hm'
  rw [← hs', ← hm']
  obtain ⟨n1, hn1⟩ : ∃ n, n = S.length := ⟨_, rfl⟩
  obtain ⟨n2, hn2⟩ : ∃ n, n = C.length := ⟨_, rfl⟩
  rw [← hn1] at hl1 hk1 hcw1
  rw [← hn2] at hl2 hk2 hcw2
  clear hW hb hr1 hr2 hc1 hc2 hba hs hs2 hs' hm' hn1 hn2
  go_enter Try.func95, Try.ntmps95
  go_wp2
  rw [← HW.out]
  obtain ⟨fs, hfs⟩ : ∃ fs : List FactP, fs = [isV (.slice (some ⟨g1, 0, none⟩) n1 c1), isV (.int .i64 k), isV (.slice (some ⟨g1, 0, none⟩) k c1), isV (.int .i64 s), isV (.slice (some ⟨g2, 0, none⟩) n2 c2), isV (.int .i64 k), isV (.slice (some ⟨g2, 0, none⟩) k c2), isV (.int .i64 m), isV (.agg #[.int .i64 s, .int .i64 m])] := ⟨_, rfl⟩
  have hst : ∀ f ∈ fs, StableP f := by
    rw [hfs]; intro f hf
    simp only [List.mem_cons, List.not_mem_nil, or_false] at hf
    rcases hf with rfl | rfl | rfl | rfl | rfl | rfl | rfl | rfl | rfl <;> exact stable_v _
  subst hfs
  refine wp_region_tail (S := fun w2 => w2 = W.drew) [isV (.slice (some ⟨g1, 0, none⟩) n1 c1), isV (.int .i64 k), isV (.slice (some ⟨g1, 0, none⟩) k c1), isV (.int .i64 s), isV (.slice (some ⟨g2, 0, none⟩) n2 c2), isV (.int .i64 k), isV (.slice (some ⟨g2, 0, none⟩) k c2), isV (.int .i64 m), isV (.agg #[.int .i64 s, .int .i64 m])] [(0, .int .i64 k), (1, .pointer (some ⟨q1, 0, none⟩)), (2, .pointer (some ⟨q2, 0, none⟩))] _ _ 9 (by kernel_rfl) rfl rfl (by kernel_rfl) (by kernel_rfl) rfl (by kernel_rfl) ?base rfl ?ob rfl ?fin
  case base =>
    intro t v ht
    simp only [List.lookup_cons, List.lookup_nil] at ht
    repeat' split at ht
    all_goals first | (cases ht; done) | (obtain rfl := Option.some.inj ht; rename_i hh; obtain rfl := eq_of_beq hh; rfl)
  case ob =>
    exact ⟨obt_one (.slice (some ⟨g1, 0, none⟩) n1 c1) rfl rfl (srt_b 1 rfl) (fun ρ w2 hS hx => by subst hS; go_simp),
      obt_move (.int .i64 k) rfl rfl rfl (srt_b 0 rfl),
      obt_two (.slice (some ⟨g1, 0, none⟩) k c1) rfl rfl (srt_j 0 rfl (by kernel_rfl) rfl) (srt_j 1 rfl (by kernel_rfl) rfl) (fun ρ w2 hS hx hy => by go_simp; omega),
      obt_call hst [.slice (some ⟨g1, 0, none⟩) k c1] rfl Try.func80 (by kernel_rfl) (by kernel_rfl) rfl ⟨(srt_j 2 rfl (by kernel_rfl) rfl), trivial⟩ (fun w2 hS => by subst hS; exact (totalOf_any _ _ _ HT1.out HM1.out).mono fun e w3 hh => ⟨_, hh.1, hh.2.symm, hh.2 ▸ Below.refl _ _, by rw [← HSS.out]; rfl⟩),
      obt_one (.slice (some ⟨g2, 0, none⟩) n2 c2) rfl rfl (srt_b 2 rfl) (fun ρ w2 hS hx => by subst hS; go_simp),
      obt_move (.int .i64 k) rfl rfl rfl (srt_b 0 rfl),
      obt_two (.slice (some ⟨g2, 0, none⟩) k c2) rfl rfl (srt_j 4 rfl (by kernel_rfl) rfl) (srt_j 5 rfl (by kernel_rfl) rfl) (fun ρ w2 hS hx hy => by go_simp; omega),
      obt_call hst [.slice (some ⟨g2, 0, none⟩) k c2] rfl Try.func80 (by kernel_rfl) (by kernel_rfl) rfl ⟨(srt_j 6 rfl (by kernel_rfl) rfl), trivial⟩ (fun w2 hS => by subst hS; exact (totalOf_any _ _ _ HT2.out HM2.out).mono fun e w3 hh => ⟨_, hh.1, hh.2.symm, hh.2 ▸ Below.refl _ _, by rw [← HMM.out]; rfl⟩),
      obt_two (.agg #[.int .i64 s, .int .i64 m]) rfl rfl (srt_j 3 rfl (by kernel_rfl) rfl) (srt_j 7 rfl (by kernel_rfl) rfl) (fun ρ w2 hS hx hy => by go_simp),
      trivial⟩
  case fin =>
    intro a' w' h1 h2 h3 hS h4 K hK
    subst hS
    have hcs := boundAt_cells HBA.out
    have hfz := boundAt_frozen HBA.out
    have v4 : a'.tmps.getD 4 undef = .pointer (some ⟨w.heap.size, 0, none⟩) := h3 4 (by kernel_rfl)
    have v13 : a'.tmps.getD 13 undef = .agg #[.int .i64 s, .int .i64 m] := h4 8 13 rfl (by decide)
    refine run_skip (exec_storeBound (s := s) (m := m) rfl v4 v13 hcs.1 hcs.2 hfz.1 hfz.2) (hK undef _ ?_)
    have ha : a' = ⟨List.toArray [.int .i64 k, .pointer (some ⟨q1, 0, none⟩), .pointer (some ⟨q2, 0, none⟩), undef, .pointer (some ⟨w.heap.size, 0, none⟩), .slice (some ⟨g1, 0, none⟩) n1 c1, .int .i64 k, .slice (some ⟨g1, 0, none⟩) k c1, .int .i64 s, .slice (some ⟨g2, 0, none⟩) n2 c2, .int .i64 k, .slice (some ⟨g2, 0, none⟩) k c2, .int .i64 m, .agg #[.int .i64 s, .int .i64 m]], []⟩ := frame_eq _ h1 h2 ⟨(h3 0 (by kernel_rfl)), (h3 1 (by kernel_rfl)), (h3 2 (by kernel_rfl)), (h3 3 (by kernel_rfl)), (h3 4 (by kernel_rfl)), (h4 0 5 rfl (by decide)), (h4 1 6 rfl (by decide)), (h4 2 7 rfl (by decide)), (h4 3 8 rfl (by decide)), (h4 4 9 rfl (by decide)), (h4 5 10 rfl (by decide)), (h4 6 11 rfl (by decide)), (h4 7 12 rfl (by decide)), (h4 8 13 rfl (by decide)), trivial⟩
    have hp : a'.put none undef = a' := rfl
    refine (congrArg (fun q => Exit.then _ _ Exit.normal q _) (hp.trans ha)).mpr ?_
    have d1 : ((W.drew.setCell ⟨w.heap.size, 0, none⟩ (.int .i64 s)).setCell ⟨w.heap.size, 1, none⟩ (.int .i64 m)).cell? ⟨w.heap.size, 0, none⟩ = some (.int .i64 s) := by
      rw [World.cell?_setCell_other _ _ _ _ (by simp)]; exact World.cell?_setCell_same' _ _ _ (by rw [show W.drew.cell? ⟨w.heap.size, 0, none⟩ = _ from hcs.1]; rfl)
    have d2 : ((W.drew.setCell ⟨w.heap.size, 0, none⟩ (.int .i64 s)).setCell ⟨w.heap.size, 1, none⟩ (.int .i64 m)).cell? ⟨w.heap.size, 1, none⟩ = some (.int .i64 m) := by
      exact World.cell?_setCell_same' _ _ _ (by rw [World.cell?_setCell_other _ _ _ _ (by simp), show W.drew.cell? ⟨w.heap.size, 1, none⟩ = _ from hcs.2]; rfl)
    have HBE := hide ((((below_drew HB.out).setCell (p := ⟨w.heap.size, 0, none⟩) (Nat.le_refl _) (.int .i64 s)).setCell (p := ⟨w.heap.size, 1, none⟩) (Nat.le_refl _) (.int .i64 m)))
    clear hst h1 h2 h3 h4 hK ha hp v4 v13 hcs hfz
    generalize (W.drew.setCell ⟨w.heap.size, 0, none⟩ (.int .i64 s)).setCell ⟨w.heap.size, 1, none⟩ (.int .i64 m) = w9 at d1 d2 HBE ⊢
    go_wp2
    exact bodyPost_ret (v := .agg #[.int .i64 s, .int .i64 m]) (by simp [results, Try.results95, go_sem, d1, d2]) rfl ⟨rfl, HBE.out⟩

theorem Try.infoBound : (Try.prog.info? 72).map (fun i => (i.zero, i.size, i.bytes)) = some (some (.agg #[.int .i64 0, .int .i64 0]), 2, 16) := by kernel_rfl
/-- The first k bounds are written. -/
def Filled (xs : List Value) (S C : List Int) (k : Nat) : Prop := ∀ i, i < k → xs[i * 2]? = some (.int .i64 (S.take (i + 1)).sum) ∧ xs[i * 2 + 1]? = some (.int .i64 (C.take (i + 1)).sum)
theorem filled_step {xs : List Value} {S C : List Int} {k n : Nat} (h : Filled xs S C k) (hl : xs.length = n * 2) (hk : k < n) {s m : Int} (hs : s = (S.take (k + 1)).sum) (hm : m = (C.take (k + 1)).sum) : Filled ((xs.set (k * 2) (.int .i64 s)).set (k * 2 + 1) (.int .i64 m)) S C (k + 1) := fun i hi => by
  by_cases e : i = k
  · subst e
    exact ⟨by rw [List.getElem?_set_ne (by omega), List.getElem?_set_self (by omega), hs], by rw [List.getElem?_set_self (by rw [List.length_set]; omega), hm]⟩
  · obtain ⟨h1, h2⟩ := h i (by omega)
    exact ⟨by rw [List.getElem?_set_ne (by omega), List.getElem?_set_ne (by omega)]; exact h1, by rw [List.getElem?_set_ne (by omega), List.getElem?_set_ne (by omega)]; exact h2⟩
def BoundsRes (bs : List (Int × Int)) (w : World) (e : Ending) (w' : World) : Prop := ∃ v, e = .returned v ∧ InBounds w' v bs ∧ Below w.heap.size w w'
set_option maxHeartbeats 2000000 in
theorem collectBound_any (S C : List Int) (v1 v2 : Value) (q1 q2 n : Nat) (w : World) (h1 : RowAt w v1 S) (h2 : RowAt w v2 C) (hq1 : q1 < w.heap.size) (hq2 : q2 < w.heap.size) (hc1 : w.cell? ⟨q1, 0, none⟩ = some v1) (hc2 : w.cell? ⟨q2, 0, none⟩ = some v2) (hs : SmallL S) (hs2 : SmallL C) (hS : S.length = n) (hC : C.length = n) (hn : n ≤ 5) :
    Calls Try.prog 94 #[.int .i64 n, .func (.func 95) #[] #[.pointer (some ⟨q1, 0, none⟩), .pointer (some ⟨q2, 0, none⟩)]] w (BoundsRes (tabB n S C) w) := by
  obtain ⟨i0, hi, hz0, hz1, hz2⟩ := info_parts Try.infoBound
  have HCALL := hide fun (w' : World) (k : Nat) (hb : Below w.heap.size w w') (hk : k ≤ n) => boundAtK_any S C v1 v2 q1 q2 k w' (rowAt_below h1 hb) (rowAt_below h2 hb) (Nat.lt_of_lt_of_le hq1 hb.size) (Nat.lt_of_lt_of_le hq2 hb.size) (below_cell hb hq1 hc1) (below_cell hb hq2 hc2) hs hs2 (by omega) (by omega)
  clear h1 h2 hq1 hq2 hc1 hc2 hs hs2 hS hC
  go_enter Try.func94, Try.ntmps94
  go_wp2_with (at_make; refine wpList_make_full _ rfl _ _ _ rfl w.heap.size 72 i0 _ 2 Try.underlying70 hi hz0 hz1 .i64 .i64 n n n rfl rfl rfl rfl (by rw [hz2]; omega) (by unfold maxLen; omega) (Nat.le_refl _) ?_; intro w1 ho hg)
  have HO : Hid (∃ xs, w1.ownsRow w.heap.size 72 2 (.slice (some ⟨w.heap.size, 0, none⟩) n n) n xs ∧ Filled xs S C 0) := hide ⟨_, ho, fun i hi => absurd hi (Nat.not_lt_zero _)⟩
  have HB := hide (grown_below hg (fun k hk => by cases hk) (Nat.le_refl w.heap.size))
  clear ho hg hz0 hz1 hz2 hi
  go_wp2
  go_loopw [10] (fun i w' => ∃ k : Nat, k ≤ n ∧ i = .int .i64 k ∧ (∃ xs, w'.ownsRow w.heap.size 72 2 (.slice (some ⟨w.heap.size, 0, none⟩) n n) n xs ∧ Filled xs S C k) ∧ Below w.heap.size w w') (fun i _ => n - (intOf i).toNat)
  case atStart => exact ⟨0, Nat.zero_le _, rfl, HO.out, HB.out⟩
  case round =>
    clear HO HB
    obtain ⟨k, hk, rfl, ⟨xs, ho, hf⟩, hb⟩ := hrel
    have HO := hide ho; have HF := hide hf; have HB := hide hb
    clear ho hf hb
    by_cases hlt : k < n
    · have HCK := hide (HCALL.out wr (k + 1) HB.out (by omega))
      obtain ⟨s, hs⟩ : ∃ s, s = (S.take (k + 1)).sum := ⟨_, rfl⟩
      obtain ⟨m, hm⟩ : ∃ m, m = (C.take (k + 1)).sum := ⟨_, rfl⟩
      rw [← hs, ← hm] at HCK
      have HFS := hide (filled_step HF.out HO.out.1 hlt hs hm)
      clear hs hm
      go_wp2_with (go_at_call 95; refine HCK.out.mono ?_; rintro e w9 ⟨rfl, hb9⟩; have HO9 := hide (own_below2 HO.out hb9); have HB9 := hide (HB.out.trans (hb9.mono HB.out.size)); clear hb9; obtain ⟨y1, hy1⟩ := own2_cell HO9.out (show k * 2 < n * 2 by omega); obtain ⟨y2, hy2⟩ := own2_cell HO9.out (show k * 2 + 1 < n * 2 by omega); have hf1 := HO9.out.frozenAt (k * 2); have hf2 := HO9.out.frozenAt (k * 2 + 1))
      go_roundw
      case rel => exact ⟨k + 1, by omega, by go_num, ⟨_, ((HO9.out.stored (k * 2) (.int .i64 s)).1.stored (k * 2 + 1) (.int .i64 m)).1, HFS.out⟩, (HB9.out.setCell (p := ⟨w.heap.size, k * 2, none⟩) (Nat.le_refl _) _).setCell (p := ⟨w.heap.size, k * 2 + 1, none⟩) (Nat.le_refl _) _⟩
      case measure => simp [intOf]; omega
    · obtain rfl : k = n := by omega
      go_wp2
      go_ret
      refine ⟨_, rfl, ⟨w.heap.size, k, by rw [tabB_len]; rfl, by rw [tabB_len]; exact Nat.le_refl _, (HO.out.lt _ rfl).2, fun i hi => ?_⟩, HB.out⟩
      rw [tabB_at hi]
      rw [tabB_len] at hi
      obtain ⟨f1, f2⟩ := HF.out i hi
      exact ⟨by rw [HO.out.cellAt _ (by omega)]; exact f1, by rw [HO.out.cellAt _ (by omega)]; exact f2⟩
end Go.Proofs.Ytecfigjkcpbggaa
/-
  boundsOf.
-/
namespace Go.Proofs.Ytecfigjkcpbggaa
open Go.RowKit

theorem sumsOk_yes {r c : List Int} (h : sumsOk r c = true) : (1 ≤ r.length ∧ r.length ≤ 5) ∧ (1 ≤ c.length ∧ c.length ≤ 5) ∧ r.any (badB c.length) = false ∧ c.any (badB r.length) = false ∧ r.sum = c.sum := by
  simp only [sumsOk, Bool.and_eq_true, Bool.not_eq_true', beq_iff_eq] at h
  obtain ⟨⟨⟨h1, h2⟩, h3⟩, h4⟩ := h
  have := sizeOk_yes h1
  exact ⟨by omega, by omega, h2, h3, h4⟩
theorem small_perm {s r : List Int} (hp : s.Perm r) (h : SmallL r) : SmallL s :=
  ⟨by rw [hp.length_eq]; exact h.1, fun i hi => by
    obtain ⟨j, hj, e⟩ := List.getElem_of_mem (hp.subset (List.getElem_mem hi))
    rw [← e]; exact h.2 j hj⟩
theorem small_conj {r : List Int} {n : Nat} (hr : r.length ≤ 5) (hn : n ≤ 5) : SmallL (conjL r n) :=
  ⟨by rw [conjL, tabL_len]; exact hn, fun i hi => by
    have h : (conjL r n)[i] = ((atLeast (i + 1) r : Nat) : Int) := tabL_at hi
    have := atLeast_le ((i : Int) + 1) r
    rw [h]; omega⟩
/-- The bounds of the sums r and c. -/
def boundsL (r c : List Int) : List (Int × Int) := tabB c.length (sortD c) (conjL r c.length)
set_option maxHeartbeats 2000000 in
theorem boundsOf_any (va vb : Value) (r c : List Int) (w : World) (ha : InRow w va r) (hb : InRow w vb c) (h : sumsOk r c = true) :
    Calls Try.prog 82 #[va, vb] w (BoundsRes (boundsL r c) w) := by
  obtain ⟨hr, hc, hrb, hcb, -⟩ := sumsOk_yes h
  have HA := hide ha; have HB := hide hb
  have HCJ := hide (conj_yes (l := r) hc hr.2 hrb)
  have HS1 := hide (small_perm (sortD_perm c) (small_of (m := r.length) hc.2 (by omega) hcb))
  have HS2 := hide (small_conj (n := c.length) hr.2 hc.2)
  have HL1 := hide (sortD_len c)
  have HL2 : Hid ((conjL r c.length).length = c.length) := hide (by rw [conjL, tabL_len])
  obtain ⟨b, cb, rfl, hmb, -⟩ := hb
  unfold maxLen at hmb
  have HC5 := hide hc
  obtain ⟨C, hC⟩ : ∃ C, C = c.length := ⟨_, rfl⟩
  have HC := hide hC
  rw [boundsL]
  rw [← hC] at HB HCJ HS2 HL1 HL2 HC5 hmb ⊢
  clear ha h hr hc hrb hcb hC
  go_enter Try.func82, Try.ntmps82
  go_wp2_with ((with_reducible refine (implConj_any va r (C : Int) _ HA.out).mono ?_); rw [HCJ.out]; rintro e w1 ⟨u1, rfl, ho, hb⟩; have HO1 := hide ho; have HB1 := hide hb; obtain ⟨ua, uc, rfl⟩ := own_slice ho; clear ho hb)
  have hbx := (Below.refl w1.heap.size w1).alloc (Nat.le_refl _) (.cells #[.slice ua (conjL r C).length uc] 22)
  have HX := hide (HB1.out.trans (hbx.mono HB1.out.size))
  have HR1 := hide (rowAt_below (rowAt_own HO1.out (by rw [HL2.out]; exact HC5.out.1)) hbx)
  have HP1 := hide (show (w1.alloc (.cells #[.slice ua (conjL r C).length uc] 22)).cell? ⟨w1.heap.size, 0, none⟩ = some (.slice ua (conjL r C).length uc) by simp [World.cell?_alloc_new])
  have HQ1 := hide (show w1.heap.size < (w1.alloc (.cells #[.slice ua (conjL r C).length uc] 22)).heap.size by simp)
  have HI2 := hide (inRow_below HB.out HX.out)
  clear hbx
  refine (implSortedDown_any _ c _ HI2.out (by have := HC5.out; have := HC.out; omega)).mono ?_
  generalize w1.alloc (.cells #[.slice ua (conjL r C).length uc] 22) = W1 at HX HR1 HP1 HQ1 HI2
  rintro e w2 ⟨u2, rfl, ho, hb⟩
  have HO2 := hide ho
  have HP2 := hide (below_cell hb HQ1.out HP1.out)
  have HR2 := hide (rowAt_below HR1.out hb)
  have HQ2 := hide (Nat.lt_of_lt_of_le HQ1.out hb.size)
  have HX2 := hide (HX.out.trans (hb.mono HX.out.size))
  obtain ⟨va2, uc2, rfl⟩ := own_slice ho
  clear ho hb HO1 HX HR1 HP1 HQ1 HI2
  go_wp2_with fail
  have hbx := (Below.refl w2.heap.size w2).alloc (Nat.le_refl _) (.cells #[.slice va2 (sortD c).length uc2] 22)
  have HX3 := hide (HX2.out.trans (hbx.mono HX2.out.size))
  have HS3 := hide (rowAt_below (rowAt_own HO2.out (by rw [HL1.out]; exact HC5.out.1)) hbx)
  have HP3 := hide (show (w2.alloc (.cells #[.slice va2 (sortD c).length uc2] 22)).cell? ⟨w2.heap.size, 0, none⟩ = some (.slice va2 (sortD c).length uc2) by simp [World.cell?_alloc_new])
  have HQ3 := hide (show w2.heap.size < (w2.alloc (.cells #[.slice va2 (sortD c).length uc2] 22)).heap.size by simp)
  have HR3 := hide (rowAt_below HR2.out hbx)
  have HP4 := hide (below_cell hbx HQ2.out HP2.out)
  have HQ4 := hide (Nat.lt_of_lt_of_le HQ2.out hbx.size)
  clear hbx HX2 HO2 HR2 HP2 HQ2
  generalize w2.alloc (.cells #[.slice va2 (sortD c).length uc2] 22) = W2 at HX3 HS3 HP3 HQ3 HR3 HP4 HQ4 ⊢
  refine (collectBound_any (sortD c) (conjL r C) _ _ w2.heap.size w1.heap.size C _ HS3.out HR3.out HQ3.out HQ4.out HP3.out HP4.out HS1.out HS2.out HL1.out HL2.out HC5.out.2).mono ?_
  rintro e w3 ⟨u3, rfl, hi, hb⟩
  have HI := hide hi; have HE := hide (HX3.out.trans (hb.mono HX3.out.size))
  clear hi hb
  go_wp2
  go_ret
  exact ⟨_, rfl, HI.out, HE.out⟩
end Go.Proofs.Ytecfigjkcpbggaa
