/-
  Texts of this claim, one behind the other: Mask, Agg, Ov, Rs, Conj, MostS, SortL, Top, AppR, Fill, White.
-/
import Derived.Test.YtcliiefedmiokaaGreatRows
import Derived.Test.YtcliiefedmiokaaGreatPackA
import Derived.Great.BuildSlice
import Derived.Deep.AppendLies
import Derived.Test.YtcliiefedmiokaaGreatPackC
import Derived.Test.YtcliiefedmiokaaGreatPackB
import Derived.Sort.LotA
/-
  Sums over ranges, and the theorem on 0-1 matrices with given sums between two bounds.
-/
namespace Go.Proofs.YtcliiefedmiokaaGreat.Mx

/-- The sum of f 0, .., f (n - 1). -/
def S : Nat → (Nat → Int) → Int
  | 0, _ => 0
  | n + 1, f => S n f + f n
theorem S_congr {f g : Nat → Int} : ∀ n, (∀ i, i < n → f i = g i) → S n f = S n g
  | 0, _ => rfl
  | n + 1, h => by rw [S, S, S_congr n (fun i hi => h i (by omega)), h n (by omega)]
theorem S_le {f g : Nat → Int} : ∀ n, (∀ i, i < n → f i ≤ g i) → S n f ≤ S n g
  | 0, _ => Int.le_refl _
  | n + 1, h => by
    have := S_le n (fun i hi => h i (by omega))
    have := h n (by omega)
    rw [S, S]; omega
theorem S_add (f g : Nat → Int) : ∀ n, S n (fun i => f i + g i) = S n f + S n g
  | 0 => rfl
  | n + 1 => by rw [S, S, S, S_add f g n]; omega
theorem S_sub (f g : Nat → Int) : ∀ n, S n (fun i => f i - g i) = S n f - S n g
  | 0 => rfl
  | n + 1 => by rw [S, S, S, S_sub f g n]; omega
theorem S_zero : ∀ n, S n (fun _ => 0) = 0
  | 0 => rfl
  | n + 1 => by rw [S, S_zero n]; rfl
theorem S_one {f : Nat → Int} {k : Nat} : ∀ n, k < n → (∀ i, i < n → i ≠ k → f i = 0) → S n f = f k
  | 0, h, _ => absurd h (Nat.not_lt_zero _)
  | n + 1, h, h0 => by
    rw [S]
    by_cases e : k = n
    · subst e
      rw [S_congr k (g := fun _ => 0) (fun i hi => h0 i (by omega) (by omega)), S_zero]; omega
    · rw [S_one n (by omega) (fun i hi => h0 i (by omega)), h0 n (by omega) (Ne.symm e)]; omega
theorem S_pick {k n : Nat} (h : k < n) (v : Int) : S n (fun i => if i = k then v else 0) = v := by
  rw [S_one n h (fun i _ hne => by rw [if_neg hne]), if_pos rfl]
theorem S_swap (f : Nat → Nat → Int) (m : Nat) : ∀ n, S n (fun i => S m fun j => f i j) = S m fun j => S n fun i => f i j
  | 0 => by rw [S, S_congr m (f := fun j => S 0 fun i => f i j) (g := fun _ => 0) (fun j _ => rfl), S_zero]
  | n + 1 => by rw [S, S_swap f m n, ← S_add]; rfl
theorem S_nonneg {f : Nat → Int} (n : Nat) (h : ∀ i, i < n → 0 ≤ f i) : 0 ≤ S n f := by
  have := S_le (f := fun _ => 0) (g := f) n h
  rwa [S_zero] at this
/-- The numbers x at which p holds. -/
def on (p : Nat → Bool) (f : Nat → Int) (i : Nat) : Int := if p i then f i else 0

/-- What a cell gives to the rows of L (a: its row is one) from outside the columns of O (d: its column is one), less what it must give away. -/
def kc (a d : Bool) (h l : Int) : Int := (if a && !d then h else 0) - if !a && d then l else 0
/-- What the rows of L and the columns of O ask for beyond what the cells can give. -/
def over (R C : Nat) (r c : Nat → Int) (lo hi : Nat → Nat → Int) (L O : Nat → Bool) : Int :=
  S R (on L r) - S C (on O c) - S R (fun y => S C fun x => kc (L y) (O x) (hi y x) (lo y x))
theorem ite_or (a b : Bool) (v : Int) : (if a then v else 0) + (if b then v else 0) = (if (a || b) then v else 0) + (if (a && b) then v else 0) := by cases a <;> cases b <;> simp
theorem kc_or (a b d e : Bool) (h l q : Int) (hle : l ≤ h) (hq : q ≤ if (a && !d) && (!b && e) then h - l else 0) : kc (a || b) (d || e) h l + kc (a && b) (d && e) h l + q ≤ kc a d h l + kc b e h l := by
  unfold kc
  cases a <;> cases b <;> cases d <;> cases e <;> simp at hq ⊢ <;> omega
def orB (p q : Nat → Bool) (i : Nat) : Bool := p i || q i
def andB (p q : Nat → Bool) (i : Nat) : Bool := p i && q i
theorem over_sum {R C : Nat} {r c : Nat → Int} {lo hi : Nat → Nat → Int} (h : ∀ y x, y < R → x < C → lo y x ≤ hi y x) (L O L' O' : Nat → Bool) (q : Nat → Nat → Int)
    (hq : ∀ y x, y < R → x < C → q y x ≤ (if (L y && !O x) && (!L' y && O' x) then hi y x - lo y x else 0)) :
    over R C r c lo hi L O + over R C r c lo hi L' O' + S R (fun y => S C fun x => q y x) ≤ over R C r c lo hi (orB L L') (orB O O') + over R C r c lo hi (andB L L') (andB O O') := by
  have hr : S R (on L r) + S R (on L' r) = S R (on (orB L L') r) + S R (on (andB L L') r) := by
    rw [← S_add, ← S_add]
    exact S_congr R fun y _ => ite_or (L y) (L' y) (r y)
  have hc : S C (on O c) + S C (on O' c) = S C (on (orB O O') c) + S C (on (andB O O') c) := by
    rw [← S_add, ← S_add]
    exact S_congr C fun x _ => ite_or (O x) (O' x) (c x)
  have hk : S R (fun y => S C fun x => kc (orB L L' y) (orB O O' x) (hi y x) (lo y x)) + S R (fun y => S C fun x => kc (andB L L' y) (andB O O' x) (hi y x) (lo y x)) + S R (fun y => S C fun x => q y x) ≤
      S R (fun y => S C fun x => kc (L y) (O x) (hi y x) (lo y x)) + S R (fun y => S C fun x => kc (L' y) (O' x) (hi y x) (lo y x)) := by
    rw [← S_add, ← S_add, ← S_add]
    refine S_le R fun y hy => ?_
    rw [← S_add, ← S_add, ← S_add]
    exact S_le C fun x hx => kc_or _ _ _ _ _ _ _ (h y x hy hx) (hq y x hy hx)
  unfold over
  omega

/-- The number of cells that are free. -/
def free (R C : Nat) (lo hi : Nat → Nat → Int) : Nat := (S R fun y => S C fun x => hi y x - lo y x).toNat
def put (m : Nat → Nat → Int) (y x : Nat) (v : Int) (a b : Nat) : Int := if a = y ∧ b = x then v else m a b
/-- Between the bounds lies a matrix with these sums, where no rows and columns ask for too much. -/
theorem exists_between (R C : Nat) (r c : Nat → Int) (ht : S R r = S C c) : ∀ (n : Nat) (lo hi : Nat → Nat → Int), free R C lo hi ≤ n → (∀ y x, y < R → x < C → (lo y x = 0 ∨ lo y x = 1) ∧ (hi y x = 0 ∨ hi y x = 1) ∧ lo y x ≤ hi y x) →
    (∀ L O, over R C r c lo hi L O ≤ 0) → ∃ m : Nat → Nat → Int, (∀ y x, y < R → x < C → lo y x ≤ m y x ∧ m y x ≤ hi y x) ∧ (∀ y, y < R → S C (m y) = r y) ∧ ∀ x, x < C → S R (fun y => m y x) = c x := by
  intro n
  induction n with
  | zero =>
    intro lo hi hf hb hov
    have heq : ∀ y x, y < R → x < C → lo y x = hi y x := by
      intro y x hy hx
      have h0 : (S R fun y => S C fun x => hi y x - lo y x) ≤ 0 := by unfold free at hf; omega
      have h1 : ∀ y, y < R → 0 ≤ S C (fun x => hi y x - lo y x) := fun y hy => S_nonneg C fun x hx => by have := (hb y x hy hx).2.2; omega
      have hrow : S C (fun x => hi y x - lo y x) ≤ 0 := by
        have h2 := S_le (f := fun i => if i = y then S C (fun x => hi y x - lo y x) else 0) (g := fun y => S C fun x => hi y x - lo y x) R (fun i hi' => by
          by_cases e : i = y
          · subst e; simp
          · rw [if_neg e]; exact h1 i hi')
        rw [S_pick hy] at h2
        omega
      have h2 := S_le (f := fun i => if i = x then hi y x - lo y x else 0) (g := fun x => hi y x - lo y x) C (fun i hi' => by
        by_cases e : i = x
        · subst e; simp
        · rw [if_neg e]; have := (hb y i hy hi').2.2; omega)
      rw [S_pick hx] at h2
      have := (hb y x hy hx).2.2
      omega
    refine ⟨lo, fun y x hy hx => ⟨Int.le_refl _, by rw [heq y x hy hx]; exact Int.le_refl _⟩, fun y hy => ?_, fun x hx => ?_⟩
    · have a := hov (fun i => i == y) (fun _ => false)
      have b := hov (fun i => i != y) (fun _ => true)
      unfold over at a b
      simp only [] at a b
      have a1 : S R (on (fun i => i == y) r) = r y := by
        rw [S_one R hy (fun i _ hne => by simp [on, hne])]; simp [on]
      have a2 : S C (on (fun _ => false) c) = 0 := by rw [S_congr C (g := fun _ => 0) (fun i _ => by simp [on]), S_zero]
      have a3 : S R (fun i => S C fun x => kc (i == y) false (hi i x) (lo i x)) = S C (lo y) := by
        rw [S_one R hy (fun i _ hne => by rw [S_congr C (g := fun _ => 0) (fun j _ => by simp [kc, hne]), S_zero])]
        exact S_congr C fun j hj => by simp [kc, heq y j hy hj]
      have b1 : S R (on (fun i => i != y) r) = S R r - r y := by
        rw [S_congr R (g := fun i => r i - (if i = y then r y else 0)) (fun i _ => by
          unfold on
          by_cases e : i = y
          · subst e; simp
          · simp [e]), S_sub, S_pick hy]
      have b2 : S C (on (fun _ => true) c) = S C c := S_congr C fun i _ => by simp [on]
      have b3 : S R (fun i => S C fun x => kc (i != y) true (hi i x) (lo i x)) = - S C (lo y) := by
        rw [S_one R hy (fun i _ hne => by rw [S_congr C (g := fun _ => 0) (fun j _ => by simp [kc, hne]), S_zero])]
        rw [S_congr C (g := fun x => 0 - lo y x) (fun j _ => by simp [kc]), S_sub, S_zero]; omega
      rw [a1, a2, a3] at a
      rw [b1, b2, b3] at b
      omega
    · have a := hov (fun _ => true) (fun i => i != x)
      have b := hov (fun _ => false) (fun i => i == x)
      unfold over at a b
      simp only [] at a b
      have a1 : S R (on (fun _ => true) r) = S R r := S_congr R fun i _ => by simp [on]
      have a2 : S C (on (fun i => i != x) c) = S C c - c x := by
        rw [S_congr C (g := fun i => c i - (if i = x then c x else 0)) (fun i _ => by
          unfold on
          by_cases e : i = x
          · subst e; simp
          · simp [e]), S_sub, S_pick hx]
      have a3 : S R (fun y => S C fun i => kc true (i != x) (hi y i) (lo y i)) = S R (fun y => lo y x) := S_congr R fun y hy => by
        rw [S_one C hx (fun i _ hne => by simp [kc, hne])]
        simp [kc, heq y x hy hx]
      have b1 : S R (on (fun _ => false) r) = 0 := by rw [S_congr R (g := fun _ => 0) (fun i _ => by simp [on]), S_zero]
      have b2 : S C (on (fun i => i == x) c) = c x := by
        rw [S_one C hx (fun i _ hne => by simp [on, hne])]; simp [on]
      have b3 : S R (fun y => S C fun i => kc false (i == x) (hi y i) (lo y i)) = - S R (fun y => lo y x) := by
        rw [S_congr R (g := fun y => 0 - lo y x) (fun y _ => by
          rw [S_one C hx (fun i _ hne => by simp [kc, hne])]
          simp [kc]), S_sub, S_zero]; omega
      rw [a1, a2, a3] at a
      rw [b1, b2, b3] at b
      omega
  | succ n ih =>
    intro lo hi hf hb hov
    by_cases hex : ∃ y x, y < R ∧ x < C ∧ lo y x = 0 ∧ hi y x = 1
    · obtain ⟨y, x, hy, hx, hl, hh⟩ := hex
      have hsum : ∀ (m m' : Nat → Nat → Int) (d : Int), (∀ a b, a < R → b < C → m' a b = m a b + if a = y ∧ b = x then d else 0) → S R (fun a => S C fun b => m' a b) = S R (fun a => S C fun b => m a b) + d := by
        intro m m' d h
        have e1 : ∀ a, a < R → S C (fun b => m' a b) = S C (fun b => m a b) + if a = y then d else 0 := by
          intro a ha
          rw [S_congr C (fun b hb' => h a b ha hb'), S_add]
          congr 1
          by_cases e : a = y
          · subst e
            rw [if_pos rfl, S_one C hx (fun i _ hne => by simp [hne])]; simp
          · rw [if_neg e, S_congr C (g := fun _ => 0) (fun i _ => by simp [e]), S_zero]
        rw [S_congr R e1, S_add, S_pick hy]
      have hfr : (S R fun a => S C fun b => hi a b - lo a b) = (free R C lo hi : Nat) := by
        unfold free
        have := S_nonneg R (f := fun a => S C fun b => hi a b - lo a b) fun a ha => S_nonneg C fun b hb' => by have := (hb a b ha hb').2.2; omega
        omega
      have hpos : 1 ≤ free R C lo hi := by
        have h1 : ∀ a, a < R → 0 ≤ S C (fun b => hi a b - lo a b) := fun a ha => S_nonneg C fun b hb' => by have := (hb a b ha hb').2.2; omega
        have h2 := S_le (f := fun i => if i = y then S C (fun b => hi y b - lo y b) else 0) (g := fun a => S C fun b => hi a b - lo a b) R (fun i hi' => by
          by_cases e : i = y
          · subst e; simp
          · rw [if_neg e]; exact h1 i hi')
        rw [S_pick hy] at h2
        have h3 := S_le (f := fun i => if i = x then hi y x - lo y x else 0) (g := fun b => hi y b - lo y b) C (fun i hi' => by
          by_cases e : i = x
          · subst e; simp
          · rw [if_neg e]; have := (hb y i hy hi').2.2; omega)
        rw [S_pick hx] at h3
        simp [hl, hh] at h2 h3
        omega
      -- the cell white
      by_cases h0 : ∀ L O, over R C r c lo (put hi y x 0) L O ≤ 0
      · have hfree : free R C lo (put hi y x 0) ≤ n := by
          unfold free
          rw [hsum (fun a b => hi a b - lo a b) (fun a b => put hi y x 0 a b - lo a b) (-1) (fun a b _ _ => by
            unfold put
            by_cases e : a = y ∧ b = x
            · obtain ⟨rfl, rfl⟩ := e; simp [hh]; omega
            · simp [e])]
          rw [hfr]; omega
        obtain ⟨m, hm1, hm2, hm3⟩ := ih lo (put hi y x 0) hfree (fun a b ha hb' => by
          have := hb a b ha hb'
          unfold put
          by_cases e : a = y ∧ b = x
          · obtain ⟨rfl, rfl⟩ := e; simp [hl]
          · simp [e]; exact this) h0
        refine ⟨m, fun a b ha hb' => ?_, hm2, hm3⟩
        have := hm1 a b ha hb'
        refine ⟨this.1, ?_⟩
        by_cases e : a = y ∧ b = x
        · obtain ⟨rfl, rfl⟩ := e; simp [put] at this; omega
        · simp [put, e] at this; omega
      · by_cases h1 : ∀ L O, over R C r c (put lo y x 1) hi L O ≤ 0
        · have hfree : free R C (put lo y x 1) hi ≤ n := by
            unfold free
            rw [hsum (fun a b => hi a b - lo a b) (fun a b => hi a b - put lo y x 1 a b) (-1) (fun a b _ _ => by
              unfold put
              by_cases e : a = y ∧ b = x
              · obtain ⟨rfl, rfl⟩ := e; simp [hl]; omega
              · simp [e])]
            rw [hfr]; omega
          obtain ⟨m, hm1, hm2, hm3⟩ := ih (put lo y x 1) hi hfree (fun a b ha hb' => by
            have := hb a b ha hb'
            unfold put
            by_cases e : a = y ∧ b = x
            · obtain ⟨rfl, rfl⟩ := e; simp [hh]
            · simp [e]; exact this) h1
          refine ⟨m, fun a b ha hb' => ?_, hm2, hm3⟩
          have := hm1 a b ha hb'
          refine ⟨?_, this.2⟩
          by_cases e : a = y ∧ b = x
          · obtain ⟨rfl, rfl⟩ := e; simp [put] at this; omega
          · simp [put, e] at this; omega
        · exfalso
          simp only [Classical.not_forall] at h0 h1
          obtain ⟨L, O, h0⟩ := h0
          obtain ⟨L', O', h1⟩ := h1
          have e0 : over R C r c lo (put hi y x 0) L O = over R C r c lo hi L O + if L y && !O x then 1 else 0 := by
            unfold over
            rw [hsum (fun a b => kc (L a) (O b) (hi a b) (lo a b)) (fun a b => kc (L a) (O b) (put hi y x 0 a b) (lo a b)) (-(if L y && !O x then 1 else 0)) (fun a b _ _ => by
              unfold put kc
              by_cases e : a = y ∧ b = x
              · rw [if_pos e, if_pos e]
                obtain ⟨rfl, rfl⟩ := e
                rw [hh]
                cases L a <;> cases O b <;> simp
              · rw [if_neg e, if_neg e]; simp)]
            omega
          have e1 : over R C r c (put lo y x 1) hi L' O' = over R C r c lo hi L' O' + if !L' y && O' x then 1 else 0 := by
            unfold over
            rw [hsum (fun a b => kc (L' a) (O' b) (hi a b) (lo a b)) (fun a b => kc (L' a) (O' b) (hi a b) (put lo y x 1 a b)) (-(if !L' y && O' x then 1 else 0)) (fun a b _ _ => by
              unfold put kc
              by_cases e : a = y ∧ b = x
              · rw [if_pos e, if_pos e]
                obtain ⟨rfl, rfl⟩ := e
                rw [hl]
                cases L' a <;> cases O' b <;> simp
              · rw [if_neg e, if_neg e]; simp)]
            omega
          have a0 := hov L O
          have a1 := hov L' O'
          have hL : (L y && !O x) = true := by
            cases h : L y && !O x with
            | true => rfl
            | false => rw [e0, h] at h0; simp at h0; omega
          have hL' : (!L' y && O' x) = true := by
            cases h : !L' y && O' x with
            | true => rfl
            | false => rw [e1, h] at h1; simp at h1; omega
          rw [e0, hL] at h0
          rw [e1, hL'] at h1
          have hs := over_sum (r := r) (c := c) (lo := lo) (hi := hi) (R := R) (C := C) (fun a b ha hb' => (hb a b ha hb').2.2) L O L' O' (fun a b => if a = y ∧ b = x then 1 else 0) (fun a b ha hb' => by
            by_cases e : a = y ∧ b = x
            · obtain ⟨rfl, rfl⟩ := e
              rw [hL, hL']; simp [hl, hh]
            · rw [if_neg e]
              have := (hb a b ha hb').2.2
              split <;> omega)
          have hq : S R (fun a => S C fun b => if a = y ∧ b = x then (1 : Int) else 0) = 1 := by
            have := hsum (fun _ _ => 0) (fun a b => if a = y ∧ b = x then 1 else 0) 1 (fun a b _ _ => by omega)
            rw [this, S_congr R (g := fun _ => 0) (fun a _ => S_zero C), S_zero]; rfl
          rw [hq] at hs
          have b0 := hov (orB L L') (orB O O')
          have b1 := hov (andB L L') (andB O O')
          simp at h0 h1
          omega
    · refine ih lo hi ?_ hb hov
      have hz : ∀ y x, y < R → x < C → hi y x - lo y x = 0 := fun y x hy hx => by
        have := hb y x hy hx
        rcases this.1 with e | e <;> rcases this.2.1 with e' | e'
        · omega
        · exact absurd ⟨y, x, hy, hx, e, e'⟩ hex
        · omega
        · omega
      unfold free
      rw [S_congr R (g := fun _ => 0) (fun y hy => by rw [S_congr C (g := fun _ => 0) (fun x hx => hz y x hy hx), S_zero]), S_zero]
      exact Nat.zero_le _
end Go.Proofs.YtcliiefedmiokaaGreat.Mx
/-
  Slices whose elements have several cells: what a call owns, a literal of one element, append.
-/
namespace Go.Proofs.YtcliiefedmiokaaGreat
open Go.RowKit

theorem ownA_below {w w' : World} {base e n z : Nat} {v : Value} {xs : List Value} (h : w.ownsRow base e z v n xs) (hb : Below w.heap.size w w') : w'.ownsRow base e z v n xs := by
  refine ⟨h.1, ?_⟩
  rcases h.2 with hn | ⟨g, cap, cur, hv, hbg, hg, r⟩
  · exact .inl hn
  · exact .inr ⟨g, cap, cur, hv, hbg, by rw [hb.block g (Array.getElem?_eq_some_iff.1 hg).1]; exact hg, r⟩
theorem ownA_base {w : World} {base base' e n z : Nat} {v : Value} {xs : List Value} (h : w.ownsRow base e z v n xs) (hb : base' ≤ base) : w.ownsRow base' e z v n xs := by
  refine ⟨h.1, ?_⟩
  rcases h.2 with hn | ⟨g, cap, cur, hv, hbg, hg, r⟩
  · exact .inl hn
  · exact .inr ⟨g, cap, cur, hv, by omega, hg, r⟩
theorem ownA_slice {w : World} {base e n z : Nat} {v : Value} {xs : List Value} (h : w.ownsRow base e z v n xs) : ∃ a cap, v = .slice a n cap := by
  rcases h.2 with ⟨rfl, rfl⟩ | ⟨g, cap, cur, rfl, _⟩
  · exact ⟨_, _, rfl⟩
  · exact ⟨_, _, rfl⟩
theorem ownA_some {w : World} {base e n z : Nat} {v : Value} {xs : List Value} (h : w.ownsRow base e z v n xs) (hn : 0 < n) :
    ∃ g cap, v = .slice (some ⟨g, 0, none⟩) n cap ∧ base ≤ g ∧ g < w.heap.size ∧ n ≤ cap ∧ cap ≤ maxLen ∧ (∀ j, j < n * z → w.cell? ⟨g, j, none⟩ = xs[j]?) ∧ (∀ j, w.frozen? ⟨g, j, none⟩ = false) := by
  rcases h.2 with ⟨_, h0⟩ | ⟨g, cap, cur, rfl, hbg, hg, hc, hm, _⟩
  · omega
  · exact ⟨g, cap, rfl, hbg, (Array.getElem?_eq_some_iff.1 hg).1, hc, hm, fun j hj => h.cellAt j hj, fun j => h.frozenAt j⟩
theorem ownA_types {w : World} {b1 b2 e1 e2 n1 n2 z1 z2 : Nat} {v1 v2 : Value} {xs ys : List Value} (h1 : w.ownsRow b1 e1 z1 v1 n1 xs) (h2 : w.ownsRow b2 e2 z2 v2 n2 ys) (hne : e1 ≠ e2) : v1.ownBlock = none ∨ v1.ownBlock ≠ v2.ownBlock := by
  rcases h1.2 with ⟨rfl, _⟩ | ⟨g1, c1, cur1, rfl, _, hg1, _⟩
  · exact .inl rfl
  · rcases h2.2 with ⟨rfl, _⟩ | ⟨g2, c2, cur2, rfl, _, hg2, _⟩
    · exact .inr (by simp [Value.ownBlock])
    · refine .inr fun e => ?_
      simp only [Value.ownBlock, Option.some.injEq] at e
      subst e
      rw [hg1] at hg2
      simp only [Option.some.injEq, Obj.cells.injEq] at hg2
      exact hne hg2.2.1
theorem ownA_grown {w w' : World} {base e n z : Nat} {v : Value} {xs : List Value} {row : Option Nat} (h : w.ownsRow base e z v n xs) (hg : w.grownBy w' row) (hr : ∀ k, row = some k → v.ownBlock ≠ some k) : w'.ownsRow base e z v n xs := by
  refine h.kept hg ?_
  cases hv : v.ownBlock with
  | none => exact .inl rfl
  | some k =>
    right
    cases row with
    | none => simp
    | some q => intro e; cases e; exact hr _ rfl hv

/-- '[]T{x}', x of some cells. -/
theorem wpList_buildOneA {P : Program} {ops : Array Oper} {rest : List Oper} {o : Oper} {a : Act} {Q : Exit → Act → World → Prop} {W : World} {T E : TypeId} {z bytes : Nat} (cs : Array Value) (zv : Value) (d : Tmp) (_hd : o.dst = some d) (hgd : o.guard = none) (x : Operand) (ho : o.op = .buildSlice T 1 #[(0, x)])
    (hx : a.eval x = .agg cs) (ht : P.underlying T = some (.slice E)) (hinfo : (P.info? E).map (fun i => (i.zero, i.size, i.bytes)) = some (some zv, z, bytes)) (hz : 0 < z) (hz2 : z ≤ 1000) (hcs : cs.size = z)
    (h : wpList P ops Q rest (a.put o.dst (.slice (some ⟨W.heap.size, 0, none⟩) 1 1)) (W.alloc (.cells cs E))) : wpList P ops Q (o :: rest) a W := by
  obtain ⟨i0, hi, hz0, hz1, -⟩ := info_parts hinfo
  refine wpList_buildSlice hgd T E 1 _ ho cs i0 zv ht hi hz0 (by rw [hz1]; omega) (by rw [hz1]; omega) ?_ h
  rw [hz1]
  have := Go.Great.fill_whole (s := z) hz [.agg cs] ((Array.range (1 * z)).map (zv.cells[· % zv.cells.size]!)) (by simpa [Value.cells] using hcs) (by simp)
  simpa [hx, Value.cells] using this

/-- 'append(v, x)', x of some cells, laid just before. -/
theorem wpList_pushA {P : Program} {ops : Array Oper} {rest : List Oper} {o : Oper} {a : Act} {Q : Exit → Act → World → Prop} {W : World} {base n bytes z : Nat} {E T : TypeId} {v : Value} {xs : List Value}
    (hown : W.ownsRow base E z v n xs) (cs : Array Value) (zv : Value) (hgd : o.guard = none) (s x : Operand)
    (ho : o.op = .call { callee := .builtin .append, args := #[s, x], argTypes := #[T, T] })
    (ht : P.underlying T = some (.slice E)) (hinfo : (P.info? E).map (fun i => (i.zero, i.size, i.bytes)) = some (some zv, z, bytes)) (hzc : zv.cells.size = z) (hz : 0 < z) (hby : bytes ≤ 1000)
    (hs : a.eval s = v) (hx : a.eval x = .slice (some ⟨W.heap.size, 0, none⟩) 1 1) (hcs : cs.size = z) (hone : cs.all (·.oneCell') = true) (hn : n < 4000000) (hbase : base ≤ W.heap.size)
    (h : ∀ g cap w', w'.ownsRow base E z (.slice (some ⟨g, 0, none⟩) (n + 1) cap) (n + 1) (xs ++ cs.toList) → Below base W w' → W.grownBy w' v.ownBlock → (v.ownBlock = some g ∨ W.heap.size ≤ g) → g < w'.heap.size → wpList P ops Q rest (a.put o.dst (.slice (some ⟨g, 0, none⟩) (n + 1) cap)) w') :
    wpList P ops Q (o :: rest) a (W.alloc (.cells cs E)) := by
  obtain ⟨i0, hi, hz0, hz1, hz2⟩ := info_parts hinfo
  refine wpList_append_lies _ hgd s x T ho base E i0 zv z bytes ht hi hz0 hz1 hz2 hzc hz v n xs hs (hown.alloc _) ⟨W.heap.size, 0, none⟩ 1 1 cs.toList hx (by simp [hcs]) ?_ ?_
    (by decide) (by unfold maxLen; omega) (by have : (n + 1) * bytes ≤ 4000000 * 1000 := Nat.mul_le_mul (by omega) hby; omega) (by simp; omega) _ rfl ?_
  · intro j u hj
    rw [addr_add, Nat.zero_add, cell_of_row _ W.heap.size j cs E (0, 0) (heap_alloc_new W _)]
    simpa using hj
  · intro u hu
    exact (Array.all_eq_true_iff_forall_mem.1 hone) u (by simpa using hu)
  intro g cap w' hown' hg hat hlt'
  have hlt := hown.lt
  have hal : Below base W (W.alloc (.cells cs E)) := (Below.refl _ _).alloc hbase _
  refine h g cap w' hown' (hal.grown hg (by simp; omega) (fun k hk => (hlt k hk).1)) ?_ ?_ hlt'
  · exact grown_trans (World.grownBy_alloc W _ _) hg
  · rcases hat with h1 | h1
    · exact .inl h1
    · right; rw [h1, World.size_alloc]; omega
end Go.Proofs.YtcliiefedmiokaaGreat
/-
  The frame behind a region that draws its order: the slots that the region writes, over the frame from before.
-/
namespace Go.Proofs.YtcliiefedmiokaaGreat
open Go.RowKit

def ov (ks : List (Nat × Value)) : Nat → List Value → List Value
  | _, [] => []
  | i, x :: r => (match ks.lookup i with | some v => v | none => x) :: ov ks (i + 1) r
def KV (a' : Act) : List (Nat × Value) → Prop
  | [] => True
  | p :: r => a'.tmps.getD p.1 undef = p.2 ∧ KV a' r
theorem kv_lookup {a' : Act} : ∀ {ks : List (Nat × Value)}, KV a' ks → ∀ {i : Nat} {v : Value}, ks.lookup i = some v → a'.tmps.getD i undef = v
  | [], _, i, v, h => by simp at h
  | p :: r, hk, i, v, h => by
    rw [List.lookup_cons] at h
    by_cases e : i == p.1
    · rw [e] at h
      have e' := eq_of_beq e
      simp only [Option.some.injEq] at h
      subst h; subst e'
      exact hk.1
    · have e' : (i == p.1) = false := by simpa using e
      rw [e'] at h
      exact kv_lookup hk.2 h
theorem frameAt_ov {ops : Array Oper} {a a' : Act} {ks : List (Nat × Value)} (h3 : ∀ t, outside ops t = true → a'.tmps.getD t undef = a.tmps.getD t undef) (hv : KV a' ks) : ∀ (xs : List Value) (i : Nat),
    (∀ j, j < xs.length → outside ops (i + j) = true ∨ (ks.lookup (i + j)).isSome = true) → (∀ j, (h : j < xs.length) → a.tmps.getD (i + j) undef = xs[j]) → frameAt a' i (ov ks i xs)
  | [], _, _, _ => trivial
  | x :: r, i, ho, hx => by
    refine ⟨?_, ?_⟩
    · cases hl : ks.lookup i with
      | some v => exact kv_lookup hv hl
      | none =>
        rcases ho 0 (by simp) with h | h
        · rw [Nat.add_zero] at h
          rw [h3 i h]
          exact hx 0 (by simp)
        · rw [Nat.add_zero, hl] at h; cases h
    · refine frameAt_ov h3 hv r (i + 1) (fun j hj => ?_) (fun j hj => ?_)
      · have := ho (j + 1) (by simpa using hj)
        rwa [show i + (j + 1) = i + 1 + j by omega] at this
      · have := hx (j + 1) (by simpa using hj)
        rw [show i + (j + 1) = i + 1 + j by omega] at this
        simpa using this
theorem ov_len (ks : List (Nat × Value)) : ∀ (xs : List Value) (i : Nat), (ov ks i xs).length = xs.length
  | [], _ => rfl
  | _ :: r, i => by simp [ov, ov_len ks r]
theorem frame_ov {ops : Array Oper} {a a' : Act} {xs : List Value} {ds : List Deferred} (ha : a = ⟨xs.toArray, ds⟩) (h1 : a'.tmps.size = a.tmps.size) (h2 : a'.defers = a.defers) (h3 : ∀ t, outside ops t = true → a'.tmps.getD t undef = a.tmps.getD t undef)
    (ks : List (Nat × Value)) (hk : ((List.range xs.length).all fun t => outside ops t || (ks.map (·.1)).contains t) = true) (hv : KV a' ks) : a' = ⟨(ov ks 0 xs).toArray, ds⟩ := by
  subst ha
  refine frame_eq _ (by rw [h1, ov_len]; simp) h2 (frameAt_ov h3 hv xs 0 (fun j hj => ?_) fun j hj => ?_)
  · rw [Nat.zero_add]
    have := List.all_eq_true.1 hk j (List.mem_range.2 hj)
    rw [Bool.or_eq_true] at this
    rcases this with h | h
    · exact .inl h
    · right
      clear hk h1 h2 h3 hv
      induction ks with
      | nil => simp at h
      | cons p r ih =>
        rw [List.lookup_cons]
        by_cases e : j == p.1
        · rw [e]; rfl
        · have e' : (j == p.1) = false := by simpa using e
          rw [e']
          refine ih ?_
          simp only [List.map_cons, List.contains_cons, e', Bool.false_or] at h
          exact h
  · simp [hj]
theorem obt_assign {P : Program} {Q : Exit → Act → World → Prop} {base : List (Tmp × Value)} {dsts : List (Option Tmp)} {S : World → Prop} {fs : List FactP} {i : Nat} {o : Oper} {x : Operand} (v : Value) (ho : o.op = .assign x) (hf : factP fs i = isV v) (hg : o.guard = none) (hx : SrcT base dsts fs o x v) : Obt P Q base dsts S fs i o :=
  obt_run v hf hg fun a w _ hs => by unfold execOp; rw [ho]; simp only [hs x v hx]; rfl
/-- An operation whose one operand is what a forerunner has left, told by a fact. -/
theorem obt_from {P : Program} {Q : Exit → Act → World → Prop} {base : List (Tmp × Value)} {dsts : List (Option Tmp)} {S : World → Prop} {fs : List FactP} {i : Nat} {o : Oper} {d : Tmp} (j : Nat) (hg : o.guard = none) (h1 : dsts[j]? = some (some d)) (h2 : depT o j = true)
    (hr : ∀ (ρ : Operand → Value) (w : World) (u : Value), S w → ρ (.tmp d) = u → factP fs j u w → ∃ v, (execOp ρ o).run P w = .ok (.value v) w ∧ factP fs i v w) : Obt P Q base dsts S fs i o :=
  fun a w hS _ hD K hK => by
    obtain ⟨v, hv1, hv2⟩ := hr a.eval w _ hS rfl (hD j d h1 h2)
    exact ⟨.inl hg, run_value v hv1 (hK _ _ hS (fun _ _ h => h) hv2)⟩
theorem exec_moveV {P : Program} {ρ : Operand → Value} {o : Oper} {w : World} {x : Operand} {u : Value} (ho : o.op = .move x) (hx : ρ x = u) : (execOp ρ o).run P w = .ok (.value u) w := by
  unfold execOp; rw [ho]; simp only [hx]; rfl
theorem exec_assignV {P : Program} {ρ : Operand → Value} {o : Oper} {w : World} {x : Operand} {u : Value} (ho : o.op = .assign x) (hx : ρ x = u) : (execOp ρ o).run P w = .ok (.value u) w := by
  unfold execOp; rw [ho]; simp only [hx]; rfl
theorem exec_extract0 {P : Program} {ρ : Operand → Value} {o : Oper} {w : World} {x : Operand} {u v : Value} (ho : o.op = .extract x 0) (hx : ρ x = .tuple #[u, v]) : (execOp ρ o).run P w = .ok (.value u) w := by
  unfold execOp
  simp only [ho, hx]
  go_simp
theorem exec_extract1 {P : Program} {ρ : Operand → Value} {o : Oper} {w : World} {x : Operand} {u v : Value} (ho : o.op = .extract x 1) (hx : ρ x = .tuple #[u, v]) : (execOp ρ o).run P w = .ok (.value v) w := by
  unfold execOp
  simp only [ho, hx]
  go_simp
end Go.Proofs.YtcliiefedmiokaaGreat
/-
  Row sums and column sums as lists.
-/
namespace Go.Proofs.YtcliiefedmiokaaGreat
open Go.RowKit

/-- The number of black cells in a row, in a column. -/
def rs (C : Nat) (f : Nat → Nat → Int) (y : Nat) : Nat := cnt (fun x => f y x == 1) C
def cs (R : Nat) (f : Nat → Nat → Int) (x : Nat) : Nat := cnt (fun y => f y x == 1) R
/-- The row sums. -/
def rowsL (R C : Nat) (f : Nat → Nat → Int) : List Int := rowF R fun y => (rs C f y : Nat)
theorem rs_cell {R C : Nat} {f : Nat → Nat → Int} (h : Img R C f) {y x : Nat} (hy : y < R) (hx : x < C) : ((cnt (fun x => f y x == 1) (x + 1) : Nat) : Int) = (cnt (fun x => f y x == 1) x : Nat) + f y x := by
  rcases h.cell y x hy hx with e | e
  · rw [cnt_no (by simp [e]), e]; simp
  · rw [cnt_yes (by simp [e]), e]; simp
end Go.Proofs.YtcliiefedmiokaaGreat
/-
  ConjugateOf, of the model and of the program.
-/
namespace Go.Proofs.YtcliiefedmiokaaGreat
open Go.RowKit

/-- The list g 0, .., g (n - 1). -/
def tabL (n : Nat) (g : Nat → Int) : List Int := (List.range n).map g
theorem tabL_len (n : Nat) (g : Nat → Int) : (tabL n g).length = n := by simp [tabL]
theorem tabL_at {n : Nat} {g : Nat → Int} {i : Nat} (h : i < (tabL n g).length) : (tabL n g)[i] = g i := by simp [tabL]
theorem tabL_congr {n : Nat} {g h : Nat → Int} (e : ∀ i, i < n → g i = h i) : tabL n g = tabL n h := by
  unfold tabL; exact List.map_congr_left fun i hi => e i (List.mem_range.1 hi)
theorem tabL_set (n : Nat) (g : Nat → Int) (k : Nat) (y : Int) : (tabL n g).set k y = tabL n fun t => if t = k then y else g t := by
  apply List.ext_getElem
  · simp [tabL]
  · intro i h1 h2
    rw [List.getElem_set, tabL_at h2]
    by_cases e : k = i
    · rw [if_pos e, if_pos e.symm]
    · rw [if_neg e, tabL_at, if_neg (fun h => e h.symm)]
theorem tabL_zero (n : Nat) : List.replicate n (Value.int .i64 0) = ints (tabL n fun _ => 0) := by
  apply List.ext_getElem
  · simp [ints, tabL]
  · intro i h1 h2; simp [ints, tabL]
theorem tabL_held {n : Nat} {g : Nat → Int} {i : Nat} (h : i < n) : (ints (tabL n g)).getD i undef = .int .i64 (g i) := by
  rw [List.getD_eq_getElem?_getD, ints_at _ _ (by rw [tabL_len]; exact h), tabL_at]; rfl

/-- How many of l are at least t. -/
def atLeast (t : Int) (l : List Int) : Nat := l.countP fun x => decide (t ≤ x)
theorem atLeast_le (t : Int) (l : List Int) : atLeast t l ≤ l.length := List.countP_le_length
theorem atLeast_take (t : Int) (l : List Int) (k : Nat) (h : k < l.length) : atLeast t (l.take (k + 1)) = atLeast t (l.take k) + if t ≤ l[k] then 1 else 0 := by
  rw [atLeast, List.take_succ_eq_append_getElem h, List.countP_append]
  simp [atLeast]
/-- What ConjugateOf returns. -/
def conjL (l : List Int) (n : Nat) : List Int := tabL n fun k => ((atLeast (k + 1) l : Nat) : Int)
def conjOk (l : List Int) (n : Int) : Bool := decide (1 ≤ n ∧ n ≤ 5) && (decide (l.length ≤ 5) && !l.any (badB n))
def conjRes (l : List Int) (n : Int) : List Int := if conjOk l n = true then conjL l n.toNat else []
theorem conj_no1 {l : List Int} {n : Int} (h : ¬ (1 ≤ n ∧ n ≤ 5)) : conjRes l n = [] := by rw [conjRes, conjOk, decide_eq_false h]; rfl
theorem conj_no2 {l : List Int} {n : Int} (h : 5 < l.length) : conjRes l n = [] := by rw [conjRes, conjOk, decide_eq_false (show ¬ l.length ≤ 5 by omega)]; simp
theorem conj_no3 {l : List Int} {n : Int} (h : l.any (badB n) = true) : conjRes l n = [] := by rw [conjRes, conjOk, h]; simp
theorem conj_yes {l : List Int} {n : Nat} (h1 : 1 ≤ n ∧ n ≤ 5) (h2 : l.length ≤ 5) (h : l.any (badB n) = false) : conjRes l n = conjL l n := by
  rw [conjRes, conjOk, h, decide_eq_true h2, decide_eq_true (show (1 : Int) ≤ n ∧ (n : Int) ≤ 5 by omega)]; simp

set_option maxHeartbeats 400000 in
theorem countAtLeast_any (v : Value) (r : List Int) (t : Int) (w : World) (hin : InRow w v r) (hn : r.length ≤ 5) :
    Calls Tryz.prog 83 #[v, .int .i64 t] w fun e w' => e = .returned (.int .i64 (atLeast t r : Nat)) ∧ w = w' := by
  obtain ⟨a, c, rfl, hm, hp⟩ := hin
  unfold maxLen at hm
  have HP := hide fun h : r.length ≠ 0 => hp.resolve_left h
  obtain ⟨n, hnn⟩ : ∃ n, n = r.length := ⟨_, rfl⟩
  have HN := hide hnn
  rw [← hnn] at hm hn ⊢
  clear hp hnn
  go_enter Tryz.func83, Tryz.ntmps83
  go_wp2
  go_loop [5, 10] (fun s i => ∃ k : Nat, k ≤ n ∧ i = .int .i64 k ∧ s = .int .i64 (atLeast t (r.take k) : Nat)) (fun _ i => n - (intOf i).toNat)
  case atStart => exact ⟨0, Nat.zero_le _, rfl, rfl⟩
  case round =>
    obtain ⟨k, hk, rfl, rfl⟩ := hrel
    have hle := Nat.le_trans (atLeast_le t (r.take k)) (show (r.take k).length ≤ 5 by rw [List.length_take]; have := HN.out; omega)
    by_cases hlt : k < n
    · obtain ⟨g, o, rfl, hg, hc⟩ := HP.out (by have := HN.out; omega)
      have hk' : k < r.length := by rw [← HN.out]; exact hlt
      have hx := hc k hk'
      have HAT := hide (atLeast_take t r k hk')
      obtain ⟨x, hxx⟩ : ∃ x, x = r[k] := ⟨_, rfl⟩
      obtain ⟨q, hq⟩ : ∃ q, q = atLeast t (r.take k) := ⟨_, rfl⟩
      rw [← hxx] at hx HAT
      rw [← hq] at hle HAT ⊢
      clear hxx hq hc
      by_cases htx : t ≤ x
      · have HAT2 : Hid (atLeast t (r.take (k + 1)) = q + 1) := hide (by rw [HAT.out, if_pos htx])
        clear HAT
        go_wp2
        go_round
        case rel => exact ⟨k + 1, by omega, by go_num, by rw [HAT2.out]; go_num⟩
        case measure => simp [intOf]; omega
      · have HAT2 : Hid (atLeast t (r.take (k + 1)) = q) := hide (by rw [HAT.out, if_neg htx]; rfl)
        clear HAT
        go_wp2
        go_round
        case rel => exact ⟨k + 1, by omega, by go_num, by rw [HAT2.out]⟩
        case measure => simp [intOf]; omega
    · have HE : Hid (r.take k = r) := hide (List.take_of_length_le (by have := HN.out; omega))
      rw [HE.out] at hle ⊢
      go_wp2
      go_ret
      exact ⟨rfl, rfl⟩
set_option maxHeartbeats 400000 in
theorem conjAt_any (v : Value) (r : List Int) (t : Int) (q : Nat) (w : World) (hin : InRow w v r) (hn : r.length ≤ 5) (hc : w.cell? ⟨q, 0, none⟩ = some v) :
    Calls Tryz.prog 146 #[.int .i64 t, .pointer (some ⟨q, 0, none⟩)] w fun e w' => e = .returned (.int .i64 (atLeast t r : Nat)) ∧ w = w' := by
  have HI := hide hin
  obtain ⟨a, c, rfl, -, -⟩ := hin
  go_enter Tryz.func146, Tryz.ntmps146
  go_wp2_with ((with_reducible refine (countAtLeast_any _ r t _ HI.out hn).mono ?_); rintro e w' ⟨rfl, rfl⟩)
  go_ret
  exact ⟨rfl, rfl⟩
set_option maxHeartbeats 1000000 in
theorem collectInt_any (v : Value) (r : List Int) (n q : Nat) (w : World) (hin : InRow w v r) (hr : r.length ≤ 5) (hq : q < w.heap.size) (hc : w.cell? ⟨q, 0, none⟩ = some v) (h : 1 ≤ n ∧ n ≤ 5) :
    Calls Tryz.prog 95 #[.int .i64 n, .func (.func 146) #[] #[.pointer (some ⟨q, 0, none⟩)]] w (IntsRes (conjL r n) w) := by
  have HI := hide hin; have HR := hide hr; have HC := hide hc; have HQ := hide hq
  obtain ⟨h11, h12⟩ := h
  clear hin hr hc hq
  go_enter Tryz.func95, Tryz.ntmps95
  go_wp2_with (at_make; refine wpList_new w.heap.size n (.int .i64 0) rfl _ _ rfl Tryz.underlying30 Tryz.infoInt rfl (by decide) rfl rfl (by omega) (Nat.le_refl _) ?_; intro w1 hown1 hb1 hg1)
  have HO := hide hown1; have HB := hide hb1
  clear hown1 hb1 hg1
  go_wp2
  go_loopw [10] (fun i w' => ∃ k : Nat, k ≤ n ∧ i = .int .i64 k ∧ w'.ownsRow w.heap.size 3 1 (.slice (some ⟨w.heap.size, 0, none⟩) n n) n (ints (tabL n fun t => if t < k then ((atLeast (t + 1) r : Nat) : Int) else 0)) ∧ Below w.heap.size w w') (fun i _ => n - (intOf i).toNat)
  case atStart => exact ⟨0, Nat.zero_le _, rfl, by rw [tabL_zero] at HO; exact HO.out, HB.out⟩
  case round =>
    clear HO HB
    obtain ⟨k, hk, rfl, hown, hb⟩ := hrel
    have HO := hide hown; have HB := hide hb
    clear hown hb
    by_cases hlt : k < n
    · have hc1 := cell_held HO.out hlt
      have hf := HO.out.frozenAt k
      have HS := HO.out.stored k (.int .i64 (atLeast ((k : Int) + 1) r : Nat))
      rw [ints_set, tabL_set] at HS
      have e2 : (tabL n fun t => if t = k then ((atLeast ((k : Int) + 1) r : Nat) : Int) else if t < k then ((atLeast (t + 1) r : Nat) : Int) else 0) = tabL n fun t => if t < k + 1 then ((atLeast (t + 1) r : Nat) : Int) else 0 := tabL_congr fun i _ => by
        by_cases e : i = k
        · subst e; rw [if_pos rfl, if_pos (Nat.lt_succ_self _)]
        · rw [if_neg e]
          by_cases e' : i < k
          · rw [if_pos e', if_pos (by omega)]
          · rw [if_neg e', if_neg (by omega)]
      rw [e2] at HS
      have HS := hide HS
      clear e2
      have hle := Nat.le_trans (atLeast_le ((k : Int) + 1) r) HR.out
      have HCA := hide (conjAt_any v r ((k : Int) + 1) q wr (inRow_below HI.out HB.out) HR.out (below_cell HB.out HQ.out HC.out))
      obtain ⟨z, hz⟩ : ∃ z, z = atLeast ((k : Int) + 1) r := ⟨_, rfl⟩
      rw [← hz] at HS hle HCA
      clear hz
      go_wp2_with (go_at_call 146; refine HCA.out.mono ?_; rintro e w9 ⟨rfl, rfl⟩)
      go_roundw
      case rel => exact ⟨k + 1, by omega, by go_num, HS.out.1, HB.out.setCell (Nat.le_refl _) _⟩
      case measure => simp [intOf]; omega
    · obtain rfl : k = n := by omega
      have e3 : (tabL k fun t => if t < k then ((atLeast (t + 1) r : Nat) : Int) else 0) = conjL r k := tabL_congr fun i hi => by rw [if_pos hi]
      have HO : Hid _ := hide (e3 ▸ HO.out)
      clear e3
      go_wp2
      go_ret
      exact ⟨_, rfl, by rw [conjL, tabL_len]; exact HO.out, HB.out⟩
/-- .. and nil where there are none. -/
def IntsNil (r : List Int) (w : World) (e : Ending) (w' : World) : Prop := IntsRes r w e w' ∧ (r = [] → e = .returned (.slice none 0 0))
set_option maxHeartbeats 1000000 in
theorem implConj_nil (v : Value) (l : List Int) (n : Int) (w : World) (hin : InRow w v l) :
    Calls Tryz.prog 137 #[v, .int .i64 n] w (IntsNil (conjRes l n) w) := by
  have hbox := (Below.refl w.heap.size w).alloc (Nat.le_refl _) (.cells #[v] 30)
  have HI := hide (inRow_below hin hbox); have HBX := hide hbox
  have HCX := hide (show (w.alloc (.cells #[v] 30)).cell? ⟨w.heap.size, 0, none⟩ = some v by simp [World.cell?_alloc_new])
  obtain ⟨a, c, rfl, hm, -⟩ := hin
  unfold maxLen at hm
  clear hbox
  by_cases h : 1 ≤ n ∧ n ≤ 5
  · have HE := hide (decide_eq_true h)
    obtain ⟨h11, h12⟩ := h
    by_cases h2 : l.length ≤ 5
    · obtain ⟨m, rfl⟩ : ∃ m : Nat, n = m := ⟨n.toNat, by omega⟩
      have HL := hide h2
      cases h3 : l.any (badB m) with
      | true =>
        rw [conj_no3 h3]
        have H3 := hide h3
        clear h3
        go_enter Tryz.func137, Tryz.ntmps137
        go_wp2_with (first | (with_reducible refine (sideOk_any (m : Int) _).mono ?_; rw [HE.out]; rintro e w' ⟨rfl, rfl⟩) | ((with_reducible refine (sumsInRange_any _ l (m : Int) _ HI.out).mono ?_); rw [H3.out]; rintro e w1 ⟨rfl, b1⟩; have B1 := hide (HBX.out.trans (b1.mono HBX.out.size)); clear b1))
        go_ret
        exact ⟨intsRes_nil B1.out, fun _ => rfl⟩
      | false =>
        rw [conj_yes ⟨by omega, by omega⟩ h2 h3]
        have H3 := hide h3
        clear h3
        go_enter Tryz.func137, Tryz.ntmps137
        go_wp2_with (first | (with_reducible refine (sideOk_any (m : Int) _).mono ?_; rw [HE.out]; rintro e w' ⟨rfl, rfl⟩) | ((with_reducible refine (sumsInRange_any _ l (m : Int) _ HI.out).mono ?_); rw [H3.out]; rintro e w1 ⟨rfl, b1⟩; have B1 := hide (HBX.out.trans (b1.mono HBX.out.size)); have I1 := hide (inRow_below HI.out b1); have C1 := hide (below_cell b1 (by simp) HCX.out); have hs1 := b1.size; rw [World.size_alloc] at hs1; clear b1) | ((with_reducible refine (collectInt_any _ l m w.heap.size _ I1.out HL.out (by omega) C1.out ⟨by omega, by omega⟩).mono ?_); rintro e w2 ⟨u, rfl, ho, hb⟩; have HO := hide (own_base ho B1.out.size); have HB2 := hide (B1.out.trans (hb.mono B1.out.size)); clear ho hb))
        go_ret
        exact ⟨⟨_, rfl, HO.out, HB2.out⟩, fun h => absurd (congrArg List.length h) (by rw [conjL, tabL_len]; simp; omega)⟩
    · rw [conj_no2 (by omega)]
      go_enter Tryz.func137, Tryz.ntmps137
      go_wp2_with (first | (with_reducible refine (sideOk_any n _).mono ?_; rw [HE.out]; rintro e w' ⟨rfl, rfl⟩))
      go_ret
      exact ⟨intsRes_nil HBX.out, fun _ => rfl⟩
  · rw [conj_no1 h]
    have HE := hide (decide_eq_false h)
    clear h
    go_enter Tryz.func137, Tryz.ntmps137
    go_wp2_with (first | (with_reducible refine (sideOk_any n _).mono ?_; rw [HE.out]; rintro e w' ⟨rfl, rfl⟩))
    go_ret
    exact ⟨intsRes_nil HBX.out, fun _ => rfl⟩
theorem implConj_any (v : Value) (l : List Int) (n : Int) (w : World) (hin : InRow w v l) :
    Calls Tryz.prog 137 #[v, .int .i64 n] w (IntsRes (conjRes l n) w) := (implConj_nil v l n w hin).mono fun _ _ h => h.1
end Go.Proofs.YtcliiefedmiokaaGreat
/-
  The sums of the lesser ones are the sums of the conjugate.
-/
namespace Go.Proofs.YtcliiefedmiokaaGreat
open Go.RowKit

theorem most_step (r : List Int) (k : Nat) : (r.map fun x => min x ((k : Int) + 1)).sum = (r.map fun x => min x (k : Int)).sum + (atLeast ((k : Int) + 1) r : Nat) := by
  induction r with
  | nil => rfl
  | cons x r ih =>
    rw [List.map_cons, List.map_cons, List.sum_cons, List.sum_cons, ih, atLeast, atLeast, List.countP_cons]
    by_cases h : (k : Int) + 1 ≤ x
    · rw [if_pos (decide_eq_true h)]; omega
    · rw [if_neg (by simpa using h)]; omega
theorem most_sum {r : List Int} {n : Nat} (hr : ∀ x ∈ r, 0 ≤ x) : ∀ k, k ≤ n → (r.map fun x => min x (k : Int)).sum = ((conjL r n).take k).sum := by
  intro k
  induction k with
  | zero =>
    intro _
    have h : (r.map fun x => min x ((0 : Nat) : Int)) = r.map fun _ => 0 := List.map_congr_left fun x hx => by have := hr x hx; omega
    rw [h]
    clear h hr
    induction r with
    | nil => rfl
    | cons x r ih => rw [List.map_cons, List.sum_cons, ih]; simp
  | succ k ih =>
    intro hk
    have hl : (conjL r n).length = n := by rw [conjL, tabL_len]
    have ha : (conjL r n)[k]'(by omega) = ((atLeast (k + 1) r : Nat) : Int) := tabL_at _
    rw [sum_snoc _ k (by omega), ← ih (by omega), ha]
    exact most_step r k
end Go.Proofs.YtcliiefedmiokaaGreat
/-
  Lists of integers in descending order, and SortedDown of the model.
-/
namespace Go.Proofs.YtcliiefedmiokaaGreat
open Go.RowKit

def Desc (l : List Int) : Prop := l.Pairwise fun x y => y ≤ x
theorem desc_unique : ∀ {a b : List Int}, a.Perm b → Desc a → Desc b → a = b := by
  intro a
  induction a with
  | nil => intro b hp _ _; exact hp.nil_eq
  | cons x a ih =>
    intro b hp ha hb
    cases b with
    | nil => exact absurd hp.symm.nil_eq (by simp)
    | cons y b =>
      have hxy : x = y := by
        have h1 : x ∈ y :: b := hp.subset (List.mem_cons_self ..)
        have h2 : y ∈ x :: a := hp.symm.subset (List.mem_cons_self ..)
        rw [List.mem_cons] at h1 h2
        rcases h1 with h1 | h1
        · exact h1
        · rcases h2 with h2 | h2
          · exact h2.symm
          · have h3 := (List.pairwise_cons.1 hb).1 x h1
            have h4 := (List.pairwise_cons.1 ha).1 y h2
            omega
      subst hxy
      rw [ih hp.cons_inv (List.pairwise_cons.1 ha).2 (List.pairwise_cons.1 hb).2]
/-- What SortedDown returns. -/
def sortD (l : List Int) : List Int := l.mergeSort fun x y => decide (y ≤ x)
theorem sortD_perm (l : List Int) : (sortD l).Perm l := List.mergeSort_perm l _
theorem sortD_desc (l : List Int) : Desc (sortD l) := by
  have h := List.pairwise_mergeSort (le := fun x y : Int => decide (y ≤ x)) (by simp; omega) (by simp; omega) l
  exact h.imp fun h => by simpa using h
theorem sortD_of {l s : List Int} (hp : s.Perm l) (hs : Desc s) : s = sortD l := desc_unique (hp.trans (sortD_perm l).symm) hs (sortD_desc l)
theorem sortD_len (l : List Int) : (sortD l).length = l.length := (sortD_perm l).length_eq

/-- x among s, at q. -/
def bub (s : List Int) (x : Int) (q : Nat) : List Int := s.take q ++ x :: s.drop q
theorem bub_len {s : List Int} {x : Int} {q : Nat} (h : q ≤ s.length) : (bub s x q).length = s.length + 1 := by simp [bub]; omega
theorem bub_end (s : List Int) (x : Int) : bub s x s.length = s ++ [x] := by simp [bub]
theorem bub_self {s : List Int} {x : Int} {q : Nat} (h : q ≤ s.length) : (ints (bub s x q)).getD q undef = .int .i64 x := by
  rw [List.getD_eq_getElem?_getD, ints_at _ _ (by rw [bub_len h]; omega)]
  simp only [bub, Option.getD_some, Value.int.injEq, true_and]
  rw [List.getElem_append_right (by simp; omega)]
  simp [Nat.min_eq_left h]
theorem bub_eq {s : List Int} {x : Int} {p : Nat} (h : p < s.length) : bub s x (p + 1) = s.take p ++ s[p] :: x :: s.drop (p + 1) := by
  rw [bub, List.take_succ_eq_append_getElem h, List.append_assoc]; rfl
theorem bub_prev {s : List Int} {x : Int} {p : Nat} (h : p < s.length) : (ints (bub s x (p + 1))).getD p undef = .int .i64 s[p] := by
  rw [List.getD_eq_getElem?_getD, ints_at _ _ (by rw [bub_len (by omega)]; omega)]
  simp only [bub_eq h, Option.getD_some, Value.int.injEq, true_and]
  rw [List.getElem_append_right (by simp; omega)]
  simp [Nat.min_eq_left (Nat.le_of_lt h)]
theorem bub_step {s : List Int} {x : Int} {p : Nat} (h : p < s.length) : ((bub s x (p + 1)).set (p + 1) s[p]).set p x = bub s x p := by
  have hl : (s.take p).length = p := by rw [List.length_take]; omega
  rw [bub_eq h, List.set_append_right _ _ (by omega), hl, show p + 1 - p = 0 + 1 by omega, List.set_cons_succ, List.set_cons_zero, List.set_append_right _ _ (by omega), hl, Nat.sub_self, List.set_cons_zero, bub, List.drop_eq_getElem_cons h]
theorem bub_perm (s : List Int) (x : Int) (q : Nat) : (bub s x q).Perm (x :: s) := by
  have h : (bub s x q).Perm (x :: (s.take q ++ s.drop q)) := List.perm_middle
  rwa [List.take_append_drop] at h
theorem bub_desc {s : List Int} {x : Int} {q : Nat} (hq : q ≤ s.length) (hs : Desc s) (h1 : ∀ y ∈ s.drop q, y < x) (h2 : ∀ p, (h : p < s.length) → p + 1 = q → x ≤ s[p]) : Desc (bub s x q) := by
  have hs' := hs
  unfold Desc at hs
  rw [← List.take_append_drop q s, List.pairwise_append] at hs
  obtain ⟨a1, a2, a3⟩ := hs
  have hx : ∀ a ∈ s.take q, x ≤ a := fun a ha => by
    obtain ⟨i, hi, rfl⟩ := List.getElem_of_mem ha
    rw [List.length_take] at hi
    rw [List.getElem_take]
    have h3 := h2 (q - 1) (by omega) (by omega)
    by_cases e : i = q - 1
    · subst e; exact h3
    · have := List.pairwise_iff_getElem.1 hs' i (q - 1) (by omega) (by omega) (by omega)
      omega
  refine List.pairwise_append.2 ⟨a1, List.pairwise_cons.2 ⟨fun y hy => by have := h1 y hy; omega, a2⟩, fun a ha b hb => ?_⟩
  rcases List.mem_cons.1 hb with rfl | hb
  · exact hx a ha
  · exact a3 a ha b hb

end Go.Proofs.YtcliiefedmiokaaGreat
/-
  The columns by their sums: the greatest first, of equal ones those further to the left.
-/
namespace Go.Proofs.YtcliiefedmiokaaGreat
open Go.RowKit

/-- A column's place in the order, as a number: the greater the earlier. -/
def keyF (c : List Int) (i : Nat) : Int := c.getD i 0 * 8 + (7 - (i : Int))
theorem keyF_inj {c : List Int} {i j : Nat} (hi : i < 8) (hj : j < 8) (h : keyF c i = keyF c j) : i = j := by unfold keyF at h; omega
/-- The order of the columns. -/
def sortK (c : List Int) : List Nat := (List.range c.length).mergeSort fun i j => decide (keyF c j ≤ keyF c i)
theorem sortK_perm (c : List Int) : (sortK c).Perm (List.range c.length) := List.mergeSort_perm _ _
theorem sortK_len (c : List Int) : (sortK c).length = c.length := by rw [(sortK_perm c).length_eq, List.length_range]
theorem sortK_desc (c : List Int) : (sortK c).Pairwise fun i j => keyF c j ≤ keyF c i := by
  have h := List.pairwise_mergeSort (le := fun i j : Nat => decide (keyF c j ≤ keyF c i)) (by simp; omega) (by simp; omega) (List.range c.length)
  exact h.imp fun h => by simpa using h
theorem sortK_mem {c : List Int} {i : Nat} : i ∈ sortK c ↔ i < c.length := by rw [(sortK_perm c).mem_iff, List.mem_range]
theorem sortK_nodup (c : List Int) : (sortK c).Nodup := (sortK_perm c).nodup_iff.2 List.nodup_range
theorem map_inj_of {k : Nat → Int} {p : Nat → Prop} (hk : ∀ i j, p i → p j → k i = k j → i = j) : ∀ {s t : List Nat}, (∀ i ∈ s, p i) → (∀ i ∈ t, p i) → s.map k = t.map k → s = t
  | [], [], _, _, _ => rfl
  | [], y :: t, _, _, h => by simp at h
  | x :: s, [], _, _, h => by simp at h
  | x :: s, y :: t, hs, ht, h => by
    simp only [List.map_cons, List.cons.injEq] at h
    rw [hk x y (hs x List.mem_cons_self) (ht y List.mem_cons_self) h.1, map_inj_of hk (fun i hi => hs i (List.mem_cons_of_mem _ hi)) (fun i hi => ht i (List.mem_cons_of_mem _ hi)) h.2]
theorem sortK_of {c : List Int} {s : List Nat} (hc : c.length ≤ 8) (hp : s.Perm (List.range c.length)) (hd : s.Pairwise fun i j => keyF c j ≤ keyF c i) : s = sortK c := by
  refine map_inj_of (k := keyF c) (p := fun i => i < c.length) (fun i j hi hj h => keyF_inj (by omega) (by omega) h) (fun i hi => by rw [hp.mem_iff, List.mem_range] at hi; exact hi) (fun i hi => sortK_mem.1 hi) ?_
  exact desc_unique ((hp.trans (sortK_perm c).symm).map _) (List.pairwise_map.2 hd) (List.pairwise_map.2 (sortK_desc c))
/-- The row whose n black cells stand in the first columns of the order. -/
def topF (c : List Int) (n x : Nat) : Int := if x ∈ (sortK c).take n then 1 else 0
def topRow (c : List Int) (n : Nat) : List Int := tabL c.length (topF c n)
theorem topRow_len (c : List Int) (n : Nat) : (topRow c n).length = c.length := tabL_len _ _
theorem topF_zero (c : List Int) (x : Nat) : topF c 0 x = 0 := by rw [topF, if_neg (by simp)]
theorem topF_succ {c : List Int} {n : Nat} (h : n < (sortK c).length) (x : Nat) : topF c (n + 1) x = if x = (sortK c)[n] then 1 else topF c n x := by
  unfold topF
  rw [List.take_succ_eq_append_getElem h]
  by_cases e : x = (sortK c)[n]
  · rw [if_pos e, if_pos (by rw [List.mem_append]; right; simp [e])]
  · rw [if_neg e]
    by_cases e2 : x ∈ (sortK c).take n
    · rw [if_pos e2, if_pos (List.mem_append_left _ e2)]
    · rw [if_neg e2, if_neg (by rw [List.mem_append]; rintro (h | h); exact e2 h; exact e (by simpa using h))]
theorem topF_next {c : List Int} {n : Nat} (h : n < (sortK c).length) : topF c n (sortK c)[n] = 0 := by
  rw [topF, if_neg]
  intro hm
  obtain ⟨i, hi, he⟩ := List.getElem_of_mem hm
  rw [List.length_take] at hi
  rw [List.getElem_take] at he
  have := (List.nodup_iff_pairwise_ne.1 (sortK_nodup c))
  have := List.pairwise_iff_getElem.1 this i n (by omega) h (by omega)
  exact this he
/-- The next column is the first one of those that are white yet. -/
theorem next_of {c : List Int} {n b : Nat} (hc : c.length ≤ 8) (h : n < (sortK c).length) (hb : b < c.length) (hw : topF c n b = 0) (hall : ∀ t, t < c.length → topF c n t = 0 → keyF c t ≤ keyF c b) : b = (sortK c)[n] := by
  have hn : (sortK c)[n] < c.length := sortK_mem.1 (List.getElem_mem h)
  have h1 := hall _ hn (topF_next h)
  obtain ⟨i, hi, he⟩ := List.getElem_of_mem (sortK_mem.2 hb)
  have hni : n ≤ i := by
    rcases Nat.lt_or_ge i n with h2 | h2
    · exfalso
      rw [topF, if_pos] at hw
      · cases hw
      · rw [← he]
        refine List.mem_of_getElem (i := i) (h := by rw [List.length_take]; omega) ?_
        rw [List.getElem_take]
    · exact h2
  by_cases e : n = i
  · subst e; exact he.symm
  · have h2 := List.pairwise_iff_getElem.1 (sortK_desc c) n i h hi (by omega)
    rw [he] at h2
    exact keyF_inj (c := c) (by omega) (by omega) (by omega)

open Go.Sort in
theorem insInner_congr {α : Type} [Inhabited α] (lt lt' : α → α → Bool) (a : Nat) : ∀ (j : Nat) (d : Array α), j < d.size → (∀ k, k < j → lt d[j]! d[k]! = lt' d[j]! d[k]!) → insInner lt a j d = insInner lt' a j d
  | 0, _, _, _ => rfl
  | j + 1, d, hj, h => by
    unfold insInner
    rw [h j (Nat.lt_succ_self _)]
    have ih := insInner_congr lt lt' a j (swp d (j + 1) j) (by rw [swp_size]; omega) (fun k hk => by
      rw [swp_get d hj (by omega), swp_get d hj (by omega), if_pos rfl, if_neg (by omega), if_neg (by omega)]
      exact h k (by omega))
    rw [ih]
open Go.Sort in
theorem insInner_keeps {α : Type} [Inhabited α] (lt : α → α → Bool) (a : Nat) (p : α → Prop) (i : Nat) : ∀ (j : Nat) (d : Array α), j ≤ i → i < d.size → (∀ k, k ≤ i → p d[k]!) →
    (insInner lt a j d).size = d.size ∧ (∀ k, k ≤ i → p (insInner lt a j d)[k]!) ∧ ∀ k, i < k → (insInner lt a j d)[k]! = d[k]!
  | 0, d, _, _, h => ⟨rfl, h, fun _ _ => rfl⟩
  | j + 1, d, hj, hi, h => by
    unfold insInner
    split
    · obtain ⟨h1, h2, h3⟩ := insInner_keeps lt a p i j (swp d (j + 1) j) (by omega) (by rw [swp_size]; exact hi) (fun k hk => by
        rw [swp_get d (by omega) (by omega)]
        split
        · exact h _ (by omega)
        · split
          · exact h _ (by omega)
          · exact h _ hk)
      refine ⟨by rw [h1, swp_size], h2, fun k hk => ?_⟩
      rw [h3 k hk, swp_get d (by omega) (by omega), if_neg (by omega), if_neg (by omega)]
    · exact ⟨rfl, h, fun _ _ => rfl⟩
/-- Two orders that agree wherever the left one came in later sort alike. -/
theorem insOuter_congr {C : Nat} [Inhabited (Fin C)] (lt lt' : Fin C → Fin C → Bool) (h : ∀ x y : Fin C, y.val < x.val → lt x y = lt' x y) : ∀ (m i : Nat) (d : Array (Fin C)), C - i = m → i ≤ C → d.size = C → (∀ k, k < i → (d[k]!).val < i) → (∀ k, i ≤ k → k < C → (d[k]!).val = k) →
    Go.Sort.insOuter lt 0 C i d = Go.Sort.insOuter lt' 0 C i d
  | 0, i, d, hm, hi, hs, _, _ => by
    rw [Go.Sort.insOuter, if_neg (by omega), Go.Sort.insOuter, if_neg (by omega)]
  | m + 1, i, d, hm, hi, hs, hlo, hhi => by
    have hlt : i < C := by omega
    rw [Go.Sort.insOuter, if_pos hlt]
    conv => rhs; rw [Go.Sort.insOuter, if_pos hlt]
    have e : Go.Sort.insInner lt 0 i d = Go.Sort.insInner lt' 0 i d := insInner_congr lt lt' 0 i d (by omega) fun k hk => h _ _ (by rw [hhi i (Nat.le_refl _) hlt]; exact hlo k hk)
    rw [e]
    obtain ⟨h1, h2, h3⟩ := insInner_keeps lt' 0 (fun x => x.val < i + 1) i i d (Nat.le_refl _) (by omega) (fun k hk => by
      by_cases e : k = i
      · subst e; rw [hhi k (Nat.le_refl _) hlt]; omega
      · have := hlo k (by omega); omega)
    exact insOuter_congr lt lt' h m (i + 1) _ (by omega) (by omega) (by rw [h1]; exact hs) (fun k hk => h2 k (by omega)) (fun k hk1 hk2 => by rw [h3 k (by omega)]; exact hhi k (by omega) hk2)

theorem extract_all {α : Type} (r : Array α) (n : Nat) (h : r.size = n) : r.extract 0 n = r := by subst h; simp
def finsL (C : Nat) : Array (Fin C) := Array.ofFn fun i => i
/-- What the library's stable sort of the columns leaves. -/
theorem insertion_top {c : List Int} [Inhabited (Fin c.length)] (hc : c.length ≤ 8) (lt : Fin c.length → Fin c.length → Bool) (hlt : ∀ x y, lt x y = decide (c.getD y.val 0 < c.getD x.val 0)) :
    (Go.Sort.insertionSort lt (finsL c.length) 0 c.length).toList.map (·.val) = sortK c := by
  have hsz : (finsL c.length).size = c.length := by simp [finsL]
  have hget : ∀ k, k < c.length → ((finsL c.length)[k]!).val = k := fun k hk => by
    rw [getElem!_pos (finsL c.length) k (by rw [hsz]; exact hk)]; simp [finsL]
  let lt' : Fin c.length → Fin c.length → Bool := fun x y => decide (keyF c y.val < keyF c x.val)
  have hcong : Go.Sort.insertionSort lt (finsL c.length) 0 c.length = Go.Sort.insertionSort lt' (finsL c.length) 0 c.length := by
    unfold Go.Sort.insertionSort
    by_cases h0 : c.length = 0
    · rw [Go.Sort.insOuter, if_neg (by omega), Go.Sort.insOuter, if_neg (by omega)]
    · refine insOuter_congr lt lt' (fun x y hxy => ?_) _ 1 _ rfl (by omega) hsz (fun k hk => by rw [hget k (by omega)]; exact hk) (fun k _ hk => hget k hk)
      have hx := x.isLt; have hy := y.isLt
      rw [hlt x y]
      show decide _ = decide (keyF c y.val < keyF c x.val)
      unfold keyF
      by_cases h : c.getD y.val 0 < c.getD x.val 0
      · rw [decide_eq_true h, decide_eq_true (by omega)]
      · rw [decide_eq_false h, decide_eq_false (by omega)]
  rw [hcong]
  have hswo : Go.Sort.SWO lt' := ⟨fun x => by simp [lt'], fun x y z h1 h2 => by simp [lt'] at *; omega, fun x y z h1 h2 => by simp [lt'] at *; omega⟩
  obtain ⟨⟨p1, -, p3⟩, s⟩ := Go.Sort.insertionSort_holds hswo (finsL c.length) 0 c.length (Nat.zero_le _) (by rw [hsz]; exact Nat.le_refl _)
  generalize Go.Sort.insertionSort lt' (finsL c.length) 0 c.length = r at p1 p3 s
  have hr : r.size = c.length := by rw [p1, hsz]
  rw [extract_all r _ hr, extract_all (finsL c.length) _ hsz] at p3
  refine sortK_of hc ?_ ?_
  · have := p3.map (·.val)
    refine this.trans (List.Perm.of_eq ?_)
    apply List.ext_getElem
    · simp [finsL]
    · intro i h1 h2; simp [finsL]
  · refine List.pairwise_map.2 (List.pairwise_iff_getElem.2 fun i j hi hj hij => ?_)
    have hi' : i < r.size := by simpa using hi
    have hj' : j < r.size := by simpa using hj
    have := s i j (Nat.zero_le _) hij (by omega)
    rw [getElem!_pos r i hi', getElem!_pos r j hj'] at this
    simp only [lt', decide_eq_false_iff_not] at this
    simp only [Array.getElem_toList]
    omega
end Go.Proofs.YtcliiefedmiokaaGreat
/-
  A slice of integers appended to a slice that the call owns.
-/
namespace Go.Proofs.YtcliiefedmiokaaGreat
open Go.RowKit

/-- 'append(v, r...)' at a slice of the call's own, r a slice of integers. -/
theorem wpList_appendRow {P : Program} {ops : Array Oper} {rest : List Oper} {o : Oper} {a : Act} {Q : Exit → Act → World → Prop} {W : World} {base n bytes : Nat} {E T : TypeId} {v : Value} {xs : List Value} (d : Tmp) (_hd : o.dst = some d)
    (hown : W.ownsRow base E 1 v n xs) (r : List Int) (g b c : Nat) (z : Value) (hgd : o.guard = none) (s x : Operand)
    (ho : o.op = .call { callee := .builtin .append, args := #[s, x], argTypes := #[T, T] })
    (ht : P.underlying T = some (.slice E)) (hinfo : (P.info? E).map (fun i => (i.zero, i.size, i.bytes)) = some (some z, 1, bytes)) (hz : z.cells.size = 1) (hby : bytes ≤ 32)
    (hs : a.eval s = v) (hx : a.eval x = .slice (some ⟨g, b, none⟩) r.length c) (hr : ∀ j, (h : j < r.length) → W.cell? ⟨g, b + j, none⟩ = some (.int .i64 r[j])) (hn : n + r.length < 4000000) (hbase : base ≤ W.heap.size)
    (h : ∀ v' w', w'.ownsRow base E 1 v' (n + r.length) (xs ++ ints r) → Below base W w' → W.grownBy w' v.ownBlock → wpList P ops Q rest (a.put o.dst v') w') :
    wpList P ops Q (o :: rest) a W := by
  obtain ⟨i0, hi, hz0, hz1, hz2⟩ := info_parts hinfo
  refine wpList_append_own _ hgd s x T ho base E i0 z 1 bytes ht hi hz0 hz1 hz2 hz (by decide) v n xs hs hown ⟨g, b, none⟩ r.length c (ints r) hx (by simp [ints]) (fun j u hu => ?_) (fun u hu => ?_)
    (by unfold maxLen; omega) (by have : (n + r.length) * bytes ≤ 4000000 * 32 := Nat.mul_le_mul (by omega) hby; omega) hbase ?_
  · have hj : j < r.length := by have := (List.getElem?_eq_some_iff.1 hu).1; simpa [ints] using this
    rw [ints_at r j hj, Option.some.injEq] at hu
    subst hu
    rw [addr_add]; exact hr j hj
  · simp only [ints, List.mem_map] at hu
    obtain ⟨q, -, rfl⟩ := hu; rfl
  · intro v' w' hown' hg _
    exact h v' w' hown' ((Below.refl _ _).grown hg hbase (fun k hk => (hown.lt k hk).1)) hg
end Go.Proofs.YtcliiefedmiokaaGreat
/-
  l05Fill of the model.
-/
namespace Go.Proofs.YtcliiefedmiokaaGreat
open Go.RowKit

theorem tabL_self (c : List Int) : tabL c.length (fun x => c.getD x 0) = c := by
  apply List.ext_getElem
  · rw [tabL_len]
  · intro i h1 h2
    rw [tabL_at, List.getD_eq_getElem?_getD, List.getElem?_eq_getElem h2]; rfl
/-- What a row leaves of the column sums. -/
def subL (c row : List Int) : List Int := tabL c.length fun x => c.getD x 0 - row.getD x 0
theorem subL_len (c row : List Int) : (subL c row).length = c.length := tabL_len _ _
theorem tabL_getD {n : Nat} {g : Nat → Int} {x : Nat} (h : x < n) : (tabL n g).getD x 0 = g x := by
  rw [List.getD_eq_getElem?_getD, List.getElem?_eq_getElem (by rw [tabL_len]; exact h), tabL_at]; rfl
theorem subL_top (c : List Int) (n : Nat) : subL c (topRow c n) = tabL c.length fun x => c.getD x 0 - topF c n x :=
  tabL_congr fun i hi => by rw [topRow, tabL_getD hi]
theorem top01 (c : List Int) (n x : Nat) : topF c n x = 0 ∨ topF c n x = 1 := by
  unfold topF
  split
  · exact .inr rfl
  · exact .inl rfl
/-- Numbers that are small enough to be reckoned with. -/
def Mid100 (m : Int) (c : List Int) : Prop := c.length ≤ 5 ∧ ∀ x, x < c.length → -m ≤ c.getD x 0 ∧ c.getD x 0 ≤ 100
/-- The image whose rows are chosen one after the other. -/
def imgL (ch : List Int → List Int → List Int) : List Int → List Int → List (List Int)
  | [], _ => []
  | a :: r, c => ch (a :: r) c :: imgL ch r (subL c (ch (a :: r) c))
def greedyCh (r c : List Int) : List Int := topRow c (r.headD 0).toNat
theorem imgL_len (ch : List Int → List Int → List Int) : ∀ (r c : List Int), (imgL ch r c).length = r.length
  | [], _ => rfl
  | a :: r, c => by rw [imgL, List.length_cons, imgL_len ch r, List.length_cons]
/-- What l05Fill returns. -/
def FillRes (c : List Int) (n : Nat) (w : World) (e : Ending) (w' : World) : Prop :=
  ∃ u v, e = .returned (.tuple #[u, v]) ∧ w'.ownsRow w.heap.size 3 1 u c.length (ints (topRow c n)) ∧ w'.ownsRow w.heap.size 3 1 v c.length (ints (subL c (topRow c n))) ∧ Below w.heap.size w w'
/-- The best of the first x columns that are white yet. -/
def BestOf (c : List Int) (n x : Nat) (b : Int) : Prop :=
  (b = -1 ∧ ∀ t, t < x → topF c n t = 1) ∨ ∃ k : Nat, b = k ∧ k < x ∧ topF c n k = 0 ∧ ∀ t, t < x → topF c n t = 0 → keyF c t ≤ keyF c k
theorem best_skip {c : List Int} {n x : Nat} {b : Int} (h : BestOf c n x b) (hx : topF c n x = 1) : BestOf c n (x + 1) b := by
  rcases h with ⟨h1, h2⟩ | ⟨k, h1, h2, h3, h4⟩
  · refine .inl ⟨h1, fun t ht => ?_⟩
    by_cases e : t = x
    · rw [e]; exact hx
    · exact h2 t (by omega)
  · refine .inr ⟨k, h1, by omega, h3, fun t ht h0 => ?_⟩
    by_cases e : t = x
    · rw [e, hx] at h0; cases h0
    · exact h4 t (by omega) h0
theorem best_first {c : List Int} {n x : Nat} (h : BestOf c n x (-1)) (hx : topF c n x = 0) : BestOf c n (x + 1) x := by
  rcases h with ⟨-, h2⟩ | ⟨k, h1, -⟩
  · refine .inr ⟨x, rfl, Nat.lt_succ_self _, hx, fun t ht h0 => ?_⟩
    by_cases e : t = x
    · rw [e]; exact Int.le_refl _
    · rw [h2 t (by omega)] at h0; cases h0
  · omega
theorem best_take {c : List Int} {n x k : Nat} (h : BestOf c n x k) (hx8 : x < 8) (hx : topF c n x = 0) (hgt : c.getD k 0 < c.getD x 0) : BestOf c n (x + 1) x := by
  rcases h with ⟨h1, -⟩ | ⟨k', h1, h2, h3, h4⟩
  · omega
  · obtain rfl : k = k' := by omega
    refine .inr ⟨x, rfl, Nat.lt_succ_self _, hx, fun t ht h0 => ?_⟩
    by_cases e : t = x
    · rw [e]; exact Int.le_refl _
    · have := h4 t (by omega) h0
      unfold keyF at this ⊢
      omega
theorem best_keep {c : List Int} {n x k : Nat} (h : BestOf c n x k) (hgt : ¬ c.getD k 0 < c.getD x 0) : BestOf c n (x + 1) k := by
  rcases h with ⟨h1, -⟩ | ⟨k', h1, h2, h3, h4⟩
  · omega
  · obtain rfl : k = k' := by omega
    refine .inr ⟨k, rfl, by omega, h3, fun t ht h0 => ?_⟩
    by_cases e : t = x
    · subst e; unfold keyF; omega
    · exact h4 t (by omega) h0
theorem best_end {c : List Int} {n : Nat} {b : Int} (hc : c.length ≤ 8) (hn : n < (sortK c).length) (h : BestOf c n c.length b) : b = ((sortK c)[n] : Nat) := by
  rcases h with ⟨-, h2⟩ | ⟨k, h1, h2, h3, h4⟩
  · have := h2 _ (sortK_mem.1 (List.getElem_mem hn))
    rw [topF_next hn] at this; cases this
  · rw [h1, next_of hc hn h2 h3 fun t ht h0 => h4 t ht h0]
theorem next_ex {c : List Int} {n : Nat} (hc : c.length ≤ 8) (hn : n < (sortK c).length) :
    ∃ b, b < c.length ∧ (∀ t, topF c (n + 1) t = if t = b then 1 else topF c n t) ∧ topF c n b = 0 ∧ ∀ q, BestOf c n c.length q → q = (b : Nat) :=
  ⟨(sortK c)[n], sortK_mem.1 (List.getElem_mem hn), fun t => topF_succ hn t, topF_next hn, fun _ h => best_end hc hn h⟩

end Go.Proofs.YtcliiefedmiokaaGreat
/-
  whiteImage.
-/
namespace Go.Proofs.YtcliiefedmiokaaGreat
open Go.RowKit

def whiteF (r c : Int) (i : Nat) : Int := if r ≤ (i / 5 : Nat) ∨ c ≤ (i % 5 : Nat) then -1 else 0
def upF (F : Nat → Int) (k : Nat) (i : Nat) : Int := if i < k then F i else 0
theorem Tryz.zeroImg (w : World) : (zeroValue 84).run Tryz.prog w = .ok (.agg (vec 25 fun _ => 0)) w := Tryz.zeroValue84 w
theorem Tryz.zeroRow (w : World) : (zeroValue 82).run Tryz.prog w = .ok (.agg (vec 5 fun _ => 0)) w := Tryz.zeroValue82 w
theorem Tryz.sizeImg : (Tryz.prog.info? 84).map (·.size) = some 25 := by kernel_rfl
theorem Tryz.sizeRow : (Tryz.prog.info? 82).map (·.size) = some 5 := by kernel_rfl

theorem upF_zero (F : Nat → Int) : upF F 0 = fun _ => 0 := by funext i; simp [upF]
theorem upF_set (F : Nat → Int) (k : Nat) (v : Int) (h : F k = v) : (fun j => if j = k then v else upF F k j) = upF F (k + 1) := by
  funext j
  simp only [upF]
  by_cases e : j = k
  · subst e; simp [h]
  · rw [if_neg e]
    by_cases hl : j < k
    · rw [if_pos hl, if_pos (by omega)]
    · rw [if_neg hl, if_neg (by omega)]
theorem upF_skip (F : Nat → Int) (k : Nat) (h : F k = 0) : upF F k = upF F (k + 1) := by
  funext j
  simp only [upF]
  by_cases hl : j < k
  · rw [if_pos hl, if_pos (by omega)]
  · by_cases e : j = k
    · subst e; simp [h]
    · rw [if_neg hl, if_neg (by omega)]
theorem upF_all (F : Nat → Int) (n k : Nat) (h : n ≤ k) : ∀ i, i < n → upF F k i = F i := fun i hi => by rw [upF, if_pos (by omega)]
theorem whiteF_at (r c : Int) (y x : Nat) (h : x < 5) : whiteF r c (5 * y + x) = if r ≤ (y : Nat) ∨ c ≤ (x : Nat) then -1 else 0 := by
  rw [whiteF, show (5 * y + x) / 5 = y by omega, show (5 * y + x) % 5 = x by omega]

set_option maxHeartbeats 400000 in
theorem whiteImage_any (r c : Int) (w : World) :
    Calls Tryz.prog 110 #[.int .i64 r, .int .i64 c] w fun e w' => e = .returned (.agg (vec 25 (whiteF r c))) ∧ Below w.heap.size w w' := by
  go_enter Tryz.func110, Tryz.ntmps110
  go_wp2_with (first | (with_reducible refine wpList_allocVec 25 4 rfl rfl rfl Tryz.zeroImg ?_; intro w1 h1 b1 s1) | (with_reducible refine wpList_allocVec 25 5 rfl rfl rfl Tryz.zeroImg ?_; intro w2 h2 b2 s2))
  rw [s1] at h2
  have b1' := b1.trans (b2.mono (by omega))
  have h1 := blk_below h1 b2
  have s2 : w2.heap.size = w.heap.size + 2 := by omega
  clear b1 s1 b2
  go_loopw [8] (fun i w' => ∃ y : Nat, y ≤ 5 ∧ i = .int .i64 y ∧ Blk w' (w.heap.size + 1) 84 25 (upF (whiteF r c) (5 * y)) ∧ Blk w' w.heap.size 84 25 (fun _ => 0) ∧ Below w.heap.size w w') (fun i _ => 5 - (intOf i).toNat)
  case atStart => exact ⟨0, by omega, rfl, by rw [Nat.mul_zero, upF_zero]; exact h2, h1, b1'⟩
  case round =>
    clear h1 h2 b1' s2
    obtain ⟨y, hy, rfl, hp, hr, hb⟩ := hrel
    by_cases hlt : y < 5
    · have hyI : (y : Int) < 5 := by omega
      go_wp2
      go_loopw [11] (fun i w' => ∃ x : Nat, x ≤ 5 ∧ i = .int .i64 x ∧ Blk w' (w.heap.size + 1) 84 25 (upF (whiteF r c) (5 * y + x)) ∧ Blk w' w.heap.size 84 25 (fun _ => 0) ∧ Below w.heap.size w w') (fun i _ => 5 - (intOf i).toNat)
      case atStart => exact ⟨0, by omega, rfl, hp, hr, hb⟩
      case round =>
        clear hp hr hb
        obtain ⟨x, hx, rfl, hp, hr, hb⟩ := hrel
        by_cases hlx : x < 5
        · by_cases hc : r ≤ (y : Int) ∨ c ≤ (x : Int)
          · have HS := hide (upF_set (whiteF r c) (5 * y + x) (-1) (by rw [whiteF_at r c y x hlx, if_pos hc]))
            have hcl := blk_cell hp (5 * y + x) (by omega)
            have hfr := blk_frozen hp (5 * y + x)
            have HA : Hid (0 + y * 5 + x * 1 = 5 * y + x) := hide (by omega)
            by_cases h1 : r ≤ (y : Int)
            all_goals
              try have h2 : c ≤ (x : Int) := by omega
              clear hc
              go_wp2_with (first | (with_reducible refine wpList_indexAt y 24 rfl rfl _ _ rfl rfl rfl Tryz.underlying84 Tryz.sizeOf82 hlt ?_) | (with_reducible refine wpList_indexAt x 25 rfl rfl _ _ rfl rfl rfl Tryz.underlying82 Tryz.sizeOf3 hlx ?_; rw [HA.out]))
              go_roundw
              case rel => exact ⟨x + 1, by omega, by go_num, by have := blk_set hp (5 * y + x) (-1); rw [HS.out] at this; exact this, blk_other hr _ _ (by simp), hb.setCell (by simp) _⟩
              case measure => simp [intOf]; omega
          · have h1 : (y : Int) < r := by omega
            have h2 : (x : Int) < c := by omega
            have HS := hide (upF_skip (whiteF r c) (5 * y + x) (by rw [whiteF_at r c y x hlx, if_neg hc]))
            clear hc
            go_wp2
            go_roundw
            case rel => exact ⟨x + 1, by omega, by go_num, by rw [HS.out] at hp; exact hp, hr, hb⟩
            case measure => simp [intOf]; omega
        · obtain rfl : x = 5 := by omega
          go_wp2
          go_roundw
          case rel => exact ⟨y + 1, by omega, by go_num, by rw [show 5 * (y + 1) = 5 * y + 5 by omega]; exact hp, hr, hb⟩
          case measure => simp [intOf]; omega
    · obtain rfl : y = 5 := by omega
      have hp := blk_congr hp (upF_all (whiteF r c) 25 (5 * 5) (by omega))
      go_wp2_with (first | (with_reducible refine wpList_loadVec hp 28 rfl rfl _ rfl rfl Tryz.underlying84 Tryz.sizeImg ?_) | (with_reducible refine wpList_storeVec hr rfl (.tmp 4) (.tmp 28) rfl rfl rfl Tryz.sizeImg ?_; intro w4 h4 g4 s4))
      refine bodyPost_ret (results_cell_row rfl _ _ w.heap.size 84 _ (0, 0) _ rfl h4 Tryz.underlying84 rfl (by rw [vec_size]; exact Tryz.sizeImg)) rfl ⟨rfl, ?_⟩
      exact hb.trans (grown_below g4 (fun k hk => by cases hk; exact Nat.le_refl _) hb.size)
end Go.Proofs.YtcliiefedmiokaaGreat
