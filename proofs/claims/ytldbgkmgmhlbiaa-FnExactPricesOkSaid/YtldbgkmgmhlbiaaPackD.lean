/-
  Texts of this claim, one behind the other: Mask.
-/
import Derived.Test.YtldbgkmgmhlbiaaRows
/-
  Sums over ranges, and the theorem on 0-1 matrices with given sums between two bounds.
-/
namespace Go.Proofs.Ytldbgkmgmhlbiaa.Mx

/-- The sum of f 0, .., f (n - 1). -/
def S : Nat → (Nat → Int) → Int
  | 0, _ => 0
  | n + 1, f => S n f + f n
theorem S_congr {f g : Nat → Int} : ∀ n, (∀ i, i < n → f i = g i) → S n f = S n g
  | 0, _ => rfl
  | n + 1, h => by rw [S, S, S_congr n (fun i hi => h i (by omega)), h n (by omega)]
theorem S_le {f g : Nat → Int} : ∀ n, (∀ i, i < n → f i ≤ g i) → S n f ≤ S n g
  | 0, _ => Int.le_refl _
  | n + 1, h => by
    have := S_le n (fun i hi => h i (by omega))
    have := h n (by omega)
    rw [S, S]; omega
theorem S_add (f g : Nat → Int) : ∀ n, S n (fun i => f i + g i) = S n f + S n g
  | 0 => rfl
  | n + 1 => by rw [S, S, S, S_add f g n]; omega
theorem S_sub (f g : Nat → Int) : ∀ n, S n (fun i => f i - g i) = S n f - S n g
  | 0 => rfl
  | n + 1 => by rw [S, S, S, S_sub f g n]; omega
theorem S_zero : ∀ n, S n (fun _ => 0) = 0
  | 0 => rfl
  | n + 1 => by rw [S, S_zero n]; rfl
theorem S_one {f : Nat → Int} {k : Nat} : ∀ n, k < n → (∀ i, i < n → i ≠ k → f i = 0) → S n f = f k
  | 0, h, _ => absurd h (Nat.not_lt_zero _)
  | n + 1, h, h0 => by
    rw [S]
    by_cases e : k = n
    · subst e
      rw [S_congr k (g := fun _ => 0) (fun i hi => h0 i (by omega) (by omega)), S_zero]; omega
    · rw [S_one n (by omega) (fun i hi => h0 i (by omega)), h0 n (by omega) (Ne.symm e)]; omega
theorem S_pick {k n : Nat} (h : k < n) (v : Int) : S n (fun i => if i = k then v else 0) = v := by
  rw [S_one n h (fun i _ hne => by rw [if_neg hne]), if_pos rfl]
theorem S_swap (f : Nat → Nat → Int) (m : Nat) : ∀ n, S n (fun i => S m fun j => f i j) = S m fun j => S n fun i => f i j
  | 0 => by rw [S, S_congr m (f := fun j => S 0 fun i => f i j) (g := fun _ => 0) (fun j _ => rfl), S_zero]
  | n + 1 => by rw [S, S_swap f m n, ← S_add]; rfl
theorem S_nonneg {f : Nat → Int} (n : Nat) (h : ∀ i, i < n → 0 ≤ f i) : 0 ≤ S n f := by
  have := S_le (f := fun _ => 0) (g := f) n h
  rwa [S_zero] at this
/-- The numbers x at which p holds. -/
def on (p : Nat → Bool) (f : Nat → Int) (i : Nat) : Int := if p i then f i else 0

/-- What a cell gives to the rows of L (a: its row is one) from outside the columns of O (d: its column is one), less what it must give away. -/
def kc (a d : Bool) (h l : Int) : Int := (if a && !d then h else 0) - if !a && d then l else 0
/-- What the rows of L and the columns of O ask for beyond what the cells can give. -/
def over (R C : Nat) (r c : Nat → Int) (lo hi : Nat → Nat → Int) (L O : Nat → Bool) : Int :=
  S R (on L r) - S C (on O c) - S R (fun y => S C fun x => kc (L y) (O x) (hi y x) (lo y x))
theorem ite_or (a b : Bool) (v : Int) : (if a then v else 0) + (if b then v else 0) = (if (a || b) then v else 0) + (if (a && b) then v else 0) := by cases a <;> cases b <;> simp
theorem kc_or (a b d e : Bool) (h l q : Int) (hle : l ≤ h) (hq : q ≤ if (a && !d) && (!b && e) then h - l else 0) : kc (a || b) (d || e) h l + kc (a && b) (d && e) h l + q ≤ kc a d h l + kc b e h l := by
  unfold kc
  cases a <;> cases b <;> cases d <;> cases e <;> simp at hq ⊢ <;> omega
def orB (p q : Nat → Bool) (i : Nat) : Bool := p i || q i
def andB (p q : Nat → Bool) (i : Nat) : Bool := p i && q i
theorem over_sum {R C : Nat} {r c : Nat → Int} {lo hi : Nat → Nat → Int} (h : ∀ y x, y < R → x < C → lo y x ≤ hi y x) (L O L' O' : Nat → Bool) (q : Nat → Nat → Int)
    (hq : ∀ y x, y < R → x < C → q y x ≤ (if (L y && !O x) && (!L' y && O' x) then hi y x - lo y x else 0)) :
    over R C r c lo hi L O + over R C r c lo hi L' O' + S R (fun y => S C fun x => q y x) ≤ over R C r c lo hi (orB L L') (orB O O') + over R C r c lo hi (andB L L') (andB O O') := by
  have hr : S R (on L r) + S R (on L' r) = S R (on (orB L L') r) + S R (on (andB L L') r) := by
    rw [← S_add, ← S_add]
    exact S_congr R fun y _ => ite_or (L y) (L' y) (r y)
  have hc : S C (on O c) + S C (on O' c) = S C (on (orB O O') c) + S C (on (andB O O') c) := by
    rw [← S_add, ← S_add]
    exact S_congr C fun x _ => ite_or (O x) (O' x) (c x)
  have hk : S R (fun y => S C fun x => kc (orB L L' y) (orB O O' x) (hi y x) (lo y x)) + S R (fun y => S C fun x => kc (andB L L' y) (andB O O' x) (hi y x) (lo y x)) + S R (fun y => S C fun x => q y x) ≤
      S R (fun y => S C fun x => kc (L y) (O x) (hi y x) (lo y x)) + S R (fun y => S C fun x => kc (L' y) (O' x) (hi y x) (lo y x)) := by
    rw [← S_add, ← S_add, ← S_add]
    refine S_le R fun y hy => ?_
    rw [← S_add, ← S_add, ← S_add]
    exact S_le C fun x hx => kc_or _ _ _ _ _ _ _ (h y x hy hx) (hq y x hy hx)
  unfold over
  omega

/-- The number of cells that are free. -/
def free (R C : Nat) (lo hi : Nat → Nat → Int) : Nat := (S R fun y => S C fun x => hi y x - lo y x).toNat
def put (m : Nat → Nat → Int) (y x : Nat) (v : Int) (a b : Nat) : Int := if a = y ∧ b = x then v else m a b
/-- Between the bounds lies a matrix with these sums, where no rows and columns ask for too much. -/
theorem exists_between (R C : Nat) (r c : Nat → Int) (ht : S R r = S C c) : ∀ (n : Nat) (lo hi : Nat → Nat → Int), free R C lo hi ≤ n → (∀ y x, y < R → x < C → (lo y x = 0 ∨ lo y x = 1) ∧ (hi y x = 0 ∨ hi y x = 1) ∧ lo y x ≤ hi y x) →
    (∀ L O, over R C r c lo hi L O ≤ 0) → ∃ m : Nat → Nat → Int, (∀ y x, y < R → x < C → lo y x ≤ m y x ∧ m y x ≤ hi y x) ∧ (∀ y, y < R → S C (m y) = r y) ∧ ∀ x, x < C → S R (fun y => m y x) = c x := by
  intro n
  induction n with
  | zero =>
    intro lo hi hf hb hov
    have heq : ∀ y x, y < R → x < C → lo y x = hi y x := by
      intro y x hy hx
      have h0 : (S R fun y => S C fun x => hi y x - lo y x) ≤ 0 := by unfold free at hf; omega
      have h1 : ∀ y, y < R → 0 ≤ S C (fun x => hi y x - lo y x) := fun y hy => S_nonneg C fun x hx => by have := (hb y x hy hx).2.2; omega
      have hrow : S C (fun x => hi y x - lo y x) ≤ 0 := by
        have h2 := S_le (f := fun i => if i = y then S C (fun x => hi y x - lo y x) else 0) (g := fun y => S C fun x => hi y x - lo y x) R (fun i hi' => by
          by_cases e : i = y
          · subst e; simp
          · rw [if_neg e]; exact h1 i hi')
        rw [S_pick hy] at h2
        omega
      have h2 := S_le (f := fun i => if i = x then hi y x - lo y x else 0) (g := fun x => hi y x - lo y x) C (fun i hi' => by
        by_cases e : i = x
        · subst e; simp
        · rw [if_neg e]; have := (hb y i hy hi').2.2; omega)
      rw [S_pick hx] at h2
      have := (hb y x hy hx).2.2
      omega
    refine ⟨lo, fun y x hy hx => ⟨Int.le_refl _, by rw [heq y x hy hx]; exact Int.le_refl _⟩, fun y hy => ?_, fun x hx => ?_⟩
    · have a := hov (fun i => i == y) (fun _ => false)
      have b := hov (fun i => i != y) (fun _ => true)
      unfold over at a b
      simp only [] at a b
      have a1 : S R (on (fun i => i == y) r) = r y := by
        rw [S_one R hy (fun i _ hne => by simp [on, hne])]; simp [on]
      have a2 : S C (on (fun _ => false) c) = 0 := by rw [S_congr C (g := fun _ => 0) (fun i _ => by simp [on]), S_zero]
      have a3 : S R (fun i => S C fun x => kc (i == y) false (hi i x) (lo i x)) = S C (lo y) := by
        rw [S_one R hy (fun i _ hne => by rw [S_congr C (g := fun _ => 0) (fun j _ => by simp [kc, hne]), S_zero])]
        exact S_congr C fun j hj => by simp [kc, heq y j hy hj]
      have b1 : S R (on (fun i => i != y) r) = S R r - r y := by
        rw [S_congr R (g := fun i => r i - (if i = y then r y else 0)) (fun i _ => by
          unfold on
          by_cases e : i = y
          · subst e; simp
          · simp [e]), S_sub, S_pick hy]
      have b2 : S C (on (fun _ => true) c) = S C c := S_congr C fun i _ => by simp [on]
      have b3 : S R (fun i => S C fun x => kc (i != y) true (hi i x) (lo i x)) = - S C (lo y) := by
        rw [S_one R hy (fun i _ hne => by rw [S_congr C (g := fun _ => 0) (fun j _ => by simp [kc, hne]), S_zero])]
        rw [S_congr C (g := fun x => 0 - lo y x) (fun j _ => by simp [kc]), S_sub, S_zero]; omega
      rw [a1, a2, a3] at a
      rw [b1, b2, b3] at b
      omega
    · have a := hov (fun _ => true) (fun i => i != x)
      have b := hov (fun _ => false) (fun i => i == x)
      unfold over at a b
      simp only [] at a b
      have a1 : S R (on (fun _ => true) r) = S R r := S_congr R fun i _ => by simp [on]
      have a2 : S C (on (fun i => i != x) c) = S C c - c x := by
        rw [S_congr C (g := fun i => c i - (if i = x then c x else 0)) (fun i _ => by
          unfold on
          by_cases e : i = x
          · subst e; simp
          · simp [e]), S_sub, S_pick hx]
      have a3 : S R (fun y => S C fun i => kc true (i != x) (hi y i) (lo y i)) = S R (fun y => lo y x) := S_congr R fun y hy => by
        rw [S_one C hx (fun i _ hne => by simp [kc, hne])]
        simp [kc, heq y x hy hx]
      have b1 : S R (on (fun _ => false) r) = 0 := by rw [S_congr R (g := fun _ => 0) (fun i _ => by simp [on]), S_zero]
      have b2 : S C (on (fun i => i == x) c) = c x := by
        rw [S_one C hx (fun i _ hne => by simp [on, hne])]; simp [on]
      have b3 : S R (fun y => S C fun i => kc false (i == x) (hi y i) (lo y i)) = - S R (fun y => lo y x) := by
        rw [S_congr R (g := fun y => 0 - lo y x) (fun y _ => by
          rw [S_one C hx (fun i _ hne => by simp [kc, hne])]
          simp [kc]), S_sub, S_zero]; omega
      rw [a1, a2, a3] at a
      rw [b1, b2, b3] at b
      omega
  | succ n ih =>
    intro lo hi hf hb hov
    by_cases hex : ∃ y x, y < R ∧ x < C ∧ lo y x = 0 ∧ hi y x = 1
    · obtain ⟨y, x, hy, hx, hl, hh⟩ := hex
      have hsum : ∀ (m m' : Nat → Nat → Int) (d : Int), (∀ a b, a < R → b < C → m' a b = m a b + if a = y ∧ b = x then d else 0) → S R (fun a => S C fun b => m' a b) = S R (fun a => S C fun b => m a b) + d := by
        intro m m' d h
        have e1 : ∀ a, a < R → S C (fun b => m' a b) = S C (fun b => m a b) + if a = y then d else 0 := by
          intro a ha
          rw [S_congr C (fun b hb' => h a b ha hb'), S_add]
          congr 1
          by_cases e : a = y
          · subst e
            rw [if_pos rfl, S_one C hx (fun i _ hne => by simp [hne])]; simp
          · rw [if_neg e, S_congr C (g := fun _ => 0) (fun i _ => by simp [e]), S_zero]
        rw [S_congr R e1, S_add, S_pick hy]
      have hfr : (S R fun a => S C fun b => hi a b - lo a b) = (free R C lo hi : Nat) := by
        unfold free
        have := S_nonneg R (f := fun a => S C fun b => hi a b - lo a b) fun a ha => S_nonneg C fun b hb' => by have := (hb a b ha hb').2.2; omega
        omega
      have hpos : 1 ≤ free R C lo hi := by
        have h1 : ∀ a, a < R → 0 ≤ S C (fun b => hi a b - lo a b) := fun a ha => S_nonneg C fun b hb' => by have := (hb a b ha hb').2.2; omega
        have h2 := S_le (f := fun i => if i = y then S C (fun b => hi y b - lo y b) else 0) (g := fun a => S C fun b => hi a b - lo a b) R (fun i hi' => by
          by_cases e : i = y
          · subst e; simp
          · rw [if_neg e]; exact h1 i hi')
        rw [S_pick hy] at h2
        have h3 := S_le (f := fun i => if i = x then hi y x - lo y x else 0) (g := fun b => hi y b - lo y b) C (fun i hi' => by
          by_cases e : i = x
          · subst e; simp
          · rw [if_neg e]; have := (hb y i hy hi').2.2; omega)
        rw [S_pick hx] at h3
        simp [hl, hh] at h2 h3
        omega
      -- the cell white
      by_cases h0 : ∀ L O, over R C r c lo (put hi y x 0) L O ≤ 0
      · have hfree : free R C lo (put hi y x 0) ≤ n := by
          unfold free
          rw [hsum (fun a b => hi a b - lo a b) (fun a b => put hi y x 0 a b - lo a b) (-1) (fun a b _ _ => by
            unfold put
            by_cases e : a = y ∧ b = x
            · obtain ⟨rfl, rfl⟩ := e; simp [hh]; omega
            · simp [e])]
          rw [hfr]; omega
        obtain ⟨m, hm1, hm2, hm3⟩ := ih lo (put hi y x 0) hfree (fun a b ha hb' => by
          have := hb a b ha hb'
          unfold put
          by_cases e : a = y ∧ b = x
          · obtain ⟨rfl, rfl⟩ := e; simp [hl]
          · simp [e]; exact this) h0
        refine ⟨m, fun a b ha hb' => ?_, hm2, hm3⟩
        have := hm1 a b ha hb'
        refine ⟨this.1, ?_⟩
        by_cases e : a = y ∧ b = x
        · obtain ⟨rfl, rfl⟩ := e; simp [put] at this; omega
        · simp [put, e] at this; omega
      · by_cases h1 : ∀ L O, over R C r c (put lo y x 1) hi L O ≤ 0
        · have hfree : free R C (put lo y x 1) hi ≤ n := by
            unfold free
            rw [hsum (fun a b => hi a b - lo a b) (fun a b => hi a b - put lo y x 1 a b) (-1) (fun a b _ _ => by
              unfold put
              by_cases e : a = y ∧ b = x
              · obtain ⟨rfl, rfl⟩ := e; simp [hl]; omega
              · simp [e])]
            rw [hfr]; omega
          obtain ⟨m, hm1, hm2, hm3⟩ := ih (put lo y x 1) hi hfree (fun a b ha hb' => by
            have := hb a b ha hb'
            unfold put
            by_cases e : a = y ∧ b = x
            · obtain ⟨rfl, rfl⟩ := e; simp [hh]
            · simp [e]; exact this) h1
          refine ⟨m, fun a b ha hb' => ?_, hm2, hm3⟩
          have := hm1 a b ha hb'
          refine ⟨?_, this.2⟩
          by_cases e : a = y ∧ b = x
          · obtain ⟨rfl, rfl⟩ := e; simp [put] at this; omega
          · simp [put, e] at this; omega
        · exfalso
          simp only [Classical.not_forall] at h0 h1
          obtain ⟨L, O, h0⟩ := h0
          obtain ⟨L', O', h1⟩ := h1
          have e0 : over R C r c lo (put hi y x 0) L O = over R C r c lo hi L O + if L y && !O x then 1 else 0 := by
            unfold over
            rw [hsum (fun a b => kc (L a) (O b) (hi a b) (lo a b)) (fun a b => kc (L a) (O b) (put hi y x 0 a b) (lo a b)) (-(if L y && !O x then 1 else 0)) (fun a b _ _ => by
              unfold put kc
              by_cases e : a = y ∧ b = x
              · rw [if_pos e, if_pos e]
                obtain ⟨rfl, rfl⟩ := e
                rw [hh]
                cases L a <;> cases O b <;> simp
              · rw [if_neg e, if_neg e]; simp)]
            omega
          have e1 : over R C r c (put lo y x 1) hi L' O' = over R C r c lo hi L' O' + if !L' y && O' x then 1 else 0 := by
            unfold over
            rw [hsum (fun a b => kc (L' a) (O' b) (hi a b) (lo a b)) (fun a b => kc (L' a) (O' b) (hi a b) (put lo y x 1 a b)) (-(if !L' y && O' x then 1 else 0)) (fun a b _ _ => by
              unfold put kc
              by_cases e : a = y ∧ b = x
              · rw [if_pos e, if_pos e]
                obtain ⟨rfl, rfl⟩ := e
                rw [hl]
                cases L' a <;> cases O' b <;> simp
              · rw [if_neg e, if_neg e]; simp)]
            omega
          have a0 := hov L O
          have a1 := hov L' O'
          have hL : (L y && !O x) = true := by
            cases h : L y && !O x with
            | true => rfl
            | false => rw [e0, h] at h0; simp at h0; omega
          have hL' : (!L' y && O' x) = true := by
            cases h : !L' y && O' x with
            | true => rfl
            | false => rw [e1, h] at h1; simp at h1; omega
          rw [e0, hL] at h0
          rw [e1, hL'] at h1
          have hs := over_sum (r := r) (c := c) (lo := lo) (hi := hi) (R := R) (C := C) (fun a b ha hb' => (hb a b ha hb').2.2) L O L' O' (fun a b => if a = y ∧ b = x then 1 else 0) (fun a b ha hb' => by
            by_cases e : a = y ∧ b = x
            · obtain ⟨rfl, rfl⟩ := e
              rw [hL, hL']; simp [hl, hh]
            · rw [if_neg e]
              have := (hb a b ha hb').2.2
              split <;> omega)
          have hq : S R (fun a => S C fun b => if a = y ∧ b = x then (1 : Int) else 0) = 1 := by
            have := hsum (fun _ _ => 0) (fun a b => if a = y ∧ b = x then 1 else 0) 1 (fun a b _ _ => by omega)
            rw [this, S_congr R (g := fun _ => 0) (fun a _ => S_zero C), S_zero]; rfl
          rw [hq] at hs
          have b0 := hov (orB L L') (orB O O')
          have b1 := hov (andB L L') (andB O O')
          simp at h0 h1
          omega
    · refine ih lo hi ?_ hb hov
      have hz : ∀ y x, y < R → x < C → hi y x - lo y x = 0 := fun y x hy hx => by
        have := hb y x hy hx
        rcases this.1 with e | e <;> rcases this.2.1 with e' | e'
        · omega
        · exact absurd ⟨y, x, hy, hx, e, e'⟩ hex
        · omega
        · omega
      unfold free
      rw [S_congr R (g := fun _ => 0) (fun y hy => by rw [S_congr C (g := fun _ => 0) (fun x hx => hz y x hy hx), S_zero]), S_zero]
      exact Nat.zero_le _
end Go.Proofs.Ytldbgkmgmhlbiaa.Mx
