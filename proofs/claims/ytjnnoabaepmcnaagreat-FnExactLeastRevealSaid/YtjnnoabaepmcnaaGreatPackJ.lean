/-
  Texts of this claim, one behind the other: Gale, Dfs, ShSl, Lists, Arr2, Arr3, Arr4, Impl, ExistS.
-/
import Derived.Test.YtjnnoabaepmcnaaGreatPackB
import Derived.Test.YtjnnoabaepmcnaaGreatPackD
import Derived.Test.YtjnnoabaepmcnaaGreatPackI
import Derived.Shelf.Slices.Clone
import Derived.Ground.Names2Prog
import Derived.Test.YtjnnoabaepmcnaaGreatProg
/-
  Gale and Ryser: the inequalities hold exactly if there is an image.
-/
namespace Go.Proofs.YtjnnoabaepmcnaaGreat
open Go.RowKit Mx

theorem S_cons (f : Nat → Int) : ∀ n, S (n + 1) f = f 0 + S n fun i => f (i + 1)
  | 0 => by rw [S, S, S]; omega
  | n + 1 => by rw [S, S_cons f n, S]; omega
theorem sum_S (l : List Int) : l.sum = S l.length fun i => l.getD i 0 := by
  induction l with
  | nil => rfl
  | cons x l ih => rw [List.sum_cons, ih, List.length_cons, S_cons]; simp
theorem map_S (h : Int → Int) (l : List Int) : (l.map h).sum = S l.length fun i => h (l.getD i 0) := by
  rw [sum_S, List.length_map]
  refine S_congr _ fun i hi => ?_
  simp [List.getD_eq_getElem?_getD, hi]
theorem perm_sum {a b : List Int} (h : a.Perm b) : a.sum = b.sum := by
  induction h with
  | nil => rfl
  | cons x _ ih => rw [List.sum_cons, List.sum_cons, ih]
  | swap x y l => rw [List.sum_cons, List.sum_cons, List.sum_cons, List.sum_cons]; omega
  | trans _ _ h1 h2 => rw [h1, h2]

/-- What of x is above v. -/
def upG (v x : Int) : Int := if v ≤ x then x - v else 0
theorem upP_all (v : Int) : ∀ (l : List Int), (∀ x ∈ l, v ≤ x) → (l.map (upG v)).sum = l.sum - l.length * v
  | [], _ => by simp
  | x :: l, h => by
    rw [List.map_cons, List.sum_cons, List.sum_cons, upP_all v l (fun y hy => h y (List.mem_cons_of_mem _ hy)), upG, if_pos (h x List.mem_cons_self), List.length_cons]
    have : (((l.length + 1 : Nat) : Int)) * v = l.length * v + v := by rw [show (((l.length + 1 : Nat) : Int)) = (l.length : Int) + 1 by omega, Int.add_mul, Int.one_mul]
    omega
theorem upP_none (v : Int) : ∀ (l : List Int), (∀ x ∈ l, x ≤ v) → (l.map (upG v)).sum = 0
  | [], _ => rfl
  | x :: l, h => by
    rw [List.map_cons, List.sum_cons, upP_none v l (fun y hy => h y (List.mem_cons_of_mem _ hy)), upG]
    have := h x List.mem_cons_self
    split <;> omega
/-- No k columns have more than the k greatest. -/
theorem top_most (c : List Int) (T : Nat → Bool) (k : Nat) (hk : (k : Int) = S c.length (on T fun _ => 1)) (hk1 : 1 ≤ k) (hkC : k ≤ c.length) : S c.length (on T fun x => c.getD x 0) ≤ ((sortD c).take k).sum := by
  have hl := sortD_len c
  have hlt : k - 1 < (sortD c).length := by omega
  obtain ⟨v, hv⟩ : ∃ v, v = (sortD c)[k - 1] := ⟨_, rfl⟩
  have hd := List.pairwise_iff_getElem.1 (sortD_desc c)
  have h1 : ((sortD c).take k).sum = k * v + ((sortD c).map (upG v)).sum := by
    rw [← List.take_append_drop k (sortD c), List.map_append, List.sum_append, upP_all v ((sortD c).take k), upP_none v ((sortD c).drop k)]
    · have : ((sortD c).take k).length = k := by rw [List.length_take]; omega
      rw [this, List.take_append_of_le_length (by omega), List.take_of_length_le (by omega)]; omega
    · intro x hx
      obtain ⟨i, hi, rfl⟩ := List.getElem_of_mem hx
      rw [List.length_drop] at hi
      rw [List.getElem_drop, hv]
      exact hd (k - 1) (k + i) hlt (by omega) (by omega)
    · intro x hx
      obtain ⟨i, hi, rfl⟩ := List.getElem_of_mem hx
      rw [List.length_take] at hi
      rw [List.getElem_take, hv]
      by_cases e : i = k - 1
      · subst e; exact Int.le_refl _
      · exact hd i (k - 1) (by omega) hlt (by omega)
  rw [h1, perm_sum ((sortD_perm c).map (upG v)), map_S, hk]
  have h2 : S c.length (on T fun _ => 1) * v = S c.length (on T fun _ => v) := by
    clear h1 hk hv hlt hkC
    generalize c.length = n
    induction n with
    | zero => rw [S, S, Int.zero_mul]
    | succ n ih =>
      rw [S, S, Int.add_mul, ih]
      congr 1
      unfold on
      split <;> simp
  rw [h2, ← S_add]
  refine S_le _ fun x _ => ?_
  dsimp only [on, upG]
  split <;> split <;> omega

/-- The sum of the elements that are marked. -/
def msum : List Bool → List Int → Int
  | b :: bs, x :: l => (if b then x else 0) + msum bs l
  | _, _ => 0
def mcnt : List Bool → Int
  | [] => 0
  | b :: bs => (if b then 1 else 0) + mcnt bs
theorem marks_perm {a b : List Int} (h : a.Perm b) : ∀ bs : List Bool, bs.length = a.length → ∃ bs' : List Bool, bs'.length = b.length ∧ msum bs' b = msum bs a ∧ mcnt bs' = mcnt bs := by
  induction h with
  | nil => intro bs h; exact ⟨bs, h, rfl, rfl⟩
  | cons x _ ih =>
    intro bs h
    cases bs with
    | nil => simp at h
    | cons y bs =>
      obtain ⟨bs', h1, h2, h3⟩ := ih bs (by simpa using h)
      exact ⟨y :: bs', by simpa using h1, by rw [msum, msum, h2], by rw [mcnt, mcnt, h3]⟩
  | swap x y l =>
    intro bs h
    match bs, h with
    | p :: q :: bs, h => exact ⟨q :: p :: bs, by simpa using h, by simp only [msum]; omega, by simp only [mcnt]; omega⟩
  | trans _ _ h1 h2 =>
    intro bs h
    obtain ⟨b1, a1, a2, a3⟩ := h1 bs h
    obtain ⟨b2, c1, c2, c3⟩ := h2 b1 a1
    exact ⟨b2, c1, c2.trans a2, c3.trans a3⟩
theorem marks_take : ∀ (l : List Int) (k : Nat), k ≤ l.length → ∃ bs : List Bool, bs.length = l.length ∧ msum bs l = (l.take k).sum ∧ mcnt bs = k
  | [], k, h => ⟨[], rfl, by simp [msum], by simp at h; subst h; rfl⟩
  | x :: l, 0, _ => by
    obtain ⟨bs, h1, h2, h3⟩ := marks_take l 0 (Nat.zero_le _)
    exact ⟨false :: bs, by simpa using h1, by simp [msum]; simpa using h2, by simp [mcnt]; simpa using h3⟩
  | x :: l, k + 1, h => by
    obtain ⟨bs, h1, h2, h3⟩ := marks_take l k (by simpa using h)
    exact ⟨true :: bs, by simpa using h1, by simp [msum, h2], by simp [mcnt, h3]; omega⟩
theorem msum_S : ∀ (bs : List Bool) (l : List Int), bs.length = l.length → msum bs l = S l.length (on (fun x => bs.getD x false) fun x => l.getD x 0)
  | [], [], _ => rfl
  | [], _ :: _, h => by simp at h
  | _ :: _, [], h => by simp at h
  | b :: bs, x :: l, h => by
    rw [msum, msum_S bs l (by simpa using h), List.length_cons, S_cons]
    rfl
theorem mcnt_S : ∀ (bs : List Bool), mcnt bs = S bs.length (on (fun x => bs.getD x false) fun _ => 1)
  | [] => rfl
  | b :: bs => by
    rw [mcnt, mcnt_S bs, List.length_cons, S_cons]
    rfl
/-- Some k columns have as much as the k greatest. -/
theorem top_some (c : List Int) (k : Nat) (hk : k ≤ c.length) : ∃ T : Nat → Bool, S c.length (on T fun _ => 1) = k ∧ S c.length (on T fun x => c.getD x 0) = ((sortD c).take k).sum := by
  obtain ⟨bs, h1, h2, h3⟩ := marks_take (sortD c) k (by rw [sortD_len]; exact hk)
  obtain ⟨bs', g1, g2, g3⟩ := marks_perm (sortD_perm c) bs h1
  exact ⟨fun x => bs'.getD x false, by rw [← g1, ← mcnt_S, g3, h3], by rw [← msum_S _ _ g1, g2, h2]⟩

/-- m is an image with these sums. -/
structure ImgF (r c : List Int) (m : Nat → Nat → Int) : Prop where
  cell : ∀ y x, y < r.length → x < c.length → m y x = 0 ∨ m y x = 1
  row : ∀ y, y < r.length → S c.length (m y) = r.getD y 0
  col : ∀ x, x < c.length → S r.length (fun y => m y x) = c.getD x 0
def HasImg (r c : List Int) : Prop := ∃ m, ImgF r c m

theorem firstB_none : ∀ (l : List (Int × Int)) (k : Int), 0 ≤ k → (firstB l k = -1 ↔ ∀ b ∈ l, b.1 ≤ b.2)
  | [], _, _ => by simp [firstB]
  | b :: l, k, h => by
    rw [firstB]
    by_cases e : b.2 - b.1 < 0
    · rw [if_pos e]
      constructor
      · intro h'; omega
      · intro h'; have := h' b List.mem_cons_self; omega
    · rw [if_neg e, firstB_none l (k + 1) (by omega)]
      constructor
      · intro h' x hx
        rcases List.mem_cons.1 hx with rfl | hx
        · omega
        · exact h' x hx
      · intro h' x hx; exact h' x (List.mem_cons_of_mem _ hx)
theorem boundsL_at {r c : List Int} {i : Nat} (h : i < (boundsL r c).length) : (boundsL r c)[i] = (((sortD c).take (i + 1)).sum, ((conjL r c.length).take (i + 1)).sum) := tabB_at h
theorem existsOf_iff (r c : List Int) : existsOf r c = true ↔ sumsOk r c = true ∧ ∀ k, 1 ≤ k → k ≤ c.length → ((sortD c).take k).sum ≤ S r.length fun y => min (r.getD y 0) k := by
  unfold existsOf worstOf
  rw [Bool.and_eq_true, decide_eq_true_eq]
  refine and_congr_right fun hs => ?_
  rw [if_pos hs]
  obtain ⟨-, -, hrb, -, -⟩ := sumsOk_yes hs
  have hr : ∀ x ∈ r, 0 ≤ x := fun x hx => by
    rw [List.any_eq_false] at hrb
    have := hrb x hx
    simp only [badB, Bool.or_eq_true, decide_eq_true_eq, not_or] at this
    omega
  have hm : ∀ k, k ≤ c.length → ((conjL r c.length).take k).sum = S r.length fun y => min (r.getD y 0) k := fun k hk => by
    rw [← most_sum hr k hk, map_S]
  rw [show (firstB (boundsL r c) 0 + 1 = 0) ↔ firstB (boundsL r c) 0 = -1 by omega, firstB_none _ _ (Int.le_refl _)]
  constructor
  · intro h k hk1 hk2
    have := h ((boundsL r c)[k - 1]'(by rw [boundsL_len]; omega)) (List.getElem_mem _)
    rw [boundsL_at, show k - 1 + 1 = k by omega] at this
    rw [← hm k hk2]; exact this
  · intro h b hb
    obtain ⟨i, hi, rfl⟩ := List.getElem_of_mem hb
    have hi' : i < c.length := by rw [boundsL_len] at hi; exact hi
    have := h (i + 1) (by omega) (by omega)
    rw [boundsL_at]
    rw [← hm (i + 1) (by omega)] at this; exact this

theorem kc_row (C : Nat) (a : Bool) (O : Nat → Bool) : S C (fun x => kc a (O x) 1 0) = if a then S C (on (fun x => !O x) fun _ => 1) else 0 := by
  cases a with
  | true => rw [if_pos rfl]; exact S_congr C fun x _ => by cases e : O x <;> simp [kc, on, e]
  | false => rw [if_neg (by decide), S_congr C (g := fun _ => 0) (fun x _ => by cases O x <;> simp [kc]), S_zero]
theorem on_not (C : Nat) (O : Nat → Bool) (f : Nat → Int) : S C (on O f) + S C (on (fun x => !O x) f) = S C f := by
  rw [← S_add]
  exact S_congr C fun x _ => by cases e : O x <;> simp [on, e]
theorem count_range (C : Nat) (T : Nat → Bool) : 0 ≤ S C (on T fun _ => 1) ∧ S C (on T fun _ => 1) ≤ C := by
  induction C with
  | zero => simp [S]
  | succ n ih => rw [S]; dsimp only [on] at ih ⊢; split <;> omega
theorem count_zero {C : Nat} {T : Nat → Bool} (h : S C (on T fun _ => 1) = 0) (f : Nat → Int) : S C (on T f) = 0 := by
  induction C with
  | zero => rfl
  | succ n ih =>
    rw [S] at h ⊢
    have h1 := (count_range n T).1
    cases ht : T n with
    | true => simp [on, ht] at h h1; omega
    | false => simp [on, ht] at h ⊢; exact ih h
/-- Where the inequalities hold there is an image. -/
theorem img_of_exists {r c : List Int} (h : existsOf r c = true) : HasImg r c := by
  obtain ⟨hs, hk⟩ := (existsOf_iff r c).1 h
  obtain ⟨hr, hc, hrb, hcb, hsum⟩ := sumsOk_yes hs
  have ht : (S r.length fun y => r.getD y 0) = S c.length fun x => c.getD x 0 := by rw [← sum_S, ← sum_S]; exact hsum
  have hr0 : ∀ y, y < r.length → 0 ≤ r.getD y 0 := fun y hy => by
    rw [List.getD_eq_getElem?_getD, List.getElem?_eq_getElem hy, Option.getD_some]
    rw [List.any_eq_false] at hrb
    have := hrb _ (List.getElem_mem hy)
    simp only [badB, Bool.or_eq_true, decide_eq_true_eq, not_or] at this
    omega
  obtain ⟨m, h1, h2, h3⟩ := exists_between r.length c.length (fun y => r.getD y 0) (fun x => c.getD x 0) ht _ (fun _ _ => 0) (fun _ _ => 1) (Nat.le_refl _) (fun y x _ _ => ⟨.inl rfl, .inr rfl, by decide⟩) (fun L O => by
    unfold over
    obtain ⟨n0, n1⟩ := count_range c.length (fun x => !O x)
    obtain ⟨k, hkk⟩ : ∃ k : Nat, (k : Int) = S c.length (on (fun x => !O x) fun _ => 1) := ⟨(S c.length (on (fun x => !O x) fun _ => 1)).toNat, by omega⟩
    have htop : S c.length (on (fun x => !O x) fun x => c.getD x 0) ≤ S r.length fun y => min (r.getD y 0) k := by
      by_cases e : k = 0
      · rw [count_zero (by omega)]
        exact S_nonneg _ fun y hy => by have := hr0 y hy; omega
      · exact Int.le_trans (top_most c _ k hkk (by omega) (by omega)) (hk k (by omega) (by omega))
    have hO := on_not c.length O fun x => c.getD x 0
    have hcell : (S r.length fun y => S c.length fun x => kc (L y) (O x) 1 0) = S r.length (on L fun _ => k) := S_congr _ fun y _ => by rw [kc_row, ← hkk]; rfl
    rw [hcell]
    have hrow : S r.length (on L fun y => r.getD y 0) - S r.length (on L fun _ => (k : Int)) ≤ (S r.length fun y => r.getD y 0) - S r.length fun y => min (r.getD y 0) k := by
      rw [← S_sub, ← S_sub]
      refine S_le _ fun y _ => ?_
      dsimp only [on]
      split <;> omega
    omega)
  exact ⟨m, fun y x hy hx => by have := h1 y x hy hx; omega, h2, h3⟩
theorem cell_le {n : Nat} {f : Nat → Int} (h : ∀ i, i < n → f i = 0 ∨ f i = 1) : 0 ≤ S n f ∧ S n f ≤ n := by
  induction n with
  | zero => simp [S]
  | succ n ih =>
    have := ih fun i hi => h i (by omega)
    have := h n (by omega)
    rw [S]; omega
/-- The sums of an image are sums, and the inequalities hold. -/
theorem exists_of_img {r c : List Int} (hr : 1 ≤ r.length ∧ r.length ≤ 5) (hc : 1 ≤ c.length ∧ c.length ≤ 5) (h : HasImg r c) : existsOf r c = true := by
  obtain ⟨m, hm⟩ := h
  have hs : sumsOk r c = true := by
    unfold sumsOk sizeOk
    simp only [Bool.and_eq_true, decide_eq_true_eq, Bool.not_eq_true', beq_iff_eq]
    refine ⟨⟨⟨⟨by omega, by omega⟩, any_no fun y hy => ?_⟩, any_no fun x hx => ?_⟩, ?_⟩
    · have h1 := hm.row y hy
      rw [List.getD_eq_getElem?_getD, List.getElem?_eq_getElem hy, Option.getD_some] at h1
      have h2 := cell_le (f := m y) (n := c.length) fun x hx => hm.cell y x hy hx
      rw [← h1, badB, decide_eq_false (by omega), decide_eq_false (by omega)]; rfl
    · have h1 := hm.col x hx
      rw [List.getD_eq_getElem?_getD, List.getElem?_eq_getElem hx, Option.getD_some] at h1
      have h2 := cell_le (f := fun y => m y x) (n := r.length) fun y hy => hm.cell y x hy hx
      rw [← h1, badB, decide_eq_false (by omega), decide_eq_false (by omega)]; rfl
    · rw [sum_S, sum_S, ← S_congr _ hm.row, S_swap]
      exact S_congr _ hm.col
  refine (existsOf_iff r c).2 ⟨hs, fun k hk1 hk2 => ?_⟩
  obtain ⟨T, h1, h2⟩ := top_some c k hk2
  rw [← h2, S_congr c.length (g := fun x => S r.length fun y => if T x then m y x else 0) (fun x hx => by
    dsimp only [on]
    by_cases e : T x = true
    · rw [if_pos e, ← hm.col x hx]; exact S_congr _ fun y _ => by rw [if_pos e]
    · rw [if_neg e, S_congr r.length (g := fun _ => 0) (fun y _ => by rw [if_neg e]), S_zero]), S_swap]
  refine S_le _ fun y hy => ?_
  have a1 : (S c.length fun x => if T x then m y x else 0) ≤ S c.length (m y) := S_le _ fun x hx => by
    have := hm.cell y x hy hx
    split <;> omega
  have a2 : (S c.length fun x => if T x then m y x else 0) ≤ S c.length (on T fun _ => 1) := S_le _ fun x hx => by
    have := hm.cell y x hy hx
    dsimp only [on]
    split <;> omega
  rw [hm.row y hy] at a1
  rw [h1] at a2
  omega
end Go.Proofs.YtjnnoabaepmcnaaGreat
/-
  All images with given sums, row by row; the least one; what a row of one can be.
-/
namespace Go.Proofs.YtjnnoabaepmcnaaGreat
open Go.RowKit Mx

/-- All rows of so many cells with so many black ones, in order. -/
def rowsLn : Nat → Int → List (List Int)
  | 0, k => if k = 0 then [[]] else []
  | n + 1, k => (if 0 ≤ k then (rowsLn n k).map (0 :: ·) else []) ++ if 1 ≤ k then (rowsLn n (k - 1)).map (1 :: ·) else []
/-- A row of n cells, a of them black. -/
def RowOf (n : Nat) (a : Int) (row : List Int) : Prop := row.length = n ∧ (∀ x ∈ row, x = 0 ∨ x = 1) ∧ row.sum = a
theorem sum_nonneg01 : ∀ (l : List Int), (∀ x ∈ l, x = 0 ∨ x = 1) → 0 ≤ l.sum
  | [], _ => Int.le_refl _
  | x :: l, h => by
    have := sum_nonneg01 l fun y hy => h y (List.mem_cons_of_mem _ hy)
    have := h x List.mem_cons_self
    rw [List.sum_cons]; omega
theorem mem_rowsL : ∀ (n : Nat) (k : Int) (row : List Int), row ∈ rowsLn n k ↔ RowOf n k row
  | 0, k, row => by
    unfold rowsLn RowOf
    by_cases h : k = 0
    · rw [if_pos h, List.mem_singleton]
      constructor
      · rintro rfl; exact ⟨rfl, by simp, by simp [h]⟩
      · rintro ⟨h1, -, -⟩; exact List.eq_nil_of_length_eq_zero h1
    · rw [if_neg h]
      constructor
      · intro h'; simp at h'
      · rintro ⟨h1, -, h3⟩
        rw [List.eq_nil_of_length_eq_zero h1] at h3; exact absurd h3.symm h
  | n + 1, k, row => by
    unfold rowsLn
    rw [List.mem_append]
    constructor
    · rintro (h | h)
      · by_cases h0 : 0 ≤ k
        · rw [if_pos h0, List.mem_map] at h
          obtain ⟨r, hr, rfl⟩ := h
          obtain ⟨h1, h2, h3⟩ := (mem_rowsL n k r).1 hr
          exact ⟨by simp [h1], fun x hx => by rcases List.mem_cons.1 hx with rfl | hx; exact .inl rfl; exact h2 x hx, by simp [h3]⟩
        · rw [if_neg h0] at h; simp at h
      · by_cases h0 : 1 ≤ k
        · rw [if_pos h0, List.mem_map] at h
          obtain ⟨r, hr, rfl⟩ := h
          obtain ⟨h1, h2, h3⟩ := (mem_rowsL n (k - 1) r).1 hr
          exact ⟨by simp [h1], fun x hx => by rcases List.mem_cons.1 hx with rfl | hx; exact .inr rfl; exact h2 x hx, by simp [h3]; omega⟩
        · rw [if_neg h0] at h; simp at h
    · rintro ⟨h1, h2, h3⟩
      cases row with
      | nil => simp at h1
      | cons x r =>
        have hr : ∀ y ∈ r, y = 0 ∨ y = 1 := fun y hy => h2 y (List.mem_cons_of_mem _ hy)
        have hn := sum_nonneg01 r hr
        rw [List.sum_cons] at h3
        rcases h2 x List.mem_cons_self with rfl | rfl
        · left
          rw [if_pos (by omega), List.mem_map]
          exact ⟨r, (mem_rowsL n k r).2 ⟨by simpa using h1, hr, by omega⟩, rfl⟩
        · right
          rw [if_pos (by omega), List.mem_map]
          exact ⟨r, (mem_rowsL n (k - 1) r).2 ⟨by simpa using h1, hr, by omega⟩, rfl⟩
theorem rowOf_cell {n : Nat} {a : Int} {row : List Int} (h : RowOf n a row) {x : Nat} (hx : x < n) : row.getD x 0 = 0 ∨ row.getD x 0 = 1 := by
  rw [List.getD_eq_getElem?_getD, List.getElem?_eq_getElem (by rw [h.1]; exact hx), Option.getD_some]
  exact h.2.1 _ (List.getElem_mem _)
theorem rowOf_tab {n : Nat} {f : Nat → Int} (h : ∀ x, x < n → f x = 0 ∨ f x = 1) : RowOf n (S n f) (tabL n f) := by
  refine ⟨tabL_len _ _, fun x hx => ?_, ?_⟩
  · obtain ⟨i, hi, rfl⟩ := List.getElem_of_mem hx
    rw [tabL_at]; exact h i (by rw [tabL_len] at hi; exact hi)
  · rw [sum_S, tabL_len]; exact S_congr _ fun i hi => tabL_getD hi
theorem rowOf_self {n : Nat} {a : Int} {row : List Int} (h : RowOf n a row) : row = tabL n fun x => row.getD x 0 := by
  rw [← h.1]; exact (tabL_self row).symm

/-- There is an image for the rows that are left, of which there may be none. -/
def restB (r c : List Int) : Bool := if r = [] then !c.any (badB 0) else existsOf r c
theorem img_nil (c : List Int) : HasImg [] c ↔ ∀ x, x < c.length → c.getD x 0 = 0 := by
  constructor
  · rintro ⟨m, hm⟩ x hx; exact (hm.col x hx).symm
  · intro h; exact ⟨fun _ _ => 0, fun y x hy => absurd hy (Nat.not_lt_zero _), fun y hy => absurd hy (Nat.not_lt_zero _), fun x hx => (h x hx).symm⟩
theorem restB_iff {r c : List Int} (hr : r.length ≤ 5) (hc : 1 ≤ c.length ∧ c.length ≤ 5) : restB r c = true ↔ HasImg r c := by
  unfold restB
  by_cases h : r = []
  · rw [if_pos h, h, img_nil]
    simp only [Bool.not_eq_true', List.any_eq_false]
    constructor
    · intro h1 x hx
      rw [List.getD_eq_getElem?_getD, List.getElem?_eq_getElem hx, Option.getD_some]
      have := h1 _ (List.getElem_mem hx)
      simp only [badB, Bool.or_eq_true, decide_eq_true_eq, not_or] at this
      omega
    · intro h1 x hx
      obtain ⟨i, hi, rfl⟩ := List.getElem_of_mem hx
      have := h1 i hi
      rw [List.getD_eq_getElem?_getD, List.getElem?_eq_getElem hi, Option.getD_some] at this
      simp [badB, this]
  · rw [if_neg h]
    have : 1 ≤ r.length := by cases r with
      | nil => exact absurd rfl h
      | cons x l => simp
    exact ⟨img_of_exists, exists_of_img ⟨this, hr⟩ hc⟩
theorem subL_getD {c row : List Int} {x : Nat} (h : x < c.length) : (subL c row).getD x 0 = c.getD x 0 - row.getD x 0 := tabL_getD h
/-- The first row taken off, and put back. -/
theorem img_cons (a : Int) (r c : List Int) (m : Nat → Nat → Int) : ImgF (a :: r) c m ↔ RowOf c.length a (tabL c.length (m 0)) ∧ ImgF r (subL c (tabL c.length (m 0))) fun y => m (y + 1) := by
  constructor
  · intro h
    have h0 : ∀ x, x < c.length → m 0 x = 0 ∨ m 0 x = 1 := fun x hx => h.cell 0 x (by simp) hx
    have h1 := h.row 0 (by simp)
    refine ⟨?_, fun y x hy hx => ?_, fun y hy => ?_, fun x hx => ?_⟩
    · have := rowOf_tab h0
      rw [h1] at this; simpa using this
    · rw [subL_len] at hx; exact h.cell (y + 1) x (by simpa using hy) hx
    · rw [subL_len]; have := h.row (y + 1) (by simpa using hy); simpa using this
    · rw [subL_len] at hx
      have := h.col x hx
      rw [List.length_cons, S_cons] at this
      rw [subL_getD hx, tabL_getD hx]; omega
  · rintro ⟨h0, h1⟩
    refine ⟨fun y x hy hx => ?_, fun y hy => ?_, fun x hx => ?_⟩
    · cases y with
      | zero => have := rowOf_cell h0 hx; rwa [tabL_getD hx] at this
      | succ y => exact h1.cell y x (by simpa using hy) (by rw [subL_len]; exact hx)
    · cases y with
      | zero =>
        have := h0.2.2
        rw [sum_S, tabL_len] at this
        rw [S_congr c.length (g := fun x => (tabL c.length (m 0)).getD x 0) (fun x hx => (tabL_getD hx).symm), this]; rfl
      | succ y => have := h1.row y (by simpa using hy); rw [subL_len] at this; simpa using this
    · have := h1.col x (by rw [subL_len]; exact hx)
      rw [subL_getD hx, tabL_getD hx] at this
      rw [List.length_cons, S_cons]; omega
theorem hasImg_cons (a : Int) (r c : List Int) : HasImg (a :: r) c ↔ ∃ row, RowOf c.length a row ∧ HasImg r (subL c row) := by
  constructor
  · rintro ⟨m, hm⟩
    obtain ⟨h1, h2⟩ := (img_cons a r c m).1 hm
    exact ⟨_, h1, _, h2⟩
  · rintro ⟨row, h1, m, hm⟩
    refine ⟨fun y x => match y with | 0 => row.getD x 0 | y + 1 => m y x, (img_cons a r c _).2 ⟨?_, ?_⟩⟩
    · rw [← rowOf_self h1]; exact h1
    · rw [← rowOf_self h1]; exact hm

/-- The rows that can stand first. -/
def firstRows (a : Int) (r c : List Int) : List (List Int) := (rowsLn c.length a).filter fun row => restB r (subL c row)
theorem firstRows_ne {a : Int} {r c : List Int} (hr : r.length ≤ 5) (hc : 1 ≤ c.length ∧ c.length ≤ 5) (h : HasImg (a :: r) c) : firstRows a r c ≠ [] := by
  obtain ⟨row, h1, h2⟩ := (hasImg_cons a r c).1 h
  have : row ∈ firstRows a r c := List.mem_filter.2 ⟨(mem_rowsL _ _ _).2 h1, (restB_iff hr (by rw [subL_len]; exact hc)).2 h2⟩
  intro e; rw [e] at this; simp at this
/-- The least row that can stand first. -/
def leastCh : List Int → List Int → List Int
  | [], _ => []
  | a :: r, c => (firstRows a r c).headD []
theorem leastCh_mem {a : Int} {r c : List Int} (hr : r.length ≤ 5) (hc : 1 ≤ c.length ∧ c.length ≤ 5) (h : HasImg (a :: r) c) : leastCh (a :: r) c ∈ firstRows a r c := by
  have := firstRows_ne hr hc h
  show (firstRows a r c).headD [] ∈ firstRows a r c
  cases e : firstRows a r c with
  | nil => exact absurd e this
  | cons x l => exact List.mem_cons_self
theorem leastCh_spec {a : Int} {r c : List Int} (hr : r.length ≤ 5) (hc : 1 ≤ c.length ∧ c.length ≤ 5) (h : HasImg (a :: r) c) : RowOf c.length a (leastCh (a :: r) c) ∧ HasImg r (subL c (leastCh (a :: r) c)) := by
  obtain ⟨h1, h2⟩ := List.mem_filter.1 (leastCh_mem hr hc h)
  exact ⟨(mem_rowsL _ _ _).1 h1, (restB_iff hr (by rw [subL_len]; exact hc)).1 h2⟩

/-- All images with these sums, in order. -/
def allL : List Int → List Int → List (List (List Int))
  | [], _ => [[]]
  | a :: r, c => (rowsLn c.length a).flatMap fun row => if restB r (subL c row) then (allL r (subL c row)).map (row :: ·) else []
theorem flat_first {α β : Type} (p : α → Bool) (f : α → List β) (hf : ∀ x, p x = false → f x = []) : ∀ (l : List α), (l.filter p).headD = (l.filter p).headD ∧ ∀ x r, l.filter p = x :: r → ∃ l', l.flatMap f = f x ++ l'
  | [] => ⟨rfl, fun x r h => by simp at h⟩
  | y :: l => by
    refine ⟨rfl, fun x r h => ?_⟩
    rw [List.filter_cons] at h
    cases hp : p y with
    | true =>
      rw [hp, if_pos rfl] at h
      simp only [List.cons.injEq] at h
      exact ⟨l.flatMap f, by rw [List.flatMap_cons, h.1]⟩
    | false =>
      rw [hp, if_neg (by decide)] at h
      obtain ⟨l', hl⟩ := (flat_first p f hf l).2 x r h
      exact ⟨l', by rw [List.flatMap_cons, hf y hp, List.nil_append, hl]⟩
/-- The first one of all is the one whose rows are the least. -/
theorem all_first : ∀ (r c : List Int), r.length ≤ 5 → (1 ≤ c.length ∧ c.length ≤ 5) → HasImg r c → ∃ l, allL r c = imgL leastCh r c :: l
  | [], c, _, _, _ => ⟨[], rfl⟩
  | a :: r, c, hr, hc, h => by
    rw [List.length_cons] at hr
    have hm := leastCh_mem (by omega) hc h
    obtain ⟨-, h2⟩ := leastCh_spec (by omega) hc h
    obtain ⟨l, hl⟩ := all_first r (subL c (leastCh (a :: r) c)) (by omega) (by rw [subL_len]; exact hc) h2
    have hcons : ∃ q, firstRows a r c = leastCh (a :: r) c :: q := by
      show ∃ q, firstRows a r c = (firstRows a r c).headD [] :: q
      cases e : firstRows a r c with
      | nil => exact absurd e (firstRows_ne (by omega) hc h)
      | cons x q => exact ⟨q, rfl⟩
    obtain ⟨q, hq⟩ := hcons
    obtain ⟨l', hl'⟩ := (flat_first (fun row => restB r (subL c row)) (fun row => if restB r (subL c row) then (allL r (subL c row)).map (row :: ·) else []) (fun x hx => by rw [hx]; simp) (rowsLn c.length a)).2 _ q hq
    have hrest : restB r (subL c (leastCh (a :: r) c)) = true := (List.mem_filter.1 hm).2
    refine ⟨l.map (leastCh (a :: r) c :: ·) ++ l', ?_⟩
    rw [allL, hl', if_pos hrest, hl, imgL]; simp
/-- The rows of an image that is given by its cells. -/
def listF (n C : Nat) (m : Nat → Nat → Int) : List (List Int) := (List.range n).map fun y => tabL C (m y)
theorem listF_succ (n C : Nat) (m : Nat → Nat → Int) : listF (n + 1) C m = tabL C (m 0) :: listF n C fun y => m (y + 1) := by
  unfold listF
  rw [List.range_succ_eq_map, List.map_cons, List.map_map]; rfl
theorem all_complete : ∀ (r c : List Int), r.length ≤ 5 → (1 ≤ c.length ∧ c.length ≤ 5) → ∀ m, ImgF r c m → listF r.length c.length m ∈ allL r c
  | [], c, _, _, m, _ => by simp [listF, allL]
  | a :: r, c, hr, hc, m, h => by
    rw [List.length_cons] at hr
    obtain ⟨h1, h2⟩ := (img_cons a r c m).1 h
    have ih := all_complete r _ (by omega) (by rw [subL_len]; exact hc) _ h2
    rw [subL_len] at ih
    rw [List.length_cons, listF_succ, allL, List.mem_flatMap]
    refine ⟨_, (mem_rowsL _ _ _).2 h1, ?_⟩
    rw [if_pos ((restB_iff (by omega) (by rw [subL_len]; exact hc)).2 ⟨_, h2⟩)]
    exact List.mem_map.2 ⟨_, ih, rfl⟩
theorem all_sound : ∀ (r c : List Int), r.length ≤ 5 → (1 ≤ c.length ∧ c.length ≤ 5) → HasImg r c → ∀ l ∈ allL r c, l.length = r.length ∧ (∀ q ∈ l, q.length = c.length) ∧ ImgF r c fun y x => (l.getD y []).getD x 0
  | [], c, _, _, h, l, hl => by
    simp only [allL, List.mem_singleton] at hl
    subst hl
    exact ⟨rfl, by simp, fun y x hy => absurd hy (Nat.not_lt_zero _), fun y hy => absurd hy (Nat.not_lt_zero _), fun x hx => ((img_nil c).1 h x hx).symm⟩
  | a :: r, c, hr, hc, h, l, hl => by
    rw [List.length_cons] at hr
    rw [allL, List.mem_flatMap] at hl
    obtain ⟨row, hrow, hl⟩ := hl
    have hR := (mem_rowsL _ _ _).1 hrow
    by_cases hb : restB r (subL c row) = true
    · rw [if_pos hb, List.mem_map] at hl
      obtain ⟨l', hl', rfl⟩ := hl
      have hc' : 1 ≤ (subL c row).length ∧ (subL c row).length ≤ 5 := by rw [subL_len]; exact hc
      obtain ⟨h1, h2, h3⟩ := all_sound r _ (by omega) hc' ((restB_iff (by omega) hc').1 hb) l' hl'
      refine ⟨by simp [h1], fun q hq => ?_, (img_cons a r c _).2 ⟨?_, ?_⟩⟩
      · rcases List.mem_cons.1 hq with rfl | hq
        · exact hR.1
        · rw [h2 q hq, subL_len]
      · rw [show tabL c.length (fun x => ((row :: l').getD 0 []).getD x 0) = row from (rowOf_self hR).symm]; exact hR
      · rw [show tabL c.length (fun x => ((row :: l').getD 0 []).getD x 0) = row from (rowOf_self hR).symm]; exact h3
    · rw [if_neg hb] at hl; simp at hl

/-- Row y left out. -/
def delF {α : Type} (m : Nat → α) (y i : Nat) : α := if i < y then m i else m (i + 1)
theorem S_del (f : Nat → Int) (y : Nat) : ∀ n, y ≤ n → S (n + 1) f = S n (delF f y) + f y
  | 0, h => by obtain rfl : y = 0 := by omega
               rw [S, S, S]
  | n + 1, h => by
    by_cases e : y = n + 1
    · subst e
      rw [S, S_congr (n + 1) (f := f) (g := delF f (n + 1)) (fun i hi => by rw [delF, if_pos hi])]
    · rw [S, S_del f y n (by omega), S, delF, if_neg (by omega)]; omega
theorem erase_getD (r : List Int) (y i : Nat) : (r.eraseIdx y).getD i 0 = delF (fun i => r.getD i 0) y i := by
  unfold delF
  simp only [List.getD_eq_getElem?_getD, List.getElem?_eraseIdx]
  split <;> rfl
/-- An image without its row y. -/
theorem img_del {r c : List Int} {m : Nat → Nat → Int} {y : Nat} (hy : y < r.length) : ImgF r c m ↔ RowOf c.length (r.getD y 0) (tabL c.length (m y)) ∧ ImgF (r.eraseIdx y) (subL c (tabL c.length (m y))) (delF m y) := by
  have hl : (r.eraseIdx y).length = r.length - 1 := List.length_eraseIdx_of_lt hy
  obtain ⟨n, hn⟩ : ∃ n, r.length = n + 1 := ⟨r.length - 1, by omega⟩
  have hcol : ∀ x, S r.length (fun i => m i x) = S n (fun i => delF m y i x) + m y x := fun x => by
    rw [hn, S_del (fun i => m i x) y n (by omega)]
    congr 1
    exact S_congr _ fun i _ => by unfold delF; split <;> rfl
  constructor
  · intro h
    refine ⟨?_, fun i x hi hx => ?_, fun i hi => ?_, fun x hx => ?_⟩
    · have := rowOf_tab (n := c.length) (f := m y) fun x hx => h.cell y x hy hx
      rw [h.row y hy] at this; exact this
    · rw [subL_len] at hx
      unfold delF
      split
      · exact h.cell i x (by omega) hx
      · exact h.cell (i + 1) x (by omega) hx
    · rw [subL_len, erase_getD]
      unfold delF
      split
      · exact h.row i (by omega)
      · exact h.row (i + 1) (by omega)
    · rw [subL_len] at hx
      have := h.col x hx
      rw [hcol] at this
      rw [subL_getD hx, tabL_getD hx, hl, hn, Nat.add_sub_cancel]; omega
  · rintro ⟨h0, h1⟩
    have hcell : ∀ i, i < r.length → i ≠ y → ∃ j, j < (r.eraseIdx y).length ∧ m i = delF m y j ∧ r.getD i 0 = (r.eraseIdx y).getD j 0 := fun i hi hne => by
      by_cases e : i < y
      · exact ⟨i, by omega, by rw [delF, if_pos e], by rw [erase_getD, delF, if_pos e]⟩
      · refine ⟨i - 1, by omega, by rw [delF, if_neg (by omega), show i - 1 + 1 = i by omega], by rw [erase_getD, delF, if_neg (by omega), show i - 1 + 1 = i by omega]⟩
    refine ⟨fun i x hi hx => ?_, fun i hi => ?_, fun x hx => ?_⟩
    · by_cases e : i = y
      · subst e; have := rowOf_cell h0 hx; rwa [tabL_getD hx] at this
      · obtain ⟨j, hj, hm, -⟩ := hcell i hi e
        rw [hm]; exact h1.cell j x hj (by rw [subL_len]; exact hx)
    · by_cases e : i = y
      · subst e
        have := h0.2.2
        rw [sum_S, tabL_len] at this
        rw [← this]; exact S_congr _ fun x hx => (tabL_getD hx).symm
      · obtain ⟨j, hj, hm, hrj⟩ := hcell i hi e
        have := h1.row j hj
        rw [subL_len] at this
        rw [hm, hrj]; exact this
    · have := h1.col x (by rw [subL_len]; exact hx)
      rw [subL_getD hx, tabL_getD hx, hl, hn, Nat.add_sub_cancel] at this
      rw [hcol]; omega
/-- What can stand in row y. -/
def rowsAtL (r c : List Int) (y : Nat) : List (List Int) := (rowsLn c.length (r.getD y 0)).filter fun row => restB (r.eraseIdx y) (subL c row)
theorem rowsAt_zero (a : Int) (r c : List Int) : rowsAtL (a :: r) c 0 = firstRows a r c := rfl
/-- A cell is so in one of the images exactly if it is so in one of the rows. -/
theorem place_iff {r c : List Int} {y x : Nat} (v : Int) (hr : r.length ≤ 5) (hc : 1 ≤ c.length ∧ c.length ≤ 5) (hy : y < r.length) (h : HasImg r c) :
    ((allL r c).any fun m => (m.getD y []).getD x 0 == v) = (rowsAtL r c y).any fun row => row.getD x 0 == v := by
  have hc' : ∀ row, 1 ≤ (subL c row).length ∧ (subL c row).length ≤ 5 := fun row => by rw [subL_len]; exact hc
  have hl : (r.eraseIdx y).length ≤ 5 := by rw [List.length_eraseIdx_of_lt hy]; omega
  rw [Bool.eq_iff_iff, List.any_eq_true, List.any_eq_true]
  constructor
  · rintro ⟨m, hm, hv⟩
    obtain ⟨h1, h2, h3⟩ := all_sound r c hr hc h m hm
    obtain ⟨g1, g2⟩ := (img_del hy).1 h3
    have he : m.getD y [] = tabL c.length fun x => (m.getD y []).getD x 0 := by
      have : (m.getD y []).length = c.length := h2 _ (by rw [List.getD_eq_getElem?_getD, List.getElem?_eq_getElem (by omega), Option.getD_some]; exact List.getElem_mem _)
      rw [← this]; exact (tabL_self _).symm
    refine ⟨m.getD y [], List.mem_filter.2 ⟨(mem_rowsL _ _ _).2 (by rw [he]; exact g1), (restB_iff hl (hc' _)).2 ?_⟩, hv⟩
    rw [he]; exact ⟨_, g2⟩
  · rintro ⟨row, hrow, hv⟩
    obtain ⟨g1, g2⟩ := List.mem_filter.1 hrow
    have hR := (mem_rowsL _ _ _).1 g1
    obtain ⟨m', hm'⟩ := (restB_iff hl (hc' _)).1 g2
    let m : Nat → Nat → Int := fun i x => if i < y then m' i x else if i = y then row.getD x 0 else m' (i - 1) x
    have e1 : tabL c.length (m y) = row := by
      rw [show m y = fun x => row.getD x 0 from funext fun x => by simp [m]]
      exact (rowOf_self hR).symm
    have e2 : ∀ i, delF m y i = m' i := fun i => by
      unfold delF
      funext x
      split
      · rename_i hi; simp [m, hi]
      · rename_i hi; simp only [m]; rw [if_neg (by omega), if_neg (by omega), Nat.add_sub_cancel]
    have hI : ImgF r c m := (img_del hy).2 ⟨by rw [e1]; exact hR, by rw [e1, show delF m y = m' from funext e2]; exact hm'⟩
    refine ⟨listF r.length c.length m, all_complete r c hr hc m hI, ?_⟩
    have : (listF r.length c.length m).getD y [] = row := by
      rw [List.getD_eq_getElem?_getD]
      simp only [listF, List.getElem?_map, List.getElem?_range hy, Option.map_some, Option.getD_some, e1]
    rw [this]; exact hv
end Go.Proofs.YtjnnoabaepmcnaaGreat
/-
  Contracts of the library, at this translation: laid by the shelf, in plain declarations.
-/
namespace Go.Proofs
open Go.Shelf Go.RowKit Go.Lib
def Tryz.laysNm215_ren : Go.Shelf.Ren := ⟨fun | 15 => 69 | n => n, fun | 22 => 23 | 3 => 3 | 4 => 4 | n => n, fun | n => n⟩
theorem Tryz.laysNm215 : Go.Proofs.Lays2.n15 Tryz.prog Tryz.laysNm215_ren := {
  mixed := by kernel_rfl
  f15 := Tryz.func69.trans (congrArg some (by kernel_rfl))
  t3 := Tryz.underlying3
  a3 := Tryz.isAgg3
  z3 := Tryz.sizeOf3
  v3 := Tryz.zeroValue3
  t4 := Tryz.underlying4
  a4 := Tryz.isAgg4
  z4 := Tryz.sizeOf4
  v4 := Tryz.zeroValue4
  t22 := Tryz.underlying23
  a22 := Tryz.isAgg23
  z22 := Tryz.sizeOf23
  v22 := Tryz.zeroValue23
  i3 := by kernel_rfl }
theorem Tryz.slices_Clone_int (b off n c : Nat) (zs : List Int) (w : World) (hz : n ≤ zs.length) (hbig : n * 8 ≤ 140737488355328) (hc : ∀ j, j < zs.length → w.cell? ⟨b, off + j, none⟩ = some (.int .i64 (zs.getD j 0))) :
    Calls Tryz.prog 69 #[.slice (some ⟨b, off, none⟩) n c] w fun e w' => ∃ v', e = .returned v' ∧ w'.ownsRow w.heap.size 3 1 v' n ((zs.take n).map (Value.int .i64)) ∧ v' ≠ .slice none 0 0 ∧ Below w.heap.size w w' := Any.slices_Clone_int Tryz.laysNm215 b off n c zs w hz hbig hc
theorem Tryz.slices_Clone_int_nil (n c : Nat) (w : World) :
    Calls Tryz.prog 69 #[.slice none n c] w fun e w' => e = .returned (.slice none 0 0) ∧ w' = w := Any.slices_Clone_int_nil Tryz.laysNm215 n c w
theorem Tryz.slices_Clone_int_zero (a : Addr) (c : Nat) (w : World) :
    Calls Tryz.prog 69 #[.slice (some a) 0 c] w fun e w' => ∃ v', e = .returned v' ∧ w'.ownsRow w.heap.size 3 1 v' 0 [] ∧ v' ≠ .slice none 0 0 ∧ Below w.heap.size w w' := Any.slices_Clone_int_zero Tryz.laysNm215 a c w
end Go.Proofs
/-
  The program's images: size, lists.
-/
namespace Go.Proofs.YtjnnoabaepmcnaaGreat
open Go.RowKit

set_option maxHeartbeats 400000 in
theorem size_any (G : Nat → Int) (n : Nat) (w : World) (hn : n ≤ 5) (h1 : ∀ j, j < n → G j ≠ -1) (h2 : n = 5 ∨ G n = -1) :
    Calls Tryz.prog 87 #[.agg (vec 5 G)] w fun e w' => e = .returned (.int .i64 n) ∧ Below w.heap.size w w' := by
  have N1 := hide h1; have N2 := hide h2
  clear h1 h2
  go_enter Tryz.func87, Tryz.ntmps87
  go_wp2_with (with_reducible refine wpList_boxVec 5 G 1 rfl rfl (.tmp 0) rfl rfl ?_; intro w1 h1 b1 s1)
  have H1 := hide h1; have B1 := hide b1
  clear h1 b1
  go_loop [3] (fun i => ∃ k : Nat, k ≤ n ∧ i = .int .i64 k) (fun i => n - (intOf i).toNat)
  case atStart => exact ⟨0, by omega, rfl⟩
  case round =>
    obtain ⟨k, hk, rfl⟩ := hrel
    by_cases hlt : k < n
    · have hx := blk_cell H1.out k (by omega)
      have hne := N1.out k hlt
      obtain ⟨y, hy⟩ : ∃ y, y = G k := ⟨_, rfl⟩
      rw [← hy] at hx hne
      have hb : (y != -1) = true := by simpa using hne
      have h5 : (k : Int) < 5 := by omega
      clear hy hne
      go_wp2
      go_round
      case rel => exact ⟨k + 1, by omega, by go_num⟩
      case measure => simp [intOf]; omega
    · obtain rfl : k = n := by omega
      by_cases h5 : k < 5
      · have hx := blk_cell H1.out k h5
        rw [N2.out.resolve_left (by omega)] at hx
        have h5' : (k : Int) < 5 := by omega
        go_wp2
        go_ret
        exact ⟨rfl, B1.out⟩
      · have h5' : ¬ (k : Int) < 5 := by omega
        go_wp2
        go_ret
        exact ⟨rfl, B1.out⟩

/-- A row of the padded image. -/
theorem imgF_row (R C : Nat) (f : Nat → Nat → Int) (y : Nat) : ∀ j, j < 5 → imgF R C f (y * 5 + j) = if y < R ∧ j < C then f y j else -1 := fun j hj => by
  rw [show y * 5 + j = 5 * y + j by omega, imgF_at R C f y j hj]

theorem ownMat_block {w w' : World} {lo hi g : Nat} {v : Value} {m : List (List Int)} (h : OwnMat w lo hi v m) (hg : w.grownBy w' (some g)) (hh : hi ≤ g) : OwnMat w' lo hi v m :=
  ownMat_within h (within_grown (lo := g) (hi := g + 1) hg fun k hk => by cases hk; exact ⟨Nat.le_refl _, Nat.lt_succ_self _⟩) (.inl hh)

set_option maxRecDepth 100000 in
set_option maxHeartbeats 1000000 in
theorem lists_any (R C : Nat) (f : Nat → Nat → Int) (w : World) (hI : Img R C f) :
    Calls Tryz.prog 75 #[.agg (vec 25 (imgF R C f))] w fun e w' => ∃ v, e = .returned v ∧ OwnMat w' w.heap.size w'.heap.size v (mkM R C f) ∧ Below w.heap.size w w' := by
  have hR := hI.r2; have hC := hI.c2; have hC1 := hI.c1
  have HI := hide hI
  clear hI
  go_enter Tryz.func75, Tryz.ntmps75
  go_wp2_with (first | (with_reducible refine wpList_boxVec 25 (imgF R C f) 1 rfl rfl (.tmp 0) rfl rfl ?_; intro w1 h1 b1 s1) | (with_reducible refine wpList_loadVec h1 7 rfl rfl _ rfl rfl Tryz.underlying80 Tryz.sizeImg ?_))
  have B1 := hide b1
  clear h1 b1 s1
  go_loopw [3, 8] (fun o i w' => ∃ (y : Nat) (v : Value), y ≤ 5 ∧ i = .int .i64 y ∧ v = o ∧ OwnMat w' w.heap.size w'.heap.size v (mkM (min y R) C f) ∧ Below w.heap.size w w') (fun _ i _ => 5 - (intOf i).toNat)
  case atStart => exact ⟨0, _, by omega, rfl, rfl, by rw [Nat.zero_min]; exact ownMat_nil _ _ _, B1.out⟩
  case round =>
    clear B1
    obtain ⟨y, v, hy, rfl, rfl, hown, hb⟩ := hrel
    have HO := hide hown; have HB := hide hb
    clear hown hb
    by_cases hlt : y < 5
    · have hyI : (y : Int) < 5 := by omega
      have HG := hide (imgF_row R C f y)
      have hsz := HB.out.size
      go_wp2_with (first | (with_reducible refine wpList_indexRow y 10 rfl rfl _ _ rfl rfl rfl Tryz.underlying80 Tryz.isAgg78 Tryz.sizeOf78 hlt (by omega) ?_) | (with_reducible refine wpList_allocVec 5 5 rfl rfl rfl Tryz.zeroRow ?_; intro w2 h2 b2 s2) | (with_reducible refine wpList_storeVec h2 rfl (.tmp 5) (.tmp 10) rfl rfl rfl Tryz.sizeRow ?_; intro w3 h3 g3 s3) | (with_reducible refine wpList_loadVec h3 11 rfl rfl _ rfl rfl Tryz.underlying78 Tryz.sizeRow ?_))
      have B3 := hide (HB.out.trans ((b2.mono hsz).trans (grown_below g3 (fun k hk => by cases hk; exact hsz) (by omega))))
      have O3 := hide (ownMat_block (ownMat_below HO.out b2) g3 (Nat.le_refl _))
      have H3 := hide h3
      have hs3 : w3.heap.size = wr.heap.size + 1 := by omega
      clear h2 b2 s2 h3 g3 s3
      by_cases hr : y < R
      · go_wp2_with fail
        refine (size_any _ C _ hC (fun j hj => ?_) ?_).mono ?_
        · rw [HG.out j (by omega), if_pos ⟨hr, hj⟩]
          rcases HI.out.cell y j hr hj with e | e <;> rw [e] <;> decide
        · by_cases e : C = 5
          · exact .inl e
          · right; rw [HG.out C (by omega), if_neg (by omega)]
        rintro e w4 ⟨rfl, b4⟩
        have H4 := hide (blk_below H3.out b4)
        have O4 := hide (ownMat_below O3.out b4)
        have B4 := hide (B3.out.trans (b4.mono (by omega)))
        have hs4 := b4.size
        clear b4
        have hpos : (0 : Int) < (C : Int) := by omega
        go_wp2_with (with_reducible refine wpList_sliceVec C 17 rfl rfl (.tmp 5) (.tmp 16) rfl rfl rfl Tryz.underlying78 Tryz.sizeOf3 hC ?_)
        refine (Tryz.slices_Clone_int wr.heap.size 0 C 5 (rowF C (f y)) _ (by rw [rowF_len]; exact Nat.le_refl _) (by omega) (fun j hj => ?_)).mono ?_
        · rw [rowF_len] at hj
          rw [Nat.zero_add, blk_cell H4.out j (by omega), HG.out j (by omega), if_pos ⟨hr, hj⟩, List.getD_eq_getElem?_getD, List.getElem?_eq_getElem (by rw [rowF_len]; exact hj), Option.getD_some, rowF_at]
        rintro e w5 ⟨u, rfl, hu, -, b5⟩
        have hu : w5.ownsRow w4.heap.size 3 1 u (rowF C (f y)).length (ints (rowF C (f y))) := by
          rw [rowF_len]
          have := hu
          rw [List.take_of_length_le (by rw [rowF_len]; exact Nat.le_refl _)] at this
          exact this
        obtain ⟨ua, uc, rfl⟩ := own_slice hu
        rw [rowF_len] at *
        have HU := hide hu
        have O5 := hide (ownMat_below O4.out b5)
        have B5 := hide (B4.out.trans (b5.mono (by omega)))
        have hs5 := b5.size
        clear hu b5
        have hmin : min y R = y := by omega
        rw [hmin] at O5
        clear hmin
        obtain ⟨vs, hv, hvh, hvr, hva⟩ := O5.out
        have hvl := mkM_len y C f
        rw [hvl] at hv
        have HV := hide hv; have HVH := hide hvh; have HVR := hide hvr; have HVA := hide hva
        clear hv hvh hvr hva hvl
        go_wp2_with (at_builtin; refine wpList_push HV.out (.slice ua C uc) (.slice none 0 0) rfl _ _ rfl Tryz.underlying22 Tryz.infoInts rfl (by decide) rfl rfl rfl (by omega) (by omega) ?_; intro v' w6 hown1 hb1 hg1)
        go_roundw
        case rel =>
          have hs6 := hb1.size
          have hp := ownMat_push (r := rowF C (f y)) (hi' := w6.heap.size) HVR.out HVA.out (by rw [mkM_len]; exact HV.out) (by rw [rowF_len]; exact own_base HU.out (by omega)) hsz (by omega) (by omega) hg1 (by rw [mkM_len]; exact hown1) (fun k e => (hown1.lt k e).2)
          rw [← mkM_succ, show y + 1 = min (y + 1) R by omega] at hp
          exact ⟨y + 1, _, by omega, by go_num, rfl, hp, B5.out.trans (hb1.mono (by omega))⟩
        case measure => simp [intOf]; omega
      · go_wp2_with fail
        refine (size_any _ 0 _ (by omega) (fun j hj => absurd hj (Nat.not_lt_zero _)) (.inr ?_)).mono ?_
        · rw [HG.out 0 (by omega), if_neg (by omega)]
        rintro e w4 ⟨rfl, b4⟩
        have O4 := hide (ownMat_below O3.out b4)
        have B4 := hide (B3.out.trans (b4.mono (by omega)))
        have hs4 := b4.size
        clear b4
        go_wp2
        go_roundw
        case rel =>
          have hp := ownMat_mono (hi' := w4.heap.size) O4.out (Nat.le_refl _) (by omega)
          rw [show min y R = min (y + 1) R by omega] at hp
          exact ⟨y + 1, _, by omega, by go_num, rfl, hp, B4.out⟩
        case measure => simp [intOf]; omega
    · have hmin : min y R = R := by omega
      rw [hmin] at HO
      clear hmin
      go_wp2
      go_ret
      exact ⟨_, rfl, HO.out, HB.out⟩
end Go.Proofs.YtjnnoabaepmcnaaGreat
/-
  The program's images: cell, count, transposed, inverted, distance.
-/
namespace Go.Proofs.YtjnnoabaepmcnaaGreat
open Go.RowKit

theorem row_below {w wr w2 w3 : World} (hb : Below w.heap.size w wr) (b2 : Below wr.heap.size wr w2) (g3 : w2.grownBy w3 (some wr.heap.size)) : Below w.heap.size w w3 :=
  hb.trans ((b2.mono hb.size).trans (grown_below g3 (fun k hk => by cases hk; exact hb.size) (Nat.le_trans hb.size b2.size)))
theorem row_blk {wr w2 w3 : World} {g n : Nat} {T : TypeId} {F : Nat → Int} (h : Blk wr g T n F) (b2 : Below wr.heap.size wr w2) (g3 : w2.grownBy w3 (some wr.heap.size)) : Blk w3 g T n F :=
  blk_grown (blk_below h b2) g3 (by have := blk_lt h; simp; omega)

/-- The first y columns of the exchanged image, and x cells of the next one. -/
def upT (F : Nat → Int) (y x : Nat) (i : Nat) : Int := if i % 5 < y ∨ (i % 5 = y ∧ i / 5 < x) then F (5 * (i % 5) + i / 5) else 0
theorem upT_zero (F : Nat → Int) : upT F 0 0 = fun _ => 0 := by funext i; rw [upT, if_neg (by omega)]
theorem upT_set (F : Nat → Int) (y x : Nat) (hy : y < 5) : (fun j => if j = 5 * x + y then F (5 * y + x) else upT F y x j) = upT F y (x + 1) := by
  funext j
  simp only [upT]
  by_cases e : j = 5 * x + y
  · subst e
    rw [if_pos rfl, if_pos (by omega), show (5 * x + y) % 5 = y by omega, show (5 * x + y) / 5 = x by omega]
  · rw [if_neg e]
    by_cases hl : j % 5 < y ∨ (j % 5 = y ∧ j / 5 < x)
    · rw [if_pos hl, if_pos (by omega)]
    · rw [if_neg hl, if_neg (by omega)]
theorem upT_next (F : Nat → Int) (y : Nat) : ∀ i, i < 25 → upT F y 5 i = upT F (y + 1) 0 i := fun i hi => by
  simp only [upT]
  by_cases hl : i % 5 < y + 1
  · rw [if_pos (by omega), if_pos (by omega)]
  · rw [if_neg (by omega), if_neg (by omega)]
theorem upT_all (F : Nat → Int) : ∀ i, i < 25 → upT F 5 0 i = F (5 * (i % 5) + i / 5) := fun i hi => by rw [upT, if_pos (by omega)]

set_option maxHeartbeats 1000000 in
theorem transposed_any (F : Nat → Int) (w : World) :
    Calls Tryz.prog 74 #[.agg (vec 25 F)] w fun e w' => e = .returned (.agg (vec 25 fun i => F (5 * (i % 5) + i / 5))) ∧ Below w.heap.size w w' := by
  go_enter Tryz.func74, Tryz.ntmps74
  go_wp2_with (first | (with_reducible refine wpList_boxVec 25 F 1 rfl rfl (.tmp 0) rfl rfl ?_; intro w1 h1 b1 s1) | (with_reducible refine wpList_allocVec 25 2 rfl rfl rfl Tryz.zeroImg ?_; intro wa ha ba sa) | (with_reducible refine wpList_allocVec 25 3 rfl rfl rfl Tryz.zeroImg ?_; intro wb hb bb sb) | (with_reducible refine wpList_loadVec (blk_below (blk_below h1 ba) bb) 8 rfl rfl _ rfl rfl Tryz.underlying80 Tryz.sizeImg ?_))
  have B1 := hide (b1.trans ((ba.mono (by omega)).trans (bb.mono (by omega))))
  have HR := hide (blk_below ha bb)
  have HP := hide hb
  have hsz : w.heap.size + 2 < wb.heap.size := by omega
  rw [s1] at HR sa
  rw [sa] at HP
  rw [show w.heap.size + 1 + 1 = w.heap.size + 2 by omega] at HP
  clear h1 b1 ha ba hb bb sb s1 sa
  go_loopw [9] (fun i w' => ∃ y : Nat, y ≤ 5 ∧ i = .int .i64 y ∧ Blk w' (w.heap.size + 2) 80 25 (upT F y 0) ∧ Blk w' (w.heap.size + 1) 80 25 (fun _ => 0) ∧ Below w.heap.size w w') (fun i _ => 5 - (intOf i).toNat)
  case atStart => exact ⟨0, by omega, rfl, by rw [upT_zero]; exact HP.out, HR.out, B1.out⟩
  case round =>
    clear B1 HP HR hsz
    obtain ⟨y, hy, rfl, hp, hr, hb⟩ := hrel
    have HP := hide hp; have HR := hide hr; have HB := hide hb
    clear hp hr hb
    by_cases hlt : y < 5
    · have hyI : (y : Int) < 5 := by omega
      go_wp2_with (first | (with_reducible refine wpList_indexRow y 12 rfl rfl _ _ rfl rfl rfl Tryz.underlying80 Tryz.isAgg78 Tryz.sizeOf78 hlt (by omega) ?_) | (with_reducible refine wpList_allocVec 5 5 rfl rfl rfl Tryz.zeroRow ?_; intro w2 h2 b2 s2) | (with_reducible refine wpList_storeVec h2 rfl (.tmp 5) (.tmp 12) rfl rfl rfl Tryz.sizeRow ?_; intro w3 h3 g3 s3) | (with_reducible refine wpList_loadVec h3 13 rfl rfl _ rfl rfl Tryz.underlying78 Tryz.sizeRow ?_))
      have B3 := hide (row_below HB.out b2 g3)
      have P3 := hide (row_blk HP.out b2 g3)
      have R3 := hide (row_blk HR.out b2 g3)
      clear h2 b2 s2 h3 g3 s3
      go_loopw [14] (fun i w' => ∃ x : Nat, x ≤ 5 ∧ i = .int .i64 x ∧ Blk w' (w.heap.size + 2) 80 25 (upT F y x) ∧ Blk w' (w.heap.size + 1) 80 25 (fun _ => 0) ∧ Below w.heap.size w w') (fun i _ => 5 - (intOf i).toNat)
      case atStart => exact ⟨0, by omega, rfl, P3.out, R3.out, B3.out⟩
      case round =>
        clear B3 P3 R3 HB HP HR
        obtain ⟨x, hx, rfl, hp, hr, hb⟩ := hrel
        have HP := hide hp; have HR := hide hr; have HB := hide hb
        clear hp hr hb
        by_cases hlx : x < 5
        · have hxI : (x : Int) < 5 := by omega
          have HS := hide (upT_set F y x hlt)
          have hcl := blk_cell HP.out (5 * x + y) (by omega)
          have hfr := blk_frozen HP.out (5 * x + y)
          have HA : Hid (0 + x * 5 + y * 1 = 5 * x + y) := hide (by omega)
          have HE : Hid (y * 5 + x = 5 * y + x) := hide (by omega)
          go_wp2_with (first | (with_reducible refine wpList_indexVec x 17 rfl rfl _ _ rfl rfl rfl Tryz.underlying78 Tryz.isAgg3 Tryz.sizeOf3 hlx ?_; rw [HE.out]) | (with_reducible refine wpList_indexAt x 21 rfl rfl _ _ rfl rfl rfl Tryz.underlying80 Tryz.sizeOf78 hlx ?_) | (with_reducible refine wpList_indexAt y 22 rfl rfl _ _ rfl rfl rfl Tryz.underlying78 Tryz.sizeOf3 hlt ?_; rw [HA.out]))
          go_roundw
          case rel => exact ⟨x + 1, by omega, by go_num, by have := blk_set HP.out (5 * x + y) (F (5 * y + x)); rw [HS.out] at this; exact this, blk_other HR.out _ _ (by simp), HB.out.setCell (by show w.heap.size ≤ w.heap.size + 2; omega) _⟩
          case measure => simp [intOf]; omega
        · obtain rfl : x = 5 := by omega
          go_wp2
          go_roundw
          case rel => exact ⟨y + 1, by omega, by go_num, blk_congr HP.out (upT_next F y), HR.out, HB.out⟩
          case measure => simp [intOf]; omega
    · obtain rfl : y = 5 := by omega
      have HP := hide (blk_congr HP.out (upT_all F))
      go_wp2_with (first | (with_reducible refine wpList_loadVec HP.out 25 rfl rfl _ rfl rfl Tryz.underlying80 Tryz.sizeImg ?_) | (with_reducible refine wpList_storeVec HR.out rfl (.tmp 2) (.tmp 25) rfl rfl rfl Tryz.sizeImg ?_; intro w4 h4 g4 s4))
      refine bodyPost_ret (results_vec rfl _ _ (w.heap.size + 1) 25 _ 80 _ _ rfl h4 Tryz.underlying80 Tryz.sizeImg) rfl ⟨rfl, ?_⟩
      exact HB.out.trans (grown_below g4 (fun k hk => by cases hk; exact Nat.le_succ _) HB.out.size)
end Go.Proofs.YtjnnoabaepmcnaaGreat
/-
  The program's images: inverted, distance, mirrored.
-/
namespace Go.Proofs.YtjnnoabaepmcnaaGreat
open Go.RowKit

def invN (v : Int) : Int := if v = -1 then -1 else 1 - v
def upI (F : Nat → Int) (k : Nat) (i : Nat) : Int := if i < k then invN (F i) else F i
theorem upI_zero (F : Nat → Int) : upI F 0 = F := by funext i; simp [upI]
theorem upI_set (F : Nat → Int) (k : Nat) (v : Int) (h : invN (F k) = v) : (fun j => if j = k then v else upI F k j) = upI F (k + 1) := by
  funext j
  simp only [upI]
  by_cases e : j = k
  · subst e; simp [h]
  · rw [if_neg e]
    by_cases hl : j < k
    · rw [if_pos hl, if_pos (by omega)]
    · rw [if_neg hl, if_neg (by omega)]
theorem upI_skip (F : Nat → Int) (k : Nat) (h : F k = -1) : upI F k = upI F (k + 1) := by
  funext j
  simp only [upI]
  by_cases hl : j < k
  · rw [if_pos hl, if_pos (by omega)]
  · by_cases e : j = k
    · subst e; simp [h, invN]
    · rw [if_neg hl, if_neg (by omega)]
theorem upI_all (F : Nat → Int) : ∀ i, i < 25 → upI F (5 * 5) i = invN (F i) := fun i hi => by rw [upI, if_pos (by omega)]

/-- What distance answers: the number, and whether the sizes are the same. -/
def DistRes (b : Bool) (n : Nat) (w : World) (e : Ending) (w' : World) : Prop := e = .returned (.tuple #[.int .i64 (if b then n else 0 : Nat), .bool b]) ∧ Below w.heap.size w w'
theorem dist_no {b : Bool} {n : Nat} {w : World} {w' : World} (hb : b = false) (h : Below w.heap.size w w') : DistRes b n w (.returned (.tuple #[.int .i64 0, .bool false])) w' := by subst hb; exact ⟨rfl, h⟩
/-- Numbers put over others, from place o on. -/
def overF (F : Nat → Int) (o : Nat) (r : List Int) (j : Nat) : Int := if o ≤ j ∧ j < o + r.length then r.getD (j - o) 0 else F j
theorem blk_setCells {g n : Nat} {T : TypeId} : ∀ (r : List Int) (o : Nat) (w : World) (F : Nat → Int), Blk w g T n F → Blk (w.setCells g o (ints r)) g T n (overF F o r) ∧ w.grownBy (w.setCells g o (ints r)) (some g) ∧ (w.setCells g o (ints r)).heap.size = w.heap.size
  | [], o, w, F, h => ⟨blk_congr h fun i _ => by simp only [overF, List.length_nil]; rw [if_neg (by omega)], ⟨rfl, rfl, rfl, Nat.le_refl _, fun _ _ _ => rfl⟩, rfl⟩
  | x :: r, o, w, F, h => by
    have h1 := blk_set h o x
    obtain ⟨h2, h3, h4⟩ := blk_setCells r (o + 1) _ _ h1
    refine ⟨blk_congr h2 fun i _ => ?_, ?_, ?_⟩
    · simp only [overF, List.length_cons]
      by_cases e : i = o
      · subst e; rw [if_neg (by omega), if_pos rfl, if_pos (by omega), Nat.sub_self]; rfl
      · by_cases hl : o + 1 ≤ i ∧ i < o + 1 + r.length
        · rw [if_pos hl, if_pos (by omega), show i - o = (i - (o + 1)) + 1 by omega]; rfl
        · rw [if_neg hl, if_neg e, if_neg (by omega)]
    · refine grown_trans (b := w.setCell ⟨g, o, none⟩ (.int .i64 x)) ⟨rfl, rfl, rfl, by simp [World.setCell], fun k _ hr => heap_setCell_other w _ k _ fun e => hr (by rw [e])⟩ h3
    · show ((w.setCell ⟨g, o, none⟩ (.int .i64 x)).setCells g (o + 1) (ints r)).heap.size = w.heap.size
      rw [h4]; simp [World.setCell]
theorem vec_ints (n : Nat) (F : Nat → Int) : vecL n F = ints (rowF n F) := by simp [vecL, ints, rowF]

/-- A row goes into the middle of a variable. -/
theorem wpList_storeMid {P : Program} {ops : Array Oper} {rest : List Oper} {o : Oper} {a : Act} {Q : Exit → Act → World → Prop} {W : World} {g b n s : Nat} {T T' : TypeId} {F G : Nat → Int} (hb : Blk W g T n F)
    (hgd : o.guard = none) (x y : Operand) (ho : o.op = .store T' x y) (hx : a.eval x = .pointer (some ⟨g, b, none⟩)) (hy : a.eval y = .agg (vec s G)) (hi : (P.info? T').map (·.size) = some s) (hn : b + s ≤ n)
    (h : ∀ w', Blk w' g T n (fun j => if b ≤ j ∧ j < b + s then G (j - b) else F j) → W.grownBy w' (some g) → w'.heap.size = W.heap.size → wpList P ops Q rest (a.put o.dst undef) w') : wpList P ops Q (o :: rest) a W := by
  refine wpList_store_mid hgd T' x y ho g b (vec s G) hx hy (fun j hj => ?_) (by rw [hi, vec_size]) (vec_one s G) ?_
  · rw [vec_size] at hj
    exact ⟨by rw [blk_cell hb (b + j) (by omega)]; rfl, blk_frozen hb _⟩
  · have e : (vec s G).toList = ints (rowF s G) := by rw [← vec_ints]; rfl
    obtain ⟨h1, h2, h3⟩ := blk_setCells (rowF s G) b W F hb
    rw [e]
    refine h _ (blk_congr h1 fun i _ => ?_) h2 h3
    simp only [overF, rowF_len]
    by_cases hl : b ≤ i ∧ i < b + s
    · rw [if_pos hl, if_pos hl, List.getD_eq_getElem?_getD, List.getElem?_eq_getElem (by rw [rowF_len]; omega), Option.getD_some, rowF_at]
    · rw [if_neg hl, if_neg hl]

def mirR (n : Nat) (G : Nat → Int) (j : Nat) : Int := if j < n then G (n - 1 - j) else G j
end Go.Proofs.YtjnnoabaepmcnaaGreat
/-
  The program's images: mirrored; the exported functions.
-/
namespace Go.Proofs.YtjnnoabaepmcnaaGreat
open Go.RowKit

def mirM (C : Nat) (f : Nat → Nat → Int) (y x : Nat) : Int := f y (C - 1 - x)
def upMir (R C : Nat) (f : Nat → Nat → Int) (y : Nat) (i : Nat) : Int := if i / 5 < y then imgF R C (mirM C f) i else imgF R C f i
theorem upMir_zero (R C : Nat) (f : Nat → Nat → Int) : upMir R C f 0 = imgF R C f := by funext i; simp [upMir]
theorem upMir_all (R C : Nat) (f : Nat → Nat → Int) : ∀ i, i < 25 → upMir R C f 5 i = imgF R C (mirM C f) i := fun i hi => by rw [upMir, if_pos (by omega)]
theorem upMir_step (R C : Nat) (f : Nat → Nat → Int) (y n : Nat) (hC : C ≤ 5) (hn : n = if y < R then C else 0) : ∀ i, i < 25 →
    (if 0 + y * 5 ≤ i ∧ i < 0 + y * 5 + 5 then mirR n (fun j => imgF R C f (y * 5 + j)) (i - (0 + y * 5)) else upMir R C f y i) = upMir R C f (y + 1) i := fun i hi => by
  by_cases hl : 0 + y * 5 ≤ i ∧ i < 0 + y * 5 + 5
  · rw [if_pos hl, upMir, if_pos (by omega)]
    simp only [mirR, imgF]
    have e1 : i / 5 = y := by omega
    have e2 : i - (0 + y * 5) = i % 5 := by omega
    rw [e1, e2]
    by_cases hy : y < R
    · rw [if_pos hy] at hn
      subst hn
      by_cases hx : i % 5 < n
      · rw [if_pos hx, if_pos (by omega), if_pos ⟨hy, hx⟩, mirM, show (y * 5 + (n - 1 - i % 5)) / 5 = y by omega, show (y * 5 + (n - 1 - i % 5)) % 5 = n - 1 - i % 5 by omega]
      · rw [if_neg hx, if_neg (by omega), if_neg (by omega)]
    · rw [if_neg hy] at hn
      subst hn
      rw [if_neg (by omega), if_neg (by omega), if_neg (by omega)]
  · rw [if_neg hl, upMir, upMir]
    by_cases h2 : i / 5 < y
    · rw [if_pos h2, if_pos (by omega)]
    · rw [if_neg h2, if_neg (by omega)]

end Go.Proofs.YtjnnoabaepmcnaaGreat
/-
  The program's exported functions on images.
-/
namespace Go.Proofs.YtjnnoabaepmcnaaGreat
open Go.RowKit

def trM (f : Nat → Nat → Int) (y x : Nat) : Int := f x y
def invM (f : Nat → Nat → Int) (y x : Nat) : Int := 1 - f y x
theorem img_tr {R C : Nat} {f : Nat → Nat → Int} (h : Img R C f) : Img C R (trM f) := ⟨h.c1, h.c2, h.r1, h.r2, fun y x hy hx => h.cell x y hx hy⟩
theorem img_mir {R C : Nat} {f : Nat → Nat → Int} (h : Img R C f) : Img R C (mirM C f) := ⟨h.r1, h.r2, h.c1, h.c2, fun y x hy hx => h.cell y (C - 1 - x) hy (by omega)⟩
theorem img_inv {R C : Nat} {f : Nat → Nat → Int} (h : Img R C f) : Img R C (invM f) := ⟨h.r1, h.r2, h.c1, h.c2, fun y x hy hx => by rcases h.cell y x hy hx with e | e <;> simp [invM, e]⟩
theorem transposed_img (R C : Nat) (f : Nat → Nat → Int) (w : World) (_hI : Img R C f) :
    Calls Tryz.prog 74 #[.agg (vec 25 (imgF R C f))] w fun e w' => e = .returned (.agg (vec 25 (imgF C R (trM f)))) ∧ Below w.heap.size w w' := by
  rw [← vec_congr (n := 25) (F := fun i => imgF R C f (5 * (i % 5) + i / 5)) (G := imgF C R (trM f)) fun i hi => ?_]
  · exact transposed_any _ _
  · simp only [imgF, trM, show (5 * (i % 5) + i / 5) / 5 = i % 5 by omega, show (5 * (i % 5) + i / 5) % 5 = i / 5 by omega]
    by_cases h : i % 5 < R ∧ i / 5 < C
    · rw [if_pos h, if_pos ⟨h.2, h.1⟩]
    · rw [if_neg h, if_neg fun e => h ⟨e.2, e.1⟩]
set_option maxHeartbeats 400000 in
theorem implTransposeOf_no (v : Value) (m : List (List Int)) (w : World) (hin : InMat w v m) (h : okB m = false) :
    Calls Tryz.prog 65 #[v] w (MatRes [] w) := by
  have HI := hide hin; have H := hide h
  clear hin h
  go_enter Tryz.func65, Tryz.ntmps65
  go_wp2_with fail
  refine (imageOf_no v m _ HI.out H.out).mono ?_
  rintro e w1 ⟨rfl, b1⟩
  have B1 := hide b1
  clear b1
  go_wp2_with (first | (with_reducible refine wpList_allocVec 25 3 rfl rfl rfl Tryz.zeroImg ?_; intro wa ha ba sa) | (with_reducible refine wpList_storeVec ha rfl (.tmp 3) (.tmp 8) rfl rfl rfl Tryz.sizeImg ?_; intro wb hb gb sb) | (with_reducible refine wpList_loadVec hb 12 rfl rfl _ rfl rfl Tryz.underlying80 Tryz.sizeImg ?_))
  go_ret
  exact matRes_nil (B1.out.trans ((ba.mono B1.out.size).trans (grown_below gb (fun k hk => by cases hk; exact B1.out.size) (by have := B1.out.size; omega))))
set_option maxHeartbeats 400000 in
theorem implTransposeOf_yes (v : Value) (R C : Nat) (f : Nat → Nat → Int) (w : World) (hin : InMat w v (mkM R C f)) (hI : Img R C f) :
    Calls Tryz.prog 65 #[v] w (MatRes (mkM C R (trM f)) w) := by
  have HI := hide hin; have H := hide hI
  clear hin hI
  go_enter Tryz.func65, Tryz.ntmps65
  go_wp2_with fail
  refine (imageOf_yes v R C f _ HI.out H.out).mono ?_
  rintro e w1 ⟨rfl, b1⟩
  have B1 := hide b1
  clear b1
  go_wp2_with (first | (with_reducible refine wpList_allocVec 25 3 rfl rfl rfl Tryz.zeroImg ?_; intro wa ha ba sa) | (with_reducible refine wpList_storeVec ha rfl (.tmp 3) (.tmp 8) rfl rfl rfl Tryz.sizeImg ?_; intro wb hb gb sb) | (with_reducible refine wpList_loadVec hb 12 rfl rfl _ rfl rfl Tryz.underlying80 Tryz.sizeImg ?_))
  have B2 := hide (B1.out.trans ((ba.mono B1.out.size).trans (grown_below gb (fun k hk => by cases hk; exact B1.out.size) (by have := B1.out.size; omega))))
  clear ha ba sa hb gb sb
  refine (transposed_img R C f _ H.out).mono ?_
  rintro e w3 ⟨rfl, b3⟩
  have B3 := hide (B2.out.trans (b3.mono B2.out.size))
  clear b3
  go_wp2_with fail
  refine (lists_any C R (trM f) _ (img_tr H.out)).mono ?_
  rintro e w4 ⟨v4, rfl, o4, b4⟩
  have O4 := hide (ownMat_mono o4 B3.out.size (Nat.le_refl _)); have B4 := hide (B3.out.trans (b4.mono B3.out.size))
  clear o4 b4
  go_wp2
  go_ret
  exact ⟨_, rfl, O4.out, B4.out⟩

/-- The cell of a valid image, or -1. -/
def atM (R C : Nat) (f : Nat → Nat → Int) (y x : Int) : Int := if 0 ≤ y ∧ y < R ∧ 0 ≤ x ∧ x < C then f y.toNat x.toNat else -1
theorem img_zero {R C : Nat} (hR : 1 ≤ R ∧ R ≤ 5) (hC : 1 ≤ C ∧ C ≤ 5) : Img R C zeroM := ⟨hR.1, hR.2, hC.1, hC.2, fun _ _ _ _ => .inl rfl⟩
theorem whiteImage_img (R C : Nat) (w : World) :
    Calls Tryz.prog 86 #[.int .i64 R, .int .i64 C] w fun e w' => e = .returned (.agg (vec 25 (imgF R C zeroM))) ∧ Below w.heap.size w w' := by
  rw [← vec_congr (n := 25) (F := whiteF R C) (G := imgF R C zeroM) fun i hi => ?_]
  · exact whiteImage_any _ _ _
  · simp only [whiteF, imgF, zeroM]
    by_cases h : i / 5 < R ∧ i % 5 < C
    · rw [if_pos h, if_neg (by omega)]
    · rw [if_neg h, if_pos (by omega)]
end Go.Proofs.YtjnnoabaepmcnaaGreat
/-
  l04Gap, WorstColumns, Exists, SlackOf of the model.
-/
namespace Go.Proofs.YtjnnoabaepmcnaaGreat
open Go.RowKit

set_option maxHeartbeats 1000000 in
theorem gap_any (va vb : Value) (r c : List Int) (k : Nat) (w : World) (ha : InRow w va r) (hb : InRow w vb c) (h : sumsOk r c = true) (hk : k ≤ c.length) :
    Calls Tryz.prog 66 #[va, vb, .int .i64 k] w fun e w' => e = .returned (.int .i64 (((conjL r c.length).take k).sum - ((sortD c).take k).sum)) ∧ Below w.heap.size w w' := by
  obtain ⟨hr, hc, hrb, hcb, -⟩ := sumsOk_yes h
  have HA := hide ha; have HB := hide hb
  have HCJ := hide (conj_yes (l := r) hc hr.2 hrb)
  have HS1 := hide (small_perm (sortD_perm c) (small_of (m := r.length) hc.2 (by omega) hcb))
  have HS2 := hide (small_conj (n := c.length) hr.2 hc.2)
  have HL1 := hide (sortD_len c)
  have HL2 : Hid ((conjL r c.length).length = c.length) := hide (by rw [conjL, tabL_len])
  have HC5 := hide hc
  obtain ⟨b, cb, rfl, hmb, -⟩ := hb
  unfold maxLen at hmb
  obtain ⟨C, hC⟩ : ∃ C, C = c.length := ⟨_, rfl⟩
  have HC := hide hC
  rw [← hC] at HB HCJ HS2 HL1 HL2 HC5 hmb hk ⊢
  have hs1 := small_sum HS1.out k
  have hs2 := small_sum HS2.out k
  have HT1 := hide (small_take HS1.out k); have HT2 := hide (small_take HS2.out k)
  obtain ⟨X, hX⟩ : ∃ X, X = ((conjL r C).take k).sum := ⟨_, rfl⟩
  obtain ⟨Y, hY⟩ : ∃ Y, Y = ((sortD c).take k).sum := ⟨_, rfl⟩
  have HX := hide hX; have HY := hide hY
  rw [← hX] at hs2 ⊢
  rw [← hY] at hs1 ⊢
  obtain ⟨y1, y2⟩ := hs1
  obtain ⟨x1, x2⟩ := hs2
  clear ha h hr hc hrb hcb hC hX hY
  go_enter Tryz.func66, Tryz.ntmps66
  go_wp2_with fail
  refine (specConj_any va r (C : Int) _ HA.out).mono ?_
  rw [HCJ.out]
  rintro e w1 ⟨u1, rfl, ho, hb⟩
  obtain ⟨g1, c1, rfl, h1, h2, h3, -⟩ := rowAt_own ho (by rw [HL2.out]; exact HC5.out.1)
  have HR1 := hide (rowAt_take (rowAt_own ho (by rw [HL2.out]; exact HC5.out.1)) (show k ≤ (conjL r C).length by rw [HL2.out]; exact hk))
  have HB1 := hide hb
  rw [HL2.out] at h1 ⊢
  unfold maxLen at h2
  clear ho hb
  go_wp2_with fail
  refine (l03Total_any _ _ _ HR1.out HT2.out).mono ?_
  rw [← HX.out]
  rintro e w' ⟨rfl, rfl⟩
  go_wp2_with fail
  refine (specSortedDown_any _ c _ (inRow_below HB.out HB1.out) (by have := HC5.out; have := HC.out; omega)).mono ?_
  rintro e w2 ⟨u2, rfl, ho, hb⟩
  obtain ⟨g2, c2, rfl, h4, h5, h6, -⟩ := rowAt_own ho (by rw [HL1.out]; exact HC5.out.1)
  have HR2 := hide (rowAt_take (rowAt_own ho (by rw [HL1.out]; exact HC5.out.1)) (show k ≤ (sortD c).length by rw [HL1.out]; exact hk))
  have HB2 := hide (HB1.out.trans (hb.mono HB1.out.size))
  rw [HL1.out] at h4 ⊢
  unfold maxLen at h5
  clear ho hb
  go_wp2_with fail
  refine (l03Total_any _ _ _ HR2.out HT1.out).mono ?_
  rw [← HY.out]
  rintro e w' ⟨rfl, rfl⟩
  go_wp2
  go_ret
  exact ⟨rfl, HB2.out⟩

theorem boundsL_gap {r c : List Int} {i : Nat} (h : i < (boundsL r c).length) : ((conjL r c.length).take (i + 1)).sum - ((sortD c).take (i + 1)).sum = (boundsL r c)[i].2 - (boundsL r c)[i].1 := by
  have : (boundsL r c)[i] = _ := tabB_at h
  rw [this]
set_option maxHeartbeats 1000000 in
theorem specWorst_any (va vb : Value) (r c : List Int) (w : World) (ha : InRow w va r) (hb : InRow w vb c) :
    Calls Tryz.prog 54 #[va, vb] w fun e w' => e = .returned (.int .i64 (worstOf r c)) ∧ Below w.heap.size w w' := by
  have HA := hide ha; have HB := hide hb
  clear ha
  cases h : sumsOk r c with
  | false =>
    rw [worstOf, if_neg (by rw [h]; decide)]
    have H := hide h
    clear h hb
    go_enter Tryz.func54, Tryz.ntmps54
    go_wp2_with ((with_reducible refine (specSumsOk_any va vb r c _ HA.out HB.out).mono ?_); rw [H.out]; rintro e w1 ⟨rfl, b1⟩; have B1 := hide b1; clear b1)
    go_ret
    exact ⟨rfl, B1.out⟩
  | true =>
    rw [worstOf, if_pos h]
    have H := hide h
    have HBL := hide (boundsL_len r c)
    have HGAP := hide fun i hi => boundsL_gap (r := r) (c := c) (i := i) hi
    have HC5 := hide (sumsOk_yes h).2.1
    have HCALL := hide fun (k : Nat) (hk : k ≤ c.length) (w : World) (ha : InRow w va r) (hb : InRow w vb c) => gap_any va vb r c k w ha hb h hk
    obtain ⟨b, cb, rfl, hmb, -⟩ := hb
    unfold maxLen at hmb
    obtain ⟨C, hC⟩ : ∃ C, C = c.length := ⟨_, rfl⟩
    rw [← hC] at HB HBL HC5 HCALL hmb HGAP ⊢
    obtain ⟨bs, hbs⟩ : ∃ bs, bs = boundsL r c := ⟨_, rfl⟩
    rw [← hbs] at HBL HGAP ⊢
    obtain ⟨hc1, hc2⟩ := HC5.out
    clear h hC hbs
    go_enter Tryz.func54, Tryz.ntmps54
    go_wp2_with ((with_reducible refine (specSumsOk_any va _ r c _ HA.out HB.out).mono ?_); rw [H.out]; rintro e w1 ⟨rfl, b1⟩; have B1 := hide b1; clear b1)
    go_loopw [5] (fun i wr => ∃ k : Nat, k ≤ C ∧ i = .int .i64 ((k : Int) + 1) ∧ firstB bs 0 = firstB (bs.drop k) k ∧ Below w.heap.size w wr) (fun i _ => (C + 1 - intOf i).toNat)
    case atStart => exact ⟨0, Nat.zero_le _, rfl, rfl, B1.out⟩
    case round =>
      clear B1
      obtain ⟨k, hk, rfl, hf, hb⟩ := hrel
      have HF := hide hf; have B2 := hide hb
      clear hf hb
      by_cases hlt : k < C
      · have hk' : k < bs.length := by rw [HBL.out]; exact hlt
        have HD := hide (firstB_drop hk')
        have HG := hide (HGAP.out k hk')
        have HCL := hide (HCALL.out (k + 1) (by omega))
        rw [HG.out] at HCL
        obtain ⟨z, hz⟩ : ∃ z, z = bs[k].2 - bs[k].1 := ⟨_, rfl⟩
        rw [← hz] at HD HCL
        clear hz HG
        by_cases hbr : z < 0
        · have HR : Hid (firstB bs 0 = k) := hide (by rw [HF.out, HD.out, if_pos hbr])
          go_wp2_with (go_at_call 66; refine (HCL.out _ (inRow_below HA.out B2.out) (inRow_below HB.out B2.out)).mono ?_; rintro e w3 ⟨rfl, b3⟩; have B3 := hide (B2.out.trans (b3.mono B2.out.size)); clear b3)
          go_ret
          exact ⟨ret_int (by rw [HR.out]), B3.out⟩
        · have HR : Hid (firstB bs 0 = firstB (bs.drop (k + 1)) ((k + 1 : Nat) : Int)) := hide (by rw [HF.out, HD.out, if_neg hbr])
          go_wp2_with (go_at_call 66; refine (HCL.out _ (inRow_below HA.out B2.out) (inRow_below HB.out B2.out)).mono ?_; rintro e w3 ⟨rfl, b3⟩; have B3 := hide (B2.out.trans (b3.mono B2.out.size)); clear b3)
          go_roundw
          case rel => exact ⟨k + 1, by omega, by go_num, HR.out, B3.out⟩
          case measure => simp [intOf]; omega
      · have HR : Hid (firstB bs 0 = -1) := hide (by rw [HF.out, List.drop_of_length_le (by have := HBL.out; omega)]; rfl)
        go_wp2
        go_ret
        exact ⟨ret_int (by rw [HR.out]; rfl), B2.out⟩
set_option maxHeartbeats 400000 in
theorem specExists_any (va vb : Value) (r c : List Int) (w : World) (ha : InRow w va r) (hb : InRow w vb c) :
    Calls Tryz.prog 35 #[va, vb] w fun e w' => e = .returned (.bool (existsOf r c)) ∧ Below w.heap.size w w' := by
  have HA := hide ha; have HB := hide hb
  clear ha hb
  cases h : sumsOk r c with
  | false =>
    rw [existsOf, h]
    have H := hide h
    clear h
    go_enter Tryz.func35, Tryz.ntmps35
    go_wp2_with ((with_reducible refine (specSumsOk_any va vb r c _ HA.out HB.out).mono ?_); rw [H.out]; rintro e w1 ⟨rfl, b1⟩; have B1 := hide b1; clear b1)
    go_ret
    exact ⟨rfl, B1.out⟩
  | true =>
    rw [existsOf, h]
    have H := hide h
    obtain ⟨F, hF⟩ : ∃ F, F = worstOf r c := ⟨_, rfl⟩
    have HF := hide hF
    rw [← hF]
    clear h hF
    go_enter Tryz.func35, Tryz.ntmps35
    go_wp2_with (first | ((with_reducible refine (specSumsOk_any va vb r c _ HA.out HB.out).mono ?_); rw [H.out]; rintro e w1 ⟨rfl, b1⟩; have B1 := hide b1; clear b1) | ((with_reducible refine (specWorst_any va vb r c _ (inRow_below HA.out B1.out) (inRow_below HB.out B1.out)).mono ?_); rw [← HF.out]; rintro e w2 ⟨rfl, b2⟩; have B2 := hide (B1.out.trans (b2.mono B1.out.size)); clear b2))
    go_ret
    exact ⟨ret_bool (by by_cases e : F = 0 <;> simp [e]), B2.out⟩

end Go.Proofs.YtjnnoabaepmcnaaGreat
