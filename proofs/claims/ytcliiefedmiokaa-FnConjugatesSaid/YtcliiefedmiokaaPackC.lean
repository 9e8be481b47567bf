/-
  Texts of this claim, one behind the other: Bfs, Reach, White, Arr, SpecE, Each.
-/
import Derived.Test.YtcliiefedmiokaaPackB
import Derived.Test.YtcliiefedmiokaaPackA
import Derived.Laws.CopyOwn
import Derived.Orders
import Derived.OrdersHeld
/-
  A search in breadth over images and switches: the first path to each image comes before all others.
-/
namespace Go.Proofs.Ytcliiefedmiokaa

theorem getD_snoc_lt {α : Type} (l : List α) (x d : α) {i : Nat} (h : i < l.length) : (l ++ [x]).getD i d = l.getD i d := by
  simp [List.getD_eq_getElem?_getD, List.getElem?_append_left h]
theorem getD_snoc_eq {α : Type} (l : List α) (x d : α) : (l ++ [x]).getD l.length d = x := by simp [List.getD_eq_getElem?_getD]
theorem getD_mem {α : Type} {l : List α} {d : α} {i : Nat} (h : i < l.length) : l.getD i d ∈ l := by
  rw [List.getD_eq_getElem?_getD, List.getElem?_eq_getElem h]; exact List.getElem_mem h
theorem mem_getD {α : Type} {l : List α} (d : α) {x : α} (h : x ∈ l) : ∃ i, i < l.length ∧ l.getD i d = x := by
  obtain ⟨i, hi, e⟩ := List.getElem_of_mem h
  exact ⟨i, hi, by rw [List.getD_eq_getElem?_getD, List.getElem?_eq_getElem hi]; exact e⟩
theorem val_pre (p q : List Sw) : val p ≤ val (p ++ q) := by
  rw [val_append]
  have : 626 ^ 0 ≤ 626 ^ q.length := Nat.pow_le_pow_right (by decide) (Nat.zero_le _)
  rw [Nat.pow_zero] at this
  have h2 := Nat.mul_le_mul_left (val p) this
  omega

/-- Image a is under way, its switches up to number K are done. -/
structure Bfs (m : List (List Int)) (L : List (List (List Int))) (W : List (List Sw)) (a K : Nat) : Prop where
  len : W.length = L.length
  pos : 0 < L.length
  head : L.getD 0 [] = m
  le : a ≤ L.length
  best : ∀ i, i < L.length → Best m (L.getD i []) (W.getD i [])
  sorted : ∀ i j, i < j → j < L.length → val (W.getD i []) < val (W.getD j [])
  pend : a < L.length → ∀ i, i < L.length → val (W.getD i []) ≤ val (W.getD a []) * 626 + K
  done : ∀ i, i < a → ∀ s, swB (L.getD i []) s = true → flipM (L.getD i []) s ∈ L
  half : a < L.length → ∀ s, swB (L.getD a []) s = true → numS s ≤ K → flipM (L.getD a []) s ∈ L
  tree : ∀ i, i < L.length → (W.getD i [] = [] ∧ L.getD i [] = m) ∨ ∃ j s, j < i ∧ W.getD i [] = W.getD j [] ++ [s] ∧ swB (L.getD j []) s = true ∧ L.getD i [] = flipM (L.getD j []) s

theorem bfs_start (m : List (List Int)) : Bfs m [m] [[]] 0 0 := by
  have h0 : ∀ i, i < [m].length → i = 0 := fun i hi => by simp at hi; exact hi
  refine ⟨rfl, by simp, rfl, by simp, fun i hi => ?_, fun i j hij hj => ?_, fun _ i hi => ?_, fun i hi => by omega, fun _ s _ hs => ?_, fun i hi => ?_⟩
  · obtain rfl := h0 i hi; exact best_nil m
  · have := h0 j hj; omega
  · obtain rfl := h0 i hi; simp [val]
  · unfold numS at hs; omega
  · obtain rfl := h0 i hi; exact .inl ⟨rfl, rfl⟩
theorem exit_of {m : List (List Int)} {L : List (List (List Int))} (hm : m ∈ L) : ∀ (q : List Sw) (x : List (List Int)), goM m q = some x → x ∉ L → ∃ q1 s q2 y, q = q1 ++ s :: q2 ∧ goM m q1 = some y ∧ y ∈ L ∧ swB y s = true ∧ flipM y s ∉ L := by
  intro q
  induction q using snoc_ind with
  | h0 => intro x h hx; cases h; exact absurd hm hx
  | h1 p s ih =>
    intro x h hx
    obtain ⟨t, h1, h2, rfl⟩ := goM_unsnoc h
    by_cases ht : t ∈ L
    · exact ⟨p, s, [], t, rfl, h1, ht, h2, hx⟩
    · obtain ⟨q1, s1, q2, y, rfl, g1, g2, g3, g4⟩ := ih t h1 ht
      exact ⟨q1, s1, q2 ++ [s], y, by simp, g1, g2, g3, g4⟩
theorem bfs_node {R C : Nat} {m : List (List Int)} {L : List (List (List Int))} {W : List (List Sw)} {a K : Nat} (hm : Node R C m) (h : Bfs m L W a K) {i : Nat} (hi : i < L.length) : Node R C (L.getD i []) := goM_node hm (h.best i hi).1
theorem bfs_head {m : List (List Int)} {L : List (List (List Int))} {W : List (List Sw)} {a K : Nat} (h : Bfs m L W a K) : m ∈ L := by
  have := getD_mem (d := []) h.pos
  rwa [h.head] at this
set_option maxRecDepth 100000 in
theorem bfs_known {m : List (List Int)} {L : List (List (List Int))} {W : List (List Sw)} {a K : Nat} {s : Sw} {R C : Nat} (hm : Node R C m) (h : Bfs m L W a K) (ha : a < L.length) (hs : swB (L.getD a []) s = true) (hK : K ≤ numS s)
    (hall : ∀ s', swB (L.getD a []) s' = true → numS s' < numS s → numS s' ≤ K) (hx : flipM (L.getD a []) s ∈ L) : Bfs m L W a (numS s) := by
  refine ⟨h.len, h.pos, h.head, h.le, h.best, h.sorted, fun h1 i hi => ?_, h.done, fun h1 s' hs' hn => ?_, h.tree⟩
  · have := h.pend h1 i hi; omega
  · by_cases e : numS s' < numS s
    · exact h.half h1 s' hs' (hall s' hs' e)
    · obtain ⟨i, hi, rfl⟩ := swB_num (bfs_node hm h ha) hs
      obtain ⟨j, hj, rfl⟩ := swB_num (bfs_node hm h ha) hs'
      rw [num_dec, num_dec] at hn e
      obtain rfl : i = j := by omega
      exact hx
set_option maxRecDepth 100000 in
theorem bfs_new {m : List (List Int)} {L : List (List (List Int))} {W : List (List Sw)} {a K : Nat} {s : Sw} {R C : Nat} (hm : Node R C m) (h : Bfs m L W a K) (ha : a < L.length) (hs : swB (L.getD a []) s = true) (hK : K ≤ numS s)
    (hall : ∀ s', swB (L.getD a []) s' = true → numS s' < numS s → numS s' ≤ K) (hx : flipM (L.getD a []) s ∉ L) : Bfs m (L ++ [flipM (L.getD a []) s]) (W ++ [W.getD a [] ++ [s]]) a (numS s) := by
  have haW : a < W.length := by rw [h.len]; exact ha
  have hnum : ∀ j, j < L.length → ∀ s', swB (L.getD j []) s' = true → 1 ≤ numS s' ∧ numS s' ≤ 625 := fun j hj s' hs' => by
    obtain ⟨i, hi, rfl⟩ := swB_num (bfs_node hm h hj) hs'
    rw [num_dec]; omega
  have hKs : K < numS s := by
    refine Nat.lt_of_le_of_ne hK fun e => hx (h.half ha s hs (by omega))
  have hn := hnum a ha s hs
  have hval : val (W.getD a [] ++ [s]) = val (W.getD a []) * 626 + numS s := val_snoc _ _
  have hb := h.best a ha
  have hbest : Best m (flipM (L.getD a []) s) (W.getD a [] ++ [s]) := by
    refine ⟨goM_snoc hb.1 hs, fun q hq => ?_⟩
    obtain ⟨q1, s1, q2, y, rfl, g1, g2, g3, g4⟩ := exit_of (bfs_head h) q _ hq hx
    obtain ⟨j, hj, rfl⟩ := mem_getD [] g2
    have e1 : val (q1 ++ [s1]) ≤ val (q1 ++ s1 :: q2) := by
      have := val_pre (q1 ++ [s1]) q2
      simpa using this
    rw [val_snoc] at e1
    have e2 := (h.best j hj).2 q1 g1
    have e3 := hnum j hj s1 g3
    rw [hval]
    rcases Nat.lt_trichotomy j a with hja | rfl | hja
    · exact absurd (h.done j hja s1 g3) g4
    · by_cases e4 : numS s1 < numS s
      · exact absurd (h.half ha s1 g3 (hall s1 g3 e4)) g4
      · omega
    · have := h.sorted a j hja hj
      omega
  refine ⟨by simp [h.len], by simp, ?_, by simp only [List.length_append, List.length_singleton]; omega, fun i hi => ?_, fun i j hij hj => ?_, fun _ i hi => ?_, fun i hi s' hs' => ?_, fun _ s' hs' hn' => ?_, fun i hi => ?_⟩
  · rw [getD_snoc_lt _ _ _ h.pos]; exact h.head
  · simp only [List.length_append, List.length_singleton] at hi
    by_cases e : i < L.length
    · rw [getD_snoc_lt _ _ _ e, getD_snoc_lt _ _ _ (by rw [h.len]; exact e)]; exact h.best i e
    · obtain rfl : i = L.length := by omega
      have e1 := getD_snoc_eq W (W.getD a [] ++ [s]) []
      rw [h.len] at e1
      rw [getD_snoc_eq, e1]; exact hbest
  · simp only [List.length_append, List.length_singleton] at hj
    rw [getD_snoc_lt W _ _ (by rw [h.len]; omega)]
    by_cases e : j < L.length
    · rw [getD_snoc_lt _ _ _ (by rw [h.len]; exact e)]; exact h.sorted i j hij e
    · obtain rfl : j = L.length := by omega
      have e1 := getD_snoc_eq W (W.getD a [] ++ [s]) []
      rw [h.len] at e1
      rw [e1, hval]
      have := h.pend ha i hij
      omega
  · simp only [List.length_append, List.length_singleton] at hi
    rw [getD_snoc_lt W _ _ haW]
    by_cases e : i < L.length
    · rw [getD_snoc_lt _ _ _ (by rw [h.len]; exact e)]
      have := h.pend ha i e
      omega
    · obtain rfl : i = L.length := by omega
      have e1 := getD_snoc_eq W (W.getD a [] ++ [s]) []
      rw [h.len] at e1
      rw [e1, hval]; exact Nat.le_refl _
  · rw [getD_snoc_lt _ _ _ (by omega)] at hs' ⊢
    exact List.mem_append_left _ (h.done i hi s' hs')
  · rw [getD_snoc_lt _ _ _ ha] at hs' ⊢
    by_cases e : numS s' < numS s
    · exact List.mem_append_left _ (h.half ha s' hs' (hall s' hs' e))
    · obtain ⟨i, hi, rfl⟩ := swB_num (bfs_node hm h ha) hs
      obtain ⟨j, hj, rfl⟩ := swB_num (bfs_node hm h ha) hs'
      rw [num_dec, num_dec] at hn' e
      obtain rfl : i = j := by omega
      exact List.mem_append_right _ (List.mem_singleton.2 rfl)
  · simp only [List.length_append, List.length_singleton] at hi
    by_cases e : i < L.length
    · rw [getD_snoc_lt _ _ _ e, getD_snoc_lt _ _ _ (by rw [h.len]; exact e)]
      rcases h.tree i e with h1 | ⟨j, t, hj, h1, h2, h3⟩
      · exact .inl h1
      · exact .inr ⟨j, t, hj, by rw [getD_snoc_lt _ _ _ (by rw [h.len]; omega)]; exact h1, by rw [getD_snoc_lt _ _ _ (by omega)]; exact h2, by rw [getD_snoc_lt _ _ _ (by omega)]; exact h3⟩
    · obtain rfl : i = L.length := by omega
      have e1 := getD_snoc_eq W (W.getD a [] ++ [s]) []
      rw [h.len] at e1
      rw [getD_snoc_eq, e1]
      exact .inr ⟨a, s, ha, by rw [getD_snoc_lt _ _ _ haW], by rw [getD_snoc_lt _ _ _ ha]; exact hs, by rw [getD_snoc_lt _ _ _ ha]⟩
set_option maxRecDepth 100000 in
theorem bfs_next {m : List (List Int)} {L : List (List (List Int))} {W : List (List Sw)} {a K : Nat} (h : Bfs m L W a K) (ha : a < L.length) (hK : K ≤ 625) (hall : ∀ s, swB (L.getD a []) s = true → numS s ≤ K) : Bfs m L W (a + 1) 0 := by
  refine ⟨h.len, h.pos, h.head, by omega, h.best, h.sorted, fun h1 i hi => ?_, fun i hi s hs => ?_, fun _ s _ hs => ?_, h.tree⟩
  · have := h.pend ha i hi
    have := h.sorted a (a + 1) (Nat.lt_succ_self _) h1
    omega
  · by_cases e : i < a
    · exact h.done i e s hs
    · obtain rfl : i = a := by omega
      exact h.half ha s hs (hall s hs)
  · unfold numS at hs; omega
theorem bfs_all {m t : List (List Int)} {L : List (List (List Int))} {W : List (List Sw)} {K : Nat} (h : Bfs m L W L.length K) : ∀ q : List Sw, goM m q = some t → t ∈ L := by
  intro q hq
  refine Classical.byContradiction fun hx => ?_
  obtain ⟨q1, s1, q2, y, rfl, g1, g2, g3, g4⟩ := exit_of (bfs_head h) q _ hq hx
  obtain ⟨j, hj, rfl⟩ := mem_getD [] g2
  exact g4 (h.done j hj s1 g3)
theorem bfs_inj {m : List (List Int)} {L : List (List (List Int))} {W : List (List Sw)} {a K : Nat} {R C : Nat} (hm : Node R C m) (h : Bfs m L W a K) {i j : Nat} (hi : i < L.length) (hj : j < L.length) (e : L.getD i [] = L.getD j []) : i = j := by
  have h1 := h.best i hi
  rw [e] at h1
  have h2 := best_one hm h1 (h.best j hj)
  rcases Nat.lt_trichotomy i j with h3 | h3 | h3
  · have := h.sorted i j h3 hj; rw [h2] at this; omega
  · exact h3
  · have := h.sorted j i h3 hi; rw [h2] at this; omega

/-- How many there can be. -/
def bitsN : List Int → Nat
  | [] => 0
  | x :: l => (if x = 1 then 1 else 0) + 2 * bitsN l
theorem bits_lt : ∀ l : List Int, bitsN l < 2 ^ l.length
  | [] => by simp [bitsN]
  | x :: l => by
    have := bits_lt l
    simp only [bitsN, List.length_cons, Nat.pow_succ]
    split <;> omega
theorem bits_inj : ∀ {l k : List Int}, l.length = k.length → (∀ x ∈ l, x = 0 ∨ x = 1) → (∀ x ∈ k, x = 0 ∨ x = 1) → bitsN l = bitsN k → l = k
  | [], [], _, _, _, _ => rfl
  | [], _ :: _, h, _, _, _ => by simp at h
  | _ :: _, [], h, _, _, _ => by simp at h
  | x :: l, y :: k, h, hl, hk, e => by
    have hx := hl x (by simp); have hy := hk y (by simp)
    simp only [bitsN] at e
    have e1 : x = y := by
      rcases hx with rfl | rfl <;> rcases hy with rfl | rfl <;> simp at e ⊢ <;> omega
    subst e1
    rw [bits_inj (l := l) (k := k) (by simpa using h) (fun z hz => hl z (by simp [hz])) (fun z hz => hk z (by simp [hz])) (by omega)]
theorem len_split {α : Type} (p : α → Bool) : ∀ l : List α, l.length = (l.filter p).length + (l.filter fun x => !p x).length
  | [] => rfl
  | x :: l => by
    have := len_split p l
    simp only [List.filter_cons, List.length_cons]
    cases p x <;> simp <;> omega
theorem nodup_len : ∀ (N : Nat) (l : List Nat), l.Nodup → (∀ x ∈ l, x < N) → l.length ≤ N
  | 0, l, _, h => by
    cases l with
    | nil => exact Nat.le_refl _
    | cons x l => exact absurd (h x (by simp)) (Nat.not_lt_zero _)
  | N + 1, l, hn, h => by
    have h1 := nodup_len N (l.filter fun x => decide (x < N)) (hn.filter _) (fun x hx => by simpa using (List.mem_filter.1 hx).2)
    have h2 : (l.filter fun x => !decide (x < N)).length ≤ 1 := by
      have hnd : (l.filter fun x => !decide (x < N)).Nodup := hn.filter _
      have hall : ∀ x ∈ l.filter (fun x => !decide (x < N)), x = N := fun x hx => by
        obtain ⟨a, b⟩ := List.mem_filter.1 hx
        have := h x a
        simp at b; omega
      match hq : l.filter (fun x => !decide (x < N)) with
      | [] => simp
      | [_] => simp
      | x :: y :: r =>
        rw [hq] at hnd hall
        have e1 := hall x (by simp); have e2 := hall y (by simp)
        rw [e1, e2] at hnd
        simp at hnd
    have h3 := len_split (fun x => decide (x < N)) l
    omega
theorem node_flat {R C : Nat} {m : List (List Int)} (h : Node R C m) : m.flatten.length = R * C ∧ ∀ x ∈ m.flatten, x = 0 ∨ x = 1 := by
  obtain ⟨f, rfl, hI⟩ := h
  constructor
  · have := cells_mkM R C f
    unfold cellsM at this
    rw [List.length_flatten]; exact this
  · intro x hx
    obtain ⟨r, hr, hx⟩ := List.mem_flatten.1 hx
    unfold mkM at hr
    obtain ⟨y, hy, rfl⟩ := List.mem_map.1 hr
    unfold rowF at hx
    obtain ⟨z, hz, rfl⟩ := List.mem_map.1 hx
    exact hI.cell y z (List.mem_range.1 hy) (List.mem_range.1 hz)
theorem flat_inj {C : Nat} (hC : 0 < C) : ∀ {a b : List (List Int)}, (∀ r ∈ a, r.length = C) → (∀ r ∈ b, r.length = C) → a.flatten = b.flatten → a = b
  | [], [], _, _, _ => rfl
  | [], r :: b, _, hb, h => by
    have h1 := congrArg List.length h
    have h2 := hb r (by simp)
    simp only [List.flatten_nil, List.length_nil, List.flatten_cons, List.length_append] at h1
    omega
  | r :: a, [], ha, _, h => by
    have h1 := congrArg List.length h
    have h2 := ha r (by simp)
    simp only [List.flatten_nil, List.length_nil, List.flatten_cons, List.length_append] at h1
    omega
  | r :: a, s :: b, ha, hb, h => by
    simp only [List.flatten_cons] at h
    obtain ⟨e1, e2⟩ := List.append_inj h (by rw [ha r (by simp), hb s (by simp)])
    rw [e1, flat_inj hC (fun q hq => ha q (by simp [hq])) (fun q hq => hb q (by simp [hq])) e2]
theorem node_inj {R C : Nat} {m t : List (List Int)} (hm : Node R C m) (ht : Node R C t) (e : bitsN m.flatten = bitsN t.flatten) : m = t := by
  obtain ⟨a1, a2⟩ := node_flat hm; obtain ⟨b1, b2⟩ := node_flat ht
  have hf := bits_inj (by rw [a1, b1]) a2 b2 e
  obtain ⟨f, rfl, hI⟩ := hm
  obtain ⟨g, rfl, -⟩ := ht
  have hr : ∀ (h : Nat → Nat → Int), ∀ r ∈ mkM R C h, r.length = C := fun h r hr => by
    unfold mkM at hr
    obtain ⟨y, -, rfl⟩ := List.mem_map.1 hr
    exact rowF_len _ _
  exact flat_inj (by have := hI.c1; omega) (hr f) (hr g) hf
theorem bfs_size {m : List (List Int)} {L : List (List (List Int))} {W : List (List Sw)} {a K : Nat} {R C : Nat} (hm : Node R C m) (hR : R ≤ 4) (hC : C ≤ 4) (h : Bfs m L W a K) : L.length ≤ 65536 := by
  have h1 := nodup_len 65536 ((List.range L.length).map fun i => bitsN (L.getD i []).flatten) ?_ ?_
  · simpa using h1
  · rw [List.nodup_iff_pairwise_ne, List.pairwise_map]
    refine List.Pairwise.imp_of_mem ?_ (List.pairwise_lt_range (n := L.length))
    intro i j hi hj hij e
    have hi := List.mem_range.1 hi; have hj := List.mem_range.1 hj
    have := bfs_inj hm h hi hj (node_inj (bfs_node hm h hi) (bfs_node hm h hj) e)
    omega
  · intro x hx
    obtain ⟨i, hi, rfl⟩ := List.mem_map.1 hx
    have hi := List.mem_range.1 hi
    have h1 := bits_lt (L.getD i []).flatten
    rw [(node_flat (bfs_node hm h hi)).1] at h1
    have h2 : R * C ≤ 4 * 4 := Nat.mul_le_mul hR hC
    exact Nat.lt_of_lt_of_le h1 (Nat.pow_le_pow_right (by decide) h2)
end Go.Proofs.Ytcliiefedmiokaa
/-
  Cells that all images with the same sums agree in: the alternating graph, and a search in it.
-/
namespace Go.Proofs.Ytcliiefedmiokaa
open Mx

/-- From a row to the columns of its black cells, from a column to the rows of its white cells. -/
def edge (R : Nat) (f : Nat → Nat → Int) (v w : Nat) : Bool := (decide (v < R) && (decide (R ≤ w) && f v (w - R) == 1)) || (decide (R ≤ v) && (decide (w < R) && f w (v - R) == 0))
def ClosedV (R C : Nat) (f : Nat → Nat → Int) (X : Nat → Bool) : Prop := ∀ v w, v < R + C → w < R + C → X v = true → edge R f v w = true → X w = true
def Rch (R C : Nat) (f : Nat → Nat → Int) (a v : Nat) : Prop := ∀ X, ClosedV R C f X → X a = true → X v = true
theorem rch_refl (R C : Nat) (f : Nat → Nat → Int) (a : Nat) : Rch R C f a a := fun _ _ h => h
theorem rch_step {R C : Nat} {f : Nat → Nat → Int} {a v w : Nat} (h : Rch R C f a v) (hv : v < R + C) (hw : w < R + C) (he : edge R f v w = true) : Rch R C f a w := fun X hX ha => hX v w hv hw (h X hX ha) he
theorem edge_rc {R : Nat} {f : Nat → Nat → Int} {v x : Nat} (hv : v < R) : edge R f v (R + x) = (f v x == 1) := by
  unfold edge
  rw [decide_eq_true hv, decide_eq_true (Nat.le_add_right R x), decide_eq_false (show ¬ R ≤ v by omega), Nat.add_sub_cancel_left]; simp
theorem edge_cr {R : Nat} {f : Nat → Nat → Int} {y x : Nat} (hy : y < R) : edge R f (R + x) y = (f y x == 0) := by
  unfold edge
  rw [decide_eq_false (show ¬ R + x < R by omega), decide_eq_true (Nat.le_add_right R x), decide_eq_true hy, Nat.add_sub_cancel_left]; simp

theorem S_eq_of_le {f g : Nat → Int} : ∀ n, (∀ i, i < n → f i ≤ g i) → S n f = S n g → ∀ i, i < n → f i = g i
  | 0, _, _, i, hi => absurd hi (Nat.not_lt_zero _)
  | n + 1, h, e, i, hi => by
    have h1 := S_le n fun i hi => h i (Nat.lt_succ_of_lt hi)
    have h2 := h n (Nat.lt_succ_self _)
    rw [S, S] at e
    by_cases e2 : i = n
    · subst e2; omega
    · exact S_eq_of_le n (fun i hi => h i (Nat.lt_succ_of_lt hi)) (by omega) i (by omega)
theorem S2_eq_of_le {f g : Nat → Nat → Int} (R C : Nat) (h : ∀ y x, y < R → x < C → f y x ≤ g y x) (e : S R (fun y => S C (f y)) = S R fun y => S C (g y)) : ∀ y x, y < R → x < C → f y x = g y x := fun y x hy hx =>
  S_eq_of_le C (fun x hx => h y x hy hx) (S_eq_of_le R (fun y hy => S_le C fun x hx => h y x hy hx) e y hy) x hx
theorem S_on (p : Bool) (f : Nat → Int) (n : Nat) : (if p then S n f else 0) = S n fun i => if p then f i else 0 := by
  cases p
  · simp [S_zero]
  · simp
theorem over_img {R C : Nat} {r c : Nat → Int} {f : Nat → Nat → Int} (hr : ∀ y, y < R → S C (f y) = r y) (hc : ∀ x, x < C → S R (fun y => f y x) = c x) (L O : Nat → Bool) :
    S R (on L r) - S C (on O c) = S R fun y => S C fun x => kc (L y) (O x) (f y x) (f y x) := by
  have e1 : S R (on L r) = S R fun y => S C fun x => if L y then f y x else 0 := S_congr R fun y hy => by
    unfold on; rw [← hr y hy, S_on]
  have e2 : S C (on O c) = S R fun y => S C fun x => if O x then f y x else 0 := by
    rw [S_swap]
    exact S_congr C fun x hx => by unfold on; rw [← hc x hx, S_on]
  rw [e1, e2, ← S_sub]
  exact S_congr R fun y _ => by
    rw [← S_sub]
    exact S_congr C fun x _ => by unfold kc; cases L y <;> cases O x <;> simp
section
variable {R C : Nat} {f : Nat → Nat → Int}
/-- What a closed set leaves no choice in. -/
theorem closed_fix {g : Nat → Nat → Int} (hf : ∀ y x, y < R → x < C → f y x = 0 ∨ f y x = 1) (hg : ∀ y x, y < R → x < C → g y x = 0 ∨ g y x = 1) (hr : ∀ y, y < R → S C (g y) = S C (f y)) (hc : ∀ x, x < C → S R (fun y => g y x) = S R fun y => f y x)
    {X : Nat → Bool} (hX : ClosedV R C f X) : ∀ y x, y < R → x < C → X y ≠ X (R + x) → g y x = f y x := by
  have e := (over_img (r := fun y => S C (f y)) (c := fun x => S R fun y => f y x) (fun _ _ => rfl) (fun _ _ => rfl) (fun y => !X y) fun x => !X (R + x)).symm.trans (over_img (f := g) hr hc (fun y => !X y) fun x => !X (R + x))
  have hle : ∀ y x, y < R → x < C → kc (!X y) (!X (R + x)) (g y x) (g y x) ≤ kc (!X y) (!X (R + x)) (f y x) (f y x) := fun y x hy hx => by
    have h1 := hg y x hy hx
    unfold kc
    cases h2 : X y <;> cases h3 : X (R + x) <;> simp
    · have : ¬ edge R f (R + x) y = true := fun he => by have := hX _ _ (by omega) (by omega) h3 he; rw [h2] at this; cases this
      rw [edge_cr hy] at this
      rcases hf y x hy hx with h4 | h4
      · rw [h4] at this; exact absurd rfl this
      · rw [h4]; omega
    · have : ¬ edge R f y (R + x) = true := fun he => by have := hX _ _ (by omega) (by omega) h2 he; rw [h3] at this; cases this
      rw [edge_rc hy] at this
      rcases hf y x hy hx with h4 | h4
      · rw [h4]; omega
      · rw [h4] at this; exact absurd rfl this
  intro y x hy hx hne
  have h5 := S2_eq_of_le R C hle e.symm y x hy hx
  unfold kc at h5
  cases h2 : X y <;> cases h3 : X (R + x) <;> simp [h2, h3] at h5 hne <;> omega
/-- A cell that can be reached in the graph is free. -/
theorem free_of_rch (hf : ∀ y x, y < R → x < C → f y x = 0 ∨ f y x = 1) {y x : Nat} (hy : y < R) (hx : x < C) (h : if f y x = 1 then Rch R C f (R + x) y else Rch R C f y (R + x)) :
    ∃ g : Nat → Nat → Int, (∀ y x, y < R → x < C → g y x = 0 ∨ g y x = 1) ∧ (∀ y, y < R → S C (g y) = S C (f y)) ∧ (∀ x, x < C → S R (fun y => g y x) = S R fun y => f y x) ∧ g y x = 1 - f y x := by
  have hbd : ∀ (lo hi : Nat → Nat → Int), (∀ a b, a < R → b < C → (lo a b = if a = y ∧ b = x then 1 - f y x else 0) ∧ (hi a b = if a = y ∧ b = x then 1 - f y x else 1)) →
      ∃ g : Nat → Nat → Int, (∀ y x, y < R → x < C → g y x = 0 ∨ g y x = 1) ∧ (∀ y, y < R → S C (g y) = S C (f y)) ∧ (∀ x, x < C → S R (fun y => g y x) = S R fun y => f y x) ∧ g y x = 1 - f y x := by
    intro lo hi hlh
    have h01 := hf y x hy hx
    obtain ⟨g, g1, g2, g3⟩ := exists_between R C (fun y => S C (f y)) (fun x => S R fun y => f y x) (S_swap f C R) _ lo hi (Nat.le_refl _) (fun a b ha hb => by
      obtain ⟨e1, e2⟩ := hlh a b ha hb
      rw [e1, e2]
      split <;> omega) (fun L O => by
      by_cases hov : over R C (fun y => S C (f y)) (fun x => S R fun y => f y x) lo hi L O ≤ 0
      · exact hov
      exfalso
      -- all cells give what they can, but for the one
      have hcell : ∀ a b, a < R → b < C → kc (L a) (O b) (f a b) (f a b) ≤ kc (L a) (O b) (hi a b) (lo a b) + if a = y ∧ b = x then 1 else 0 := fun a b ha hb => by
        obtain ⟨e1, e2⟩ := hlh a b ha hb
        have h1 := hf a b ha hb
        rw [e1, e2]
        by_cases e : a = y ∧ b = x
        · obtain ⟨rfl, rfl⟩ := e
          simp only [and_self, if_true]
          unfold kc; cases L a <;> cases O b <;> simp <;> omega
        · simp only [e, if_false]
          unfold kc; cases L a <;> cases O b <;> simp <;> omega
      have hone : (S R fun a => S C fun b => if a = y ∧ b = x then (1 : Int) else 0) = 1 := by
        rw [S_one R hy (fun a _ hne => by rw [S_congr C (g := fun _ => 0) (fun b _ => by simp [hne]), S_zero]), S_one C hx (fun b _ hne => by simp [hne])]
        simp
      have hsum : (S R fun a => S C fun b => kc (L a) (O b) (f a b) (f a b)) = S R fun a => S C fun b => kc (L a) (O b) (hi a b) (lo a b) + if a = y ∧ b = x then 1 else 0 := by
        have h1 : (S R fun a => S C fun b => kc (L a) (O b) (f a b) (f a b)) ≤ S R fun a => S C fun b => kc (L a) (O b) (hi a b) (lo a b) + if a = y ∧ b = x then 1 else 0 := S_le R fun a ha => S_le C fun b hb => hcell a b ha hb
        have h2 : (S R fun a => S C fun b => kc (L a) (O b) (hi a b) (lo a b) + if a = y ∧ b = x then 1 else 0) = (S R fun a => S C fun b => kc (L a) (O b) (hi a b) (lo a b)) + S R fun a => S C fun b => if a = y ∧ b = x then (1 : Int) else 0 := by
          rw [← S_add]
          exact S_congr R fun a _ => by rw [← S_add]
        rw [hone] at h2
        unfold over at hov
        rw [over_img (fun _ _ => rfl) (fun _ _ => rfl) L O] at hov
        omega
      have heq := S2_eq_of_le R C hcell hsum
      have hcl : ClosedV R C f fun v => if v < R then !L v else !O (v - R) := by
        intro v w hv hw hXv he
        dsimp only at hXv ⊢
        unfold edge at he
        rw [Bool.or_eq_true] at he
        rcases he with he | he
        · simp only [Bool.and_eq_true, decide_eq_true_eq, beq_iff_eq] at he
          obtain ⟨h1, h2, h3⟩ := he
          rw [if_pos h1] at hXv
          rw [if_neg (show ¬ w < R by omega)]
          have h4 := heq v (w - R) h1 (by omega)
          obtain ⟨e1, e2⟩ := hlh v (w - R) h1 (by omega)
          rw [e1, e2] at h4
          unfold kc at h4
          cases hL : L v with
          | true => rw [hL] at hXv; cases hXv
          | false =>
            cases hO : O (w - R) with
            | false => rfl
            | true =>
              rw [hL, hO, h3] at h4
              by_cases e : v = y ∧ w - R = x
              · obtain ⟨rfl, rfl⟩ := e
                simp [h3] at h4
              · simp [e] at h4
        · simp only [Bool.and_eq_true, decide_eq_true_eq, beq_iff_eq] at he
          obtain ⟨h1, h2, h3⟩ := he
          rw [if_neg (show ¬ v < R by omega)] at hXv
          rw [if_pos h2]
          have h4 := heq w (v - R) h2 (by omega)
          obtain ⟨e1, e2⟩ := hlh w (v - R) h2 (by omega)
          rw [e1, e2] at h4
          unfold kc at h4
          cases hO : O (v - R) with
          | true => rw [hO] at hXv; cases hXv
          | false =>
            cases hL : L w with
            | false => rfl
            | true =>
              rw [hL, hO, h3] at h4
              by_cases e : w = y ∧ v - R = x
              · obtain ⟨rfl, rfl⟩ := e
                simp [h3] at h4
              · simp [e] at h4
      have h4 := heq y x hy hx
      obtain ⟨e1, e2⟩ := hlh y x hy hx
      rw [e1, e2] at h4
      unfold kc at h4
      simp only [and_self, if_true] at h4
      rcases h01 with h0 | h1
      · rw [if_neg (by omega)] at h
        rw [h0] at h4
        have h5 := h _ hcl
        simp only [hy, if_true, show ¬ R + x < R by omega, if_false, Nat.add_sub_cancel_left] at h5
        cases hL : L y <;> cases hO : O x <;> simp [hL, hO] at h4 h5
      · rw [if_pos h1] at h
        rw [h1] at h4
        have h5 := h _ hcl
        simp only [hy, if_true, show ¬ R + x < R by omega, if_false, Nat.add_sub_cancel_left] at h5
        cases hL : L y <;> cases hO : O x <;> simp [hL, hO] at h4 h5)
    refine ⟨g, fun a b ha hb => ?_, g2, g3, ?_⟩
    · have := g1 a b ha hb
      obtain ⟨e1, e2⟩ := hlh a b ha hb
      rw [e1, e2] at this
      split at this <;> omega
    · have := g1 y x hy hx
      obtain ⟨e1, e2⟩ := hlh y x hy hx
      rw [e1, e2] at this
      simp only [and_self, if_true] at this
      omega
  exact hbd (fun a b => if a = y ∧ b = x then 1 - f y x else 0) (fun a b => if a = y ∧ b = x then 1 - f y x else 1) fun _ _ _ _ => ⟨rfl, rfl⟩
/-- And the other way round. -/
theorem rch_of_free {g : Nat → Nat → Int} (hf : ∀ y x, y < R → x < C → f y x = 0 ∨ f y x = 1) {y x : Nat} (hy : y < R) (hx : x < C) (hg : ∀ y x, y < R → x < C → g y x = 0 ∨ g y x = 1) (hr : ∀ y, y < R → S C (g y) = S C (f y)) (hc : ∀ x, x < C → S R (fun y => g y x) = S R fun y => f y x)
    (hne : g y x = 1 - f y x) : if f y x = 1 then Rch R C f (R + x) y else Rch R C f y (R + x) := by
  have h01 := hf y x hy hx
  have key : ∀ X, ClosedV R C f X → X y = X (R + x) := fun X hX => by
    apply Classical.byContradiction
    intro h
    have := closed_fix hf hg hr hc hX y x hy hx h
    omega
  split
  · intro X hX h; rw [key X hX]; exact h
  · intro X hX h; rw [← key X hX]; exact h
end

/-- The search: vertex number a is under way, its edges to the vertices below k are done. -/
structure Rb (R C : Nat) (f : Nat → Nat → Int) (s : Nat) (q : List Nat) (a k : Nat) : Prop where
  nodup : q.Nodup
  mem : ∀ v ∈ q, v < R + C ∧ Rch R C f s v
  start : s ∈ q
  le : a ≤ q.length
  done : ∀ i, i < a → ∀ w, w < R + C → edge R f (q.getD i 0) w = true → w ∈ q
  half : a < q.length → ∀ w, w < k → w < R + C → edge R f (q.getD a 0) w = true → w ∈ q
theorem rb_start {R C : Nat} {f : Nat → Nat → Int} {s : Nat} (hs : s < R + C) : Rb R C f s [s] 0 0 :=
  ⟨by simp, fun v hv => by obtain rfl := List.mem_singleton.1 hv; exact ⟨hs, rch_refl _ _ _ _⟩, List.mem_singleton.2 rfl, Nat.zero_le _, fun i hi => absurd hi (Nat.not_lt_zero _), fun _ w hw => absurd hw (Nat.not_lt_zero _)⟩
section
variable {R C : Nat} {f : Nat → Nat → Int} {s : Nat} {q : List Nat} {a k : Nat}
theorem rb_len (h : Rb R C f s q a k) : q.length ≤ R + C := nodup_len _ q h.nodup fun v hv => (h.mem v hv).1
theorem rb_at (h : Rb R C f s q a k) (ha : a < q.length) : q.getD a 0 < R + C := (h.mem _ (getD_mem ha)).1
theorem rb_skip (h : Rb R C f s q a k) (hk : edge R f (q.getD a 0) k = true → k ∈ q) : Rb R C f s q a (k + 1) :=
  ⟨h.nodup, h.mem, h.start, h.le, h.done, fun ha w hw hw2 he => by
    by_cases e : w = k
    · subst e; exact hk he
    · exact h.half ha w (by omega) hw2 he⟩
theorem rb_push (h : Rb R C f s q a k) (ha : a < q.length) (hk : k < R + C) (he : edge R f (q.getD a 0) k = true) (hn : k ∉ q) : Rb R C f s (q ++ [k]) a (k + 1) := by
  refine ⟨?_, fun v hv => ?_, List.mem_append_left _ h.start, by have := h.le; simp; omega, fun i hi w hw he2 => ?_, fun _ w hw hw2 he2 => ?_⟩
  · rw [List.nodup_append]
    exact ⟨h.nodup, by simp, fun x hx y hy e => by obtain rfl := List.mem_singleton.1 hy; exact hn (e ▸ hx)⟩
  · rcases List.mem_append.1 hv with hv | hv
    · exact h.mem v hv
    · obtain rfl := List.mem_singleton.1 hv
      exact ⟨hk, rch_step (h.mem _ (getD_mem (d := 0) ha)).2 (rb_at h ha) hk he⟩
  · rw [getD_snoc_lt _ _ _ (by have := h.le; omega)] at he2
    exact List.mem_append_left _ (h.done i hi w hw he2)
  · rw [getD_snoc_lt _ _ _ ha] at he2
    by_cases e : w = k
    · subst e; exact List.mem_append_right _ (List.mem_singleton.2 rfl)
    · exact List.mem_append_left _ (h.half ha w (by omega) hw2 he2)
theorem rb_next (h : Rb R C f s q a (R + C)) (ha : a < q.length) : Rb R C f s q (a + 1) 0 :=
  ⟨h.nodup, h.mem, h.start, ha, fun i hi w hw he => by
    by_cases e : i = a
    · subst e; exact h.half ha w hw hw he
    · exact h.done i (by omega) w hw he, fun _ w hw => absurd hw (Nat.not_lt_zero _)⟩
theorem rb_end (h : Rb R C f s q q.length k) {v : Nat} : v ∈ q ↔ v < R + C ∧ Rch R C f s v := by
  refine ⟨h.mem v, fun ⟨_, hr⟩ => ?_⟩
  have hcl : ClosedV R C f fun v => decide (v ∈ q) := fun v w _ hw hv he => by
    rw [decide_eq_true_eq] at hv ⊢
    obtain ⟨i, hi, e⟩ := mem_getD 0 hv
    exact h.done i hi w hw (by rw [e]; exact he)
  have := hr _ hcl (decide_eq_true h.start)
  rwa [decide_eq_true_eq] at this
end
end Go.Proofs.Ytcliiefedmiokaa
/-
  whiteImage.
-/
namespace Go.Proofs.Ytcliiefedmiokaa
open Go.RowKit

def whiteF (r c : Int) (i : Nat) : Int := if r ≤ (i / 5 : Nat) ∨ c ≤ (i % 5 : Nat) then -1 else 0
def upF (F : Nat → Int) (k : Nat) (i : Nat) : Int := if i < k then F i else 0
theorem Try.zeroImg (w : World) : (zeroValue 78).run Try.prog w = .ok (.agg (vec 25 fun _ => 0)) w := Try.zeroValue78 w
theorem Try.zeroRow (w : World) : (zeroValue 76).run Try.prog w = .ok (.agg (vec 5 fun _ => 0)) w := Try.zeroValue76 w
theorem Try.sizeImg : (Try.prog.info? 78).map (·.size) = some 25 := by kernel_rfl
theorem Try.sizeRow : (Try.prog.info? 76).map (·.size) = some 5 := by kernel_rfl

theorem upF_zero (F : Nat → Int) : upF F 0 = fun _ => 0 := by funext i; simp [upF]
theorem upF_set (F : Nat → Int) (k : Nat) (v : Int) (h : F k = v) : (fun j => if j = k then v else upF F k j) = upF F (k + 1) := by
  funext j
  simp only [upF]
  by_cases e : j = k
  · subst e; simp [h]
  · rw [if_neg e]
    by_cases hl : j < k
    · rw [if_pos hl, if_pos (by omega)]
    · rw [if_neg hl, if_neg (by omega)]
theorem upF_skip (F : Nat → Int) (k : Nat) (h : F k = 0) : upF F k = upF F (k + 1) := by
  funext j
  simp only [upF]
  by_cases hl : j < k
  · rw [if_pos hl, if_pos (by omega)]
  · by_cases e : j = k
    · subst e; simp [h]
    · rw [if_neg hl, if_neg (by omega)]
theorem upF_all (F : Nat → Int) (n k : Nat) (h : n ≤ k) : ∀ i, i < n → upF F k i = F i := fun i hi => by rw [upF, if_pos (by omega)]
theorem whiteF_at (r c : Int) (y x : Nat) (h : x < 5) : whiteF r c (5 * y + x) = if r ≤ (y : Nat) ∨ c ≤ (x : Nat) then -1 else 0 := by
  rw [whiteF, show (5 * y + x) / 5 = y by omega, show (5 * y + x) % 5 = x by omega]

set_option maxHeartbeats 400000 in
theorem whiteImage_any (r c : Int) (w : World) :
    Calls Try.prog 115 #[.int .i64 r, .int .i64 c] w fun e w' => e = .returned (.agg (vec 25 (whiteF r c))) ∧ Below w.heap.size w w' := by
  go_enter Try.func115, Try.ntmps115
  go_wp2_with (first | (with_reducible refine wpList_allocVec 25 4 rfl rfl rfl Try.zeroImg ?_; intro w1 h1 b1 s1) | (with_reducible refine wpList_allocVec 25 5 rfl rfl rfl Try.zeroImg ?_; intro w2 h2 b2 s2))
  rw [s1] at h2
  have b1' := b1.trans (b2.mono (by omega))
  have h1 := blk_below h1 b2
  have s2 : w2.heap.size = w.heap.size + 2 := by omega
  clear b1 s1 b2
  go_loopw [8] (fun i w' => ∃ y : Nat, y ≤ 5 ∧ i = .int .i64 y ∧ Blk w' (w.heap.size + 1) 78 25 (upF (whiteF r c) (5 * y)) ∧ Blk w' w.heap.size 78 25 (fun _ => 0) ∧ Below w.heap.size w w') (fun i _ => 5 - (intOf i).toNat)
  case atStart => exact ⟨0, by omega, rfl, by rw [Nat.mul_zero, upF_zero]; exact h2, h1, b1'⟩
  case round =>
    clear h1 h2 b1' s2
    obtain ⟨y, hy, rfl, hp, hr, hb⟩ := hrel
    by_cases hlt : y < 5
    · have hyI : (y : Int) < 5 := by omega
      go_wp2
      go_loopw [11] (fun i w' => ∃ x : Nat, x ≤ 5 ∧ i = .int .i64 x ∧ Blk w' (w.heap.size + 1) 78 25 (upF (whiteF r c) (5 * y + x)) ∧ Blk w' w.heap.size 78 25 (fun _ => 0) ∧ Below w.heap.size w w') (fun i _ => 5 - (intOf i).toNat)
      case atStart => exact ⟨0, by omega, rfl, hp, hr, hb⟩
      case round =>
        clear hp hr hb
        obtain ⟨x, hx, rfl, hp, hr, hb⟩ := hrel
        by_cases hlx : x < 5
        · by_cases hc : r ≤ (y : Int) ∨ c ≤ (x : Int)
          · have HS := hide (upF_set (whiteF r c) (5 * y + x) (-1) (by rw [whiteF_at r c y x hlx, if_pos hc]))
            have hcl := blk_cell hp (5 * y + x) (by omega)
            have hfr := blk_frozen hp (5 * y + x)
            have HA : Hid (0 + y * 5 + x * 1 = 5 * y + x) := hide (by omega)
            by_cases h1 : r ≤ (y : Int)
            all_goals
              try have h2 : c ≤ (x : Int) := by omega
              clear hc
              go_wp2_with (first | (with_reducible refine wpList_indexAt y 24 rfl rfl _ _ rfl rfl rfl Try.underlying78 Try.sizeOf76 hlt ?_) | (with_reducible refine wpList_indexAt x 25 rfl rfl _ _ rfl rfl rfl Try.underlying76 Try.sizeOf3 hlx ?_; rw [HA.out]))
              go_roundw
              case rel => exact ⟨x + 1, by omega, by go_num, by have := blk_set hp (5 * y + x) (-1); rw [HS.out] at this; exact this, blk_other hr _ _ (by simp), hb.setCell (by simp) _⟩
              case measure => simp [intOf]; omega
          · have h1 : (y : Int) < r := by omega
            have h2 : (x : Int) < c := by omega
            have HS := hide (upF_skip (whiteF r c) (5 * y + x) (by rw [whiteF_at r c y x hlx, if_neg hc]))
            clear hc
            go_wp2
            go_roundw
            case rel => exact ⟨x + 1, by omega, by go_num, by rw [HS.out] at hp; exact hp, hr, hb⟩
            case measure => simp [intOf]; omega
        · obtain rfl : x = 5 := by omega
          go_wp2
          go_roundw
          case rel => exact ⟨y + 1, by omega, by go_num, by rw [show 5 * (y + 1) = 5 * y + 5 by omega]; exact hp, hr, hb⟩
          case measure => simp [intOf]; omega
    · obtain rfl : y = 5 := by omega
      have hp := blk_congr hp (upF_all (whiteF r c) 25 (5 * 5) (by omega))
      go_wp2_with (first | (with_reducible refine wpList_loadVec hp 28 rfl rfl _ rfl rfl Try.underlying78 Try.sizeImg ?_) | (with_reducible refine wpList_storeVec hr rfl (.tmp 4) (.tmp 28) rfl rfl rfl Try.sizeImg ?_; intro w4 h4 g4 s4))
      refine bodyPost_ret (results_cell_row rfl _ _ w.heap.size 78 _ (0, 0) _ rfl h4 Try.underlying78 rfl (by rw [vec_size]; exact Try.sizeImg)) rfl ⟨rfl, ?_⟩
      exact hb.trans (grown_below g4 (fun k hk => by cases hk; exact Nat.le_refl _) hb.size)
end Go.Proofs.Ytcliiefedmiokaa
/-
  The program's images: imageOf, size, lists.
-/
namespace Go.Proofs.Ytcliiefedmiokaa
open Go.RowKit

theorem results_vec_tmp {P : Program} {fn : Func} {p t : Tmp} {ty : TypeId} (h : fn.results = #[.cell p ty, .tmp t]) (tmps : Array Value) (w : World) (g n m : Nat) (T e : TypeId) (F : Nat → Int)
    (hp : tmps.getD p undef = .pointer (some ⟨g, 0, none⟩)) (hb : Blk w g T n F) (hu : P.underlying ty = some (.array m e)) (hi : (P.info? ty).map (·.size) = some n) :
    (results fn tmps).run P w = .ok (.tuple #[.agg (vec n F), tmps.getD t undef]) w := by
  have hp' : tmps[p]?.getD undef = .pointer (some ⟨g, 0, none⟩) := by simpa using hp
  simp [results, h, hp', asAddr, run_loadVar_row w g T ty (vec n F) (0, 0) _ hb hu rfl (by rw [hi, vec_size])]
theorem results_vec {P : Program} {fn : Func} {p : Tmp} {ty : TypeId} (h : fn.results = #[.cell p ty]) (tmps : Array Value) (w : World) (g n m : Nat) (T e : TypeId) (F : Nat → Int)
    (hp : tmps.getD p undef = .pointer (some ⟨g, 0, none⟩)) (hb : Blk w g T n F) (hu : P.underlying ty = some (.array m e)) (hi : (P.info? ty).map (·.size) = some n) :
    (results fn tmps).run P w = .ok (.agg (vec n F)) w :=
  results_cell_row h tmps w g T (vec n F) (0, 0) _ hp hb hu rfl (by rw [hi, vec_size])

/-- The rows so far: of row y the first x cells, too. -/
def upRow (R C : Nat) (f : Nat → Nat → Int) (y : Nat) (i : Nat) : Int := if i / 5 < y then imgF R C f i else whiteF R C i
theorem upRow_zero (R C : Nat) (f : Nat → Nat → Int) : upRow R C f 0 = whiteF R C := by funext i; simp [upRow]
theorem upRow_all (R C : Nat) (f : Nat → Nat → Int) : ∀ i, i < 25 → upRow R C f R i = imgF R C f i := by
  intro i hi
  unfold upRow
  split
  · rfl
  · rename_i h; rw [whiteF, if_pos (by left; omega), imgF, if_neg (by omega)]
theorem upRow_step (R C : Nat) (f : Nat → Nat → Int) (y : Nat) (hy : y < R) (hR : R ≤ 5) (hC : C ≤ 5) : splice (vecL 25 (upRow R C f y)) (y * 5) (ints (rowF C (f y))) = vecL 25 (upRow R C f (y + 1)) := by
  have hl : (splice (vecL 25 (upRow R C f y)) (y * 5) (ints (rowF C (f y)))).length = 25 := by
    rw [length_splice _ _ _ (by rw [vecL_len, ints_len, rowF_len]; omega), vecL_len]
  apply List.ext_getElem
  · rw [hl, vecL_len]
  · intro i h1 h2
    have hi : i < 25 := by rw [hl] at h1; exact h1
    simp only [splice, vecL, ints, rowF]
    simp only [List.getElem_append, List.length_take, List.length_map, List.length_range, List.getElem_take, List.getElem_map, List.getElem_range, List.getElem_drop]
    by_cases a : i < y * 5
    · have : i < min (y * 5) 25 := by omega
      simp only [this, dif_pos]
      rw [upRow, upRow, if_pos (by omega), if_pos (by omega)]
    · have h0 : ¬ i < min (y * 5) 25 := by omega
      simp only [h0, dif_neg, not_false_eq_true]
      by_cases b : i < y * 5 + C
      · have h3 : i - min (y * 5) 25 < C := by omega
        simp only [h3, dif_pos]
        rw [upRow, if_pos (by omega), imgF, if_pos (by omega), show i - min (y * 5) 25 = i % 5 by omega, show y = i / 5 by omega]
      · have h3 : ¬ i - min (y * 5) 25 < C := by omega
        simp only [h3, dif_neg, not_false_eq_true]
        rw [show y * 5 + C + (i - min (y * 5) 25 - C) = i by omega]
        by_cases d : i / 5 < y + 1
        · rw [upRow, if_neg (by omega), upRow, if_pos d, whiteF, if_pos (by right; omega), imgF, if_neg (by omega)]
        · rw [upRow, if_neg (by omega), upRow, if_neg d]

theorem Try.builtImg : Try.prog.built 78 [] = some (vec 25 fun _ => 0) := by kernel_rfl
set_option maxHeartbeats 400000 in
theorem imageOf_no (v : Value) (m : List (List Int)) (w : World) (hin : InMat w v m) (h : okB m = false) :
    Calls Try.prog 74 #[v] w fun e w' => e = .returned (.tuple #[.agg (vec 25 fun _ => 0), .bool false]) ∧ Below w.heap.size w w' := by
  have HI := hide hin; have H := hide h
  clear hin h
  go_enter Try.func74, Try.ntmps74
  go_wp2_with (with_reducible refine wpList_allocVec 25 2 rfl rfl rfl Try.zeroImg ?_; intro w1 h1 b1 s1)
  have H1 := hide h1; have B1 := hide b1
  clear h1 b1
  go_wp2_with fail
  refine (implImageOk_any v m _ (inMat_below HI.out B1.out)).mono ?_
  rw [H.out]
  rintro e w2 ⟨rfl, rfl⟩
  go_wp2_with (first | (with_reducible refine wpList_buildVec 10 rfl rfl rfl Try.builtImg ?_) | (with_reducible refine wpList_storeVec H1.out rfl (.tmp 2) (.tmp 10) rfl rfl rfl Try.sizeImg ?_; intro w4 h4 g4 s4))
  refine bodyPost_ret (results_vec_tmp rfl _ _ w.heap.size 25 _ 78 _ _ rfl h4 Try.underlying78 Try.sizeImg) rfl ⟨rfl, ?_⟩
  exact B1.out.trans (grown_below g4 (fun k hk => by cases hk; exact Nat.le_refl _) B1.out.size)

set_option maxRecDepth 100000 in
set_option maxHeartbeats 1000000 in
theorem imageOf_yes (v : Value) (R C : Nat) (f : Nat → Nat → Int) (w : World) (hin : InMat w v (mkM R C f)) (hI : Img R C f) :
    Calls Try.prog 74 #[v] w fun e w' => e = .returned (.tuple #[.agg (vec 25 (imgF R C f)), .bool true]) ∧ Below w.heap.size w w' := by
  have HI := hide hin
  have hR := hI.r2; have hR1 := hI.r1; have hC := hI.c2; have hC1 := hI.c1
  have HOK := hide (img_ok hI)
  obtain ⟨g, o, c, rfl, hg, hcell⟩ := inMat_img hin (by omega) (by omega)
  have HC := hide hcell
  clear hin hcell hI
  go_enter Try.func74, Try.ntmps74
  go_wp2_with (with_reducible refine wpList_allocVec 25 2 rfl rfl rfl Try.zeroImg ?_; intro w1 h1 b1 s1)
  have H1 := hide h1; have B1 := hide b1
  clear h1 b1
  go_wp2_with fail
  refine (implImageOk_any _ _ _ (inMat_below HI.out B1.out)).mono ?_
  rw [HOK.out]
  rintro e w2 ⟨rfl, rfl⟩
  obtain ⟨g0, o0, c0, hx0, -⟩ := HC.out 0 (by omega)
  have hx0 := below_cell B1.out hg hx0
  rw [Nat.add_zero] at hx0
  go_wp2_with (first | (with_reducible refine (whiteImage_any (R : Int) (C : Int) _).mono ?_; rintro e w3 ⟨rfl, b3⟩) | (with_reducible refine wpList_allocVec 25 4 rfl rfl rfl Try.zeroImg ?_; intro w5 h5 b5 s5) | (with_reducible refine wpList_storeVec h5 rfl (.tmp 4) (.tmp 17) rfl rfl rfl Try.sizeImg ?_; intro w6 h6 g6 s6))
  have hlt3 : w.heap.size < w3.heap.size := by have := b3.size; omega
  have B3 := hide (B1.out.trans (b3.mono B1.out.size))
  have B6 := hide (B3.out.trans ((b5.mono B3.out.size).trans (grown_below g6 (fun k hk => by cases hk; omega) (by omega))))
  have H1 := hide (blk_grown (blk_below (blk_below H1.out b3) b5) g6 (by simp; omega))
  have h6' := hide h6
  have hs6 : w3.heap.size < w6.heap.size := blk_lt h6
  clear b3 b5 h5 s5 g6 s6 h6 hx0
  obtain ⟨p, hp⟩ : ∃ p, p = w3.heap.size := ⟨_, rfl⟩
  rw [← hp] at h6' hlt3 hs6 ⊢
  clear hp
  go_loopw [20] (fun i w' => ∃ y : Nat, y ≤ R ∧ i = .int .i64 y ∧ Blk w' p 78 25 (upRow R C f y) ∧ Blk w' w.heap.size 78 25 (fun _ => 0) ∧ Below w.heap.size w w') (fun i _ => R - (intOf i).toNat)
  case atStart => exact ⟨0, by omega, rfl, by rw [upRow_zero]; exact h6'.out, H1.out, B6.out⟩
  case round =>
    clear h6' H1 B6 B3 B1
    obtain ⟨y, hy, rfl, hp, hr, hb⟩ := hrel
    have HP := hide hp; have HR := hide hr; have HB := hide hb
    clear hp hr hb
    by_cases hlt : y < R
    · obtain ⟨g', o', c', hx, hg', hcell⟩ := HC.out y hlt
      have hx := below_cell HB.out hg hx
      have HCC := hide hcell
      have HP2 : Hid (wr.heap[p]? = some (.cells (vecL 25 (upRow R C f y)).toArray 78 (0, 0))) := HP.out
      have HST := hide (upRow_step R C f y hlt hR hC)
      have hyI : (y : Int) < 5 := by omega
      clear hcell
      obtain ⟨cs, hcs⟩ : ∃ cs, cs = ints (rowF C (f y)) := ⟨_, rfl⟩
      have HCS := hide hcs
      have hcl : cs.length = C := by rw [hcs, ints_len, rowF_len]
      have HCL := hide hcl
      clear hcs hcl
      have K1 : Hid (cs.length = Nat.min C 5) := hide (by rw [HCL.out]; show C = min C 5; omega)
      have K2 : Hid (0 < cs.length → some (⟨p, y * 5, none⟩ : Addr) = some ⟨p, y * 5, none⟩ ∧ ∃ ad, some (⟨g', o', none⟩ : Addr) = some ad ∧ ∀ j v, cs[j]? = some v → wr.cell? (ad.add j) = some v) := hide (by
        intro _
        refine ⟨rfl, _, rfl, fun j v hv => ?_⟩
        have hj : j < C := by have := (List.getElem?_eq_some_iff.1 hv).1; have := HCL.out; omega
        rw [HCS.out, ints_at _ j (by rw [rowF_len]; exact hj), rowF_at, Option.some.injEq] at hv
        subst hv
        rw [addr_add]
        exact below_cell HB.out hg' (HCC.out j hj))
      have K3 : Hid (y * 5 + cs.length ≤ (vecL 25 (upRow R C f y)).length) := hide (by rw [HCL.out, vecL_len]; omega)
      have K4 : Hid (∀ v ∈ cs, v.oneCell' = true) := hide (by
        intro v hv
        rw [HCS.out] at hv
        simp only [ints, List.mem_map] at hv
        obtain ⟨z, -, rfl⟩ := hv; rfl)
      go_wp2_with (first | (with_reducible refine wpList_indexAt y 26 rfl rfl _ _ rfl rfl rfl Try.underlying78 Try.sizeOf76 (by omega) ?_) | (refine wpList_copy_splice (o := ⟨some 29, _, _, _, _, _⟩) rfl (.tmp 27) (.tmp 28) 24 24 rfl 3 Try.underlying24 (by kernel_rfl) _ _ _ _ _ _ rfl rfl p (y * 5) (vecL 25 (upRow R C f y)) 78 HP2.out cs K1.out K2.out K3.out K4.out (w.heap.size + 1) wr (Below.refl _ _) hlt3 ?_; intro w7 h7 b7))
      go_roundw
      case rel =>
        refine ⟨y + 1, by omega, by go_num, ?_, ?_, HB.out.trans (b7.mono (by omega))⟩
        · have := h7.out
          rw [HCS.out, HST.out] at this; exact this
        · unfold Blk; rw [b7.block _ (Nat.lt_succ_self _)]; exact HR.out
      case measure => simp [intOf]; omega
    · obtain rfl : y = R := by omega
      have HP := hide (blk_congr HP.out (upRow_all y C f))
      go_wp2_with (first | (with_reducible refine wpList_loadVec HP.out 31 rfl rfl _ rfl rfl Try.underlying78 Try.sizeImg ?_) | (with_reducible refine wpList_storeVec HR.out rfl (.tmp 2) (.tmp 31) rfl rfl rfl Try.sizeImg ?_; intro w8 h8 g8 s8))
      refine bodyPost_ret (results_vec_tmp rfl _ _ w.heap.size 25 _ 78 _ _ rfl h8 Try.underlying78 Try.sizeImg) rfl ⟨rfl, ?_⟩
      exact HB.out.trans (grown_below g8 (fun k hk => by cases hk; exact Nat.le_refl _) HB.out.size)
end Go.Proofs.Ytcliiefedmiokaa
/-
  l02Empty of the model.
-/
namespace Go.Proofs.Ytcliiefedmiokaa
open Go.RowKit

set_option maxHeartbeats 1000000 in
theorem l02Empty_any (R C : Nat) (w : World) (hR : R ≤ 5) (hC : C ≤ 5) :
    Calls Try.prog 104 #[.int .i64 R, .int .i64 C] w (MatRes (mkM R C zeroM) w) := by
  have HZ : Hid (ints (rowF C (zeroM 0)) = List.replicate C (.int .i64 0)) := hide (by
    apply List.ext_getElem
    · simp [ints, rowF]
    · intro i h1 h2; simp [ints, rowF, zeroM])
  go_enter Try.func104, Try.ntmps104
  go_wp2
  go_loopw [5, 6] (fun o i w' => ∃ (y : Nat) (v : Value), y ≤ R ∧ i = .int .i64 y ∧ v = o ∧ OwnMat w' w.heap.size w'.heap.size v (mkM y C zeroM) ∧ Below w.heap.size w w') (fun _ i _ => R - (intOf i).toNat)
  case atStart => exact ⟨0, _, by omega, rfl, rfl, ⟨[], World.ownsRow_made (base := w.heap.size) w #[] 0 (Nat.le_refl _) (Nat.zero_le _) rfl, (fun k e => by simp [Value.ownBlock] at e; subst e; simp), (fun i h => absurd h (Nat.not_lt_zero _)), fun i j _ h => absurd h (Nat.not_lt_zero _)⟩, (Below.refl _ _).alloc (Nat.le_refl _) _⟩
  case round =>
    obtain ⟨y, v, hy, rfl, rfl, hown, hb⟩ := hrel
    have HO := hide hown; have HB := hide hb
    clear hown hb
    by_cases hlt : y < R
    · have hyI : (y : Int) < R := by omega
      have hsz := HB.out.size
      go_wp2_with (first | (at_make; refine wpList_new wr.heap.size C (.int .i64 0) rfl _ _ rfl Try.underlying24 Try.infoInt rfl (by decide) rfl rfl (by omega) (Nat.le_refl _) ?_; intro w1 hown1 hb1 hg1; have O1 := hide (ownMat_below HO.out hb1); have HU : Hid (w1.ownsRow wr.heap.size 3 1 (.slice (some ⟨wr.heap.size, 0, none⟩) C C) (rowF C (zeroM y)).length (ints (rowF C (zeroM y)))) := hide (by rw [rowF_len, show ints (rowF C (zeroM y)) = List.replicate C (.int .i64 0) from HZ.out]; exact hown1); have HB1 := hide (HB.out.trans (hb1.mono hsz)); have hs1 := hb1.size; clear hown1 hb1 hg1; obtain ⟨vs, hv, hvh, hvr, hva⟩ := O1.out; have hvl := mkM_len y C zeroM; rw [hvl] at hv; have HV := hide hv; have HVR := hide hvr; have HVA := hide hva; clear hv hvh hvr hva hvl) | (at_builtin; refine wpList_push HV.out (.slice (some ⟨wr.heap.size, 0, none⟩) C C) (.slice none 0 0) rfl _ _ rfl Try.underlying22 Try.infoInts rfl (by decide) rfl rfl rfl (by omega) (by omega) ?_; intro v' w6 hown1 hb1 hg1))
      go_roundw
      case rel =>
        have hs6 := hb1.size
        have hp := ownMat_push (r := rowF C (zeroM y)) (hi' := w6.heap.size) HVR.out HVA.out (by rw [mkM_len]; exact HV.out) (by rw [rowF_len]; have := HU.out; rw [rowF_len] at this; exact this) hsz (by omega) (by omega) hg1 (by rw [mkM_len]; exact hown1) (fun k e => (hown1.lt k e).2)
        rw [← mkM_succ] at hp
        exact ⟨y + 1, _, by omega, by go_num, rfl, hp, HB1.out.trans (hb1.mono (by omega))⟩
      case measure => simp [intOf]; omega
    · obtain rfl : y = R := by omega
      go_wp2
      go_ret
      exact ⟨_, rfl, HO.out, HB.out⟩

end Go.Proofs.Ytcliiefedmiokaa
/-
  A region that draws its order, met operation by operation: what each leaves in its slot, whatever came up before it.
-/
namespace Go.Proofs.Ytcliiefedmiokaa
open Go.RowKit

def unl (listed : Array Bool) : Nat → Nat
  | 0 => 0
  | k + 1 => unl listed k + if listed.getD k true then 0 else 1
theorem unl_set (listed : Array Bool) (i : Nat) (hi : listed.getD i true = false) : ∀ k, unl (listed.setIfInBounds i true) k + (if i < k then 1 else 0) = unl listed k
  | 0 => rfl
  | k + 1 => by
    have hlt : i < listed.size := by
      rcases Nat.lt_or_ge i listed.size with h' | h'
      · exact h'
      · simp [Array.getElem?_eq_none h'] at hi
    have ih := unl_set listed i hi k
    simp only [unl]
    by_cases e : i = k
    · subst e
      have h1 : (listed.setIfInBounds i true).getD i true = true := by simp [hlt]
      rw [h1, hi, if_neg (Nat.lt_irrefl i)] at *
      simp at ih ⊢; omega
    · rw [getD_set_ne true e]
      by_cases h : i < k
      · have h2 : (if i < k + 1 then 1 else 0) = 1 := if_pos (by omega)
        rw [if_pos h] at ih; rw [h2]; omega
      · have h2 : (if i < k + 1 then 1 else 0) = 0 := if_neg (by omega)
        rw [if_neg h] at ih; rw [h2]; omega

section
variable {P : Program} {md : Region.Mode} {ops : Array Oper} {Q : Exit → Act → World → Prop}

/-- Slot t is none that the region writes. -/
def outside (ops : Array Oper) (t : Tmp) : Bool := ops.all fun o => o.dst != some t
/-- Each slot is written once, and lies in the frame; each operation waits for earlier ones alone. -/
def orderly (md : Region.Mode) (n : Nat) : Nat → List Tmp → List Oper → Bool
  | _, _, [] => true
  | k, seen, o :: r => (match o.dst with | some d => decide (d < n) && !seen.contains d | none => true) && o.after.all (fun e => !Region.binds md e || decide (e.on < k)) && orderly md n (k + 1) (match o.dst with | some d => d :: seen | none => seen) r
theorem orderly_dst {md : Region.Mode} {n : Nat} : ∀ (l : List Oper) (k : Nat) (seen : List Tmp), orderly md n k seen l = true → ∀ (i : Nat) (o : Oper) (d : Tmp), l[i]? = some o → o.dst = some d → d < n ∧ d ∉ seen ∧ ∀ (j : Nat) (o' : Oper), l[j]? = some o' → i < j → o'.dst ≠ some d
  | [], _, _, _, i, o, d, h, _ => by simp at h
  | x :: r, k, seen, h, i, o, d, hi, hd => by
    simp only [orderly, Bool.and_eq_true] at h
    obtain ⟨⟨h1, -⟩, h2⟩ := h
    cases i with
    | zero =>
      simp only [List.getElem?_cons_zero, Option.some.injEq] at hi
      subst hi
      rw [hd] at h1 h2
      simp only [Bool.and_eq_true, decide_eq_true_eq, Bool.not_eq_true', List.contains_eq_mem, decide_eq_false_iff_not] at h1
      refine ⟨h1.1, h1.2, fun j o' hj hij e => ?_⟩
      cases j with
      | zero => omega
      | succ j =>
        simp only [List.getElem?_cons_succ] at hj
        exact (orderly_dst r (k + 1) (d :: seen) h2 j o' d hj e).2.1 (List.mem_cons_self)
    | succ i =>
      simp only [List.getElem?_cons_succ] at hi
      obtain ⟨q1, q2, q3⟩ := orderly_dst r (k + 1) _ h2 i o d hi hd
      refine ⟨q1, fun hs => q2 ?_, fun j o' hj hij => ?_⟩
      · cases x.dst with
        | none => exact hs
        | some d' => exact List.mem_cons_of_mem _ hs
      · cases j with
        | zero => omega
        | succ j =>
          simp only [List.getElem?_cons_succ] at hj
          exact q3 j o' hj (by omega)
theorem orderly_on {md : Region.Mode} {n : Nat} : ∀ (l : List Oper) (k : Nat) (seen : List Tmp), orderly md n k seen l = true → ∀ (i : Nat) (o : Oper), l[i]? = some o → ∀ e ∈ o.after, Region.binds md e = true → e.on < k + i
  | [], _, _, _, i, o, h => by simp at h
  | x :: r, k, seen, h, i, o, hi => by
    simp only [orderly, Bool.and_eq_true] at h
    obtain ⟨⟨-, h1⟩, h2⟩ := h
    cases i with
    | zero =>
      simp only [List.getElem?_cons_zero, Option.some.injEq] at hi
      subst hi
      intro e he hbd
      rw [Array.all_eq_true_iff_forall_mem] at h1
      have := h1 e he
      rw [hbd] at this
      simpa using this
    | succ i =>
      simp only [List.getElem?_cons_succ] at hi
      intro e he hbd
      have := orderly_on r (k + 1) _ h2 i o hi e he hbd
      omega

/-- The frame and the world while the region runs: what is listed holds in its slot. -/
structure Mid (ops : Array Oper) (a0 : Act) (S : World → Prop) (F : Nat → Value → World → Prop) (listed : Array Bool) (a : Act) (w : World) : Prop where
  size : listed.size = ops.size
  tmps : a.tmps.size = a0.tmps.size
  defers : a.defers = a0.defers
  out : ∀ t, outside ops t = true → a.tmps.getD t undef = a0.tmps.getD t undef
  world : S w
  held : ∀ (i : Nat) (o : Oper) (d : Tmp), ops[i]? = some o → o.dst = some d → listed.getD i false = true → F i (a.tmps.getD d undef) w

/-- What is asked of one operation: in whatever frame and world its forerunners have left, it ends, S stands, its slot holds what it should, and what held of the others still holds. -/
def Each (P : Program) (md : Region.Mode) (ops : Array Oper) (Q : Exit → Act → World → Prop) (a0 : Act) (S : World → Prop) (F : Nat → Value → World → Prop) (i : Nat) (o : Oper) : Prop :=
  ∀ (a : Act) (w : World), a.tmps.size = a0.tmps.size → a.defers = a0.defers → (∀ t, outside ops t = true → a.tmps.getD t undef = a0.tmps.getD t undef) → S w →
    (∀ e ∈ o.after, Region.binds md e = true → ∀ (oe : Oper) (d : Tmp), ops[e.on]? = some oe → oe.dst = some d → F e.on (a.tmps.getD d undef) w) →
    ∀ K : Act → World → Prop, (∀ v w', S w' → (∀ j u, F j u w → F j u w') → F i v w' → K (a.put o.dst v) w') → wpOp P ops Q i K a w

theorem ready_none {listed : Array Bool} (hs : listed.size = ops.size) (hon : ∀ (i : Nat) (o : Oper), ops[i]? = some o → ∀ e ∈ o.after, Region.binds md e = true → e.on < i) (h : Region.ready md ops listed = []) : ∀ i, i < ops.size → listed.getD i false = true := by
  intro i
  induction i using Nat.strongRecOn with
  | ind i ih =>
    intro hi
    cases hl : listed.getD i true with
    | true =>
      have hlt : i < listed.size := by omega
      simp [hlt] at hl ⊢; exact hl
    | false =>
      exfalso
      have : i ∈ Region.ready md ops listed := mem_ready.2 ⟨hl, ops[i], Array.getElem?_eq_getElem hi, fun e he hbd => ih e.on (hon i _ (Array.getElem?_eq_getElem hi) e he hbd) (by have := hon i _ (Array.getElem?_eq_getElem hi) e he hbd; omega)⟩
      rw [h] at this; cases this

theorem wpAny_each {a0 : Act} {S : World → Prop} {F : Nat → Value → World → Prop} (ho : orderly md a0.tmps.size 0 [] ops.toList = true)
    (hop : ∀ (i : Nat) (o : Oper), ops[i]? = some o → Each P md ops Q a0 S F i o)
    (hend : ∀ (a : Act) (w : World), a.tmps.size = a0.tmps.size → a.defers = a0.defers → (∀ t, outside ops t = true → a.tmps.getD t undef = a0.tmps.getD t undef) → S w → (∀ (i : Nat) (o : Oper) (d : Tmp), ops[i]? = some o → o.dst = some d → F i (a.tmps.getD d undef) w) → Q .normal a w) :
    ∀ (fuel : Nat) (listed : Array Bool) (a : Act) (w : World), Mid ops a0 S F listed a w → unl listed ops.size ≤ fuel → wpAny P md ops Q fuel listed a w := by
  have hon : ∀ (i : Nat) (o : Oper), ops[i]? = some o → ∀ e ∈ o.after, Region.binds md e = true → e.on < i := fun i o hi e he hbd => by
    have := orderly_on ops.toList 0 [] ho i o (by simpa using hi) e he hbd; omega
  have hdst : ∀ (i : Nat) (o : Oper) (d : Tmp), ops[i]? = some o → o.dst = some d → d < a0.tmps.size := fun i o d hi hd => (orderly_dst ops.toList 0 [] ho i o d (by simpa using hi) hd).1
  have hone : ∀ (i : Nat) (o : Oper) (d : Tmp), ops[i]? = some o → o.dst = some d → ∀ (j : Nat) (o' : Oper), ops[j]? = some o' → i ≠ j → o'.dst ≠ some d := fun i o d hi hd j o' hj hij e => by
    rcases Nat.lt_or_gt_of_ne hij with h | h
    · exact (orderly_dst ops.toList 0 [] ho i o d (by simpa using hi) hd).2.2 j o' (by simpa using hj) h e
    · exact (orderly_dst ops.toList 0 [] ho j o' d (by simpa using hj) e).2.2 i o (by simpa using hi) h hd
  have hfin : ∀ listed a w, Mid ops a0 S F listed a w → Region.ready md ops listed = [] → Q .normal a w := fun listed a w hm hr =>
    hend a w hm.tmps hm.defers hm.out hm.world fun i o d hi hd => hm.held i o d hi hd (ready_none hm.size hon hr i (Array.getElem?_eq_some_iff.1 hi).1)
  intro fuel
  induction fuel with
  | zero =>
    intro listed a w hm hf
    have hr : Region.ready md ops listed = [] := by
      rw [List.eq_nil_iff_forall_not_mem]
      intro i hi
      obtain ⟨hl, o, ho', -⟩ := mem_ready.1 hi
      have hlt : i < ops.size := (Array.getElem?_eq_some_iff.1 ho').1
      have := unl_set listed i hl ops.size
      rw [if_pos hlt] at this
      omega
    exact ⟨hr, hfin listed a w hm hr⟩
  | succ fuel ih =>
    intro listed a w hm hf
    refine ⟨fun hr => hfin listed a w hm hr, fun i hi => ?_⟩
    obtain ⟨hl, o, ho', hall⟩ := mem_ready.1 hi
    have hlt : i < ops.size := (Array.getElem?_eq_some_iff.1 ho').1
    refine hop i o ho' a w hm.tmps hm.defers hm.out hm.world (fun e he hb oe d hoe hd => hm.held e.on oe d hoe hd (hall e he hb)) _ fun v w' hS hst hF => ?_
    refine ih _ _ _ ⟨by simp [hm.size], ?_, ?_, fun t ht => ?_, hS, fun j oj d hj hd hlj => ?_⟩ ?_
    · cases o.dst <;> simp [Act.put, hm.tmps]
    · cases o.dst <;> simp [Act.put, hm.defers]
    · rw [← hm.out t ht]
      cases hd : o.dst with
      | none => rfl
      | some d =>
        have hne : d ≠ t := by
          intro e; subst e
          unfold outside at ht
          rw [Array.all_eq_true_iff_forall_mem] at ht
          have := ht o (Array.mem_of_getElem? ho')
          rw [hd] at this; simp at this
        simp [Act.put, Array.getElem?_setIfInBounds_ne hne]
    · by_cases e : i = j
      · subst e
        rw [ho'] at hj
        obtain rfl := Option.some.inj hj
        have hdl : d < a.tmps.size := by rw [hm.tmps]; exact hdst i o d ho' hd
        have : (a.put o.dst v).tmps.getD d undef = v := by rw [hd]; simp [Act.put, hdl]
        rw [this]; exact hF
      · have h1 : listed.getD j false = true := by rw [getD_set_ne false e] at hlj; exact hlj
        have h2 := hm.held j oj d hj hd h1
        have h3 : (a.put o.dst v).tmps.getD d undef = a.tmps.getD d undef := by
          cases hd' : o.dst with
          | none => rfl
          | some d' =>
            have hne : d' ≠ d := fun e' => hone j oj d hj hd i o ho' (Ne.symm e) (by rw [hd', e'])
            simp [Act.put, Array.getElem?_setIfInBounds_ne hne]
        rw [h3]; exact hst j _ h2
    · have := unl_set listed i hl ops.size
      rw [if_pos hlt] at this; omega

theorem wp_region_each {id : Nat} {a : Act} {w : World} {S : World → Prop} {F : Nat → Value → World → Prop} (hm : P.follows .mixedOrders = true) (ho : orderly .any a.tmps.size 0 [] ops.toList = true)
    (hS : S w.drew) (hop : ∀ (i : Nat) (o : Oper), ops[i]? = some o → Each P .any ops Q a S F i o)
    (hend : ∀ (a' : Act) (w' : World), a'.tmps.size = a.tmps.size → a'.defers = a.defers → (∀ t, outside ops t = true → a'.tmps.getD t undef = a.tmps.getD t undef) → S w' → (∀ (i : Nat) (o : Oper) (d : Tmp), ops[i]? = some o → o.dst = some d → F i (a'.tmps.getD d undef) w') → Q .normal a' w') :
    (Code.region id ops true).wp P Q a w := by
  refine wp_region_any hm (wpAny_each ho hop hend _ _ _ _ ⟨by simp, rfl, rfl, fun _ _ => rfl, hS, fun i o d hi _ hl => ?_⟩ ?_)
  · exfalso
    have hlt : i < ops.size := (Array.getElem?_eq_some_iff.1 hi).1
    simp [hlt] at hl
  · have : ∀ k, k ≤ ops.size → unl (Array.replicate ops.size false) k = k := by
      intro k
      induction k with
      | zero => intro _; rfl
      | succ k ih =>
        intro hk
        rw [unl, ih (by omega)]
        have : (Array.replicate ops.size false).getD k true = false := by simp [show k < ops.size by omega]
        rw [this]; rfl
    rw [this _ (Nat.le_refl _)]; exact Nat.le_refl _
end
end Go.Proofs.Ytcliiefedmiokaa
