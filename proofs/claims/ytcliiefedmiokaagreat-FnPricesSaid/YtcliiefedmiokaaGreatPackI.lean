/-
  Texts of this claim, one behind the other: Bfs.
-/
import Derived.Test.YtcliiefedmiokaaGreatPackG
/-
  A search in breadth over images and switches: the first path to each image comes before all others.
-/
namespace Go.Proofs.YtcliiefedmiokaaGreat

theorem getD_snoc_lt {α : Type} (l : List α) (x d : α) {i : Nat} (h : i < l.length) : (l ++ [x]).getD i d = l.getD i d := by
  simp [List.getD_eq_getElem?_getD, List.getElem?_append_left h]
theorem getD_snoc_eq {α : Type} (l : List α) (x d : α) : (l ++ [x]).getD l.length d = x := by simp [List.getD_eq_getElem?_getD]
theorem getD_mem {α : Type} {l : List α} {d : α} {i : Nat} (h : i < l.length) : l.getD i d ∈ l := by
  rw [List.getD_eq_getElem?_getD, List.getElem?_eq_getElem h]; exact List.getElem_mem h
theorem mem_getD {α : Type} {l : List α} (d : α) {x : α} (h : x ∈ l) : ∃ i, i < l.length ∧ l.getD i d = x := by
  obtain ⟨i, hi, e⟩ := List.getElem_of_mem h
  exact ⟨i, hi, by rw [List.getD_eq_getElem?_getD, List.getElem?_eq_getElem hi]; exact e⟩
theorem val_pre (p q : List Sw) : val p ≤ val (p ++ q) := by
  rw [val_append]
  have : 626 ^ 0 ≤ 626 ^ q.length := Nat.pow_le_pow_right (by decide) (Nat.zero_le _)
  rw [Nat.pow_zero] at this
  have h2 := Nat.mul_le_mul_left (val p) this
  omega

/-- Image a is under way, its switches up to number K are done. -/
structure Bfs (m : List (List Int)) (L : List (List (List Int))) (W : List (List Sw)) (a K : Nat) : Prop where
  len : W.length = L.length
  pos : 0 < L.length
  head : L.getD 0 [] = m
  le : a ≤ L.length
  best : ∀ i, i < L.length → Best m (L.getD i []) (W.getD i [])
  sorted : ∀ i j, i < j → j < L.length → val (W.getD i []) < val (W.getD j [])
  pend : a < L.length → ∀ i, i < L.length → val (W.getD i []) ≤ val (W.getD a []) * 626 + K
  done : ∀ i, i < a → ∀ s, swB (L.getD i []) s = true → flipM (L.getD i []) s ∈ L
  half : a < L.length → ∀ s, swB (L.getD a []) s = true → numS s ≤ K → flipM (L.getD a []) s ∈ L
  tree : ∀ i, i < L.length → (W.getD i [] = [] ∧ L.getD i [] = m) ∨ ∃ j s, j < i ∧ W.getD i [] = W.getD j [] ++ [s] ∧ swB (L.getD j []) s = true ∧ L.getD i [] = flipM (L.getD j []) s

theorem bfs_start (m : List (List Int)) : Bfs m [m] [[]] 0 0 := by
  have h0 : ∀ i, i < [m].length → i = 0 := fun i hi => by simp at hi; exact hi
  refine ⟨rfl, by simp, rfl, by simp, fun i hi => ?_, fun i j hij hj => ?_, fun _ i hi => ?_, fun i hi => by omega, fun _ s _ hs => ?_, fun i hi => ?_⟩
  · obtain rfl := h0 i hi; exact best_nil m
  · have := h0 j hj; omega
  · obtain rfl := h0 i hi; simp [val]
  · unfold numS at hs; omega
  · obtain rfl := h0 i hi; exact .inl ⟨rfl, rfl⟩
theorem exit_of {m : List (List Int)} {L : List (List (List Int))} (hm : m ∈ L) : ∀ (q : List Sw) (x : List (List Int)), goM m q = some x → x ∉ L → ∃ q1 s q2 y, q = q1 ++ s :: q2 ∧ goM m q1 = some y ∧ y ∈ L ∧ swB y s = true ∧ flipM y s ∉ L := by
  intro q
  induction q using snoc_ind with
  | h0 => intro x h hx; cases h; exact absurd hm hx
  | h1 p s ih =>
    intro x h hx
    obtain ⟨t, h1, h2, rfl⟩ := goM_unsnoc h
    by_cases ht : t ∈ L
    · exact ⟨p, s, [], t, rfl, h1, ht, h2, hx⟩
    · obtain ⟨q1, s1, q2, y, rfl, g1, g2, g3, g4⟩ := ih t h1 ht
      exact ⟨q1, s1, q2 ++ [s], y, by simp, g1, g2, g3, g4⟩
theorem bfs_node {R C : Nat} {m : List (List Int)} {L : List (List (List Int))} {W : List (List Sw)} {a K : Nat} (hm : Node R C m) (h : Bfs m L W a K) {i : Nat} (hi : i < L.length) : Node R C (L.getD i []) := goM_node hm (h.best i hi).1
theorem bfs_head {m : List (List Int)} {L : List (List (List Int))} {W : List (List Sw)} {a K : Nat} (h : Bfs m L W a K) : m ∈ L := by
  have := getD_mem (d := []) h.pos
  rwa [h.head] at this
set_option maxRecDepth 100000 in
theorem bfs_known {m : List (List Int)} {L : List (List (List Int))} {W : List (List Sw)} {a K : Nat} {s : Sw} {R C : Nat} (hm : Node R C m) (h : Bfs m L W a K) (ha : a < L.length) (hs : swB (L.getD a []) s = true) (hK : K ≤ numS s)
    (hall : ∀ s', swB (L.getD a []) s' = true → numS s' < numS s → numS s' ≤ K) (hx : flipM (L.getD a []) s ∈ L) : Bfs m L W a (numS s) := by
  refine ⟨h.len, h.pos, h.head, h.le, h.best, h.sorted, fun h1 i hi => ?_, h.done, fun h1 s' hs' hn => ?_, h.tree⟩
  · have := h.pend h1 i hi; omega
  · by_cases e : numS s' < numS s
    · exact h.half h1 s' hs' (hall s' hs' e)
    · obtain ⟨i, hi, rfl⟩ := swB_num (bfs_node hm h ha) hs
      obtain ⟨j, hj, rfl⟩ := swB_num (bfs_node hm h ha) hs'
      rw [num_dec, num_dec] at hn e
      obtain rfl : i = j := by omega
      exact hx
set_option maxRecDepth 100000 in
theorem bfs_new {m : List (List Int)} {L : List (List (List Int))} {W : List (List Sw)} {a K : Nat} {s : Sw} {R C : Nat} (hm : Node R C m) (h : Bfs m L W a K) (ha : a < L.length) (hs : swB (L.getD a []) s = true) (hK : K ≤ numS s)
    (hall : ∀ s', swB (L.getD a []) s' = true → numS s' < numS s → numS s' ≤ K) (hx : flipM (L.getD a []) s ∉ L) : Bfs m (L ++ [flipM (L.getD a []) s]) (W ++ [W.getD a [] ++ [s]]) a (numS s) := by
  have haW : a < W.length := by rw [h.len]; exact ha
  have hnum : ∀ j, j < L.length → ∀ s', swB (L.getD j []) s' = true → 1 ≤ numS s' ∧ numS s' ≤ 625 := fun j hj s' hs' => by
    obtain ⟨i, hi, rfl⟩ := swB_num (bfs_node hm h hj) hs'
    rw [num_dec]; omega
  have hKs : K < numS s := by
    refine Nat.lt_of_le_of_ne hK fun e => hx (h.half ha s hs (by omega))
  have hn := hnum a ha s hs
  have hval : val (W.getD a [] ++ [s]) = val (W.getD a []) * 626 + numS s := val_snoc _ _
  have hb := h.best a ha
  have hbest : Best m (flipM (L.getD a []) s) (W.getD a [] ++ [s]) := by
    refine ⟨goM_snoc hb.1 hs, fun q hq => ?_⟩
    obtain ⟨q1, s1, q2, y, rfl, g1, g2, g3, g4⟩ := exit_of (bfs_head h) q _ hq hx
    obtain ⟨j, hj, rfl⟩ := mem_getD [] g2
    have e1 : val (q1 ++ [s1]) ≤ val (q1 ++ s1 :: q2) := by
      have := val_pre (q1 ++ [s1]) q2
      simpa using this
    rw [val_snoc] at e1
    have e2 := (h.best j hj).2 q1 g1
    have e3 := hnum j hj s1 g3
    rw [hval]
    rcases Nat.lt_trichotomy j a with hja | rfl | hja
    · exact absurd (h.done j hja s1 g3) g4
    · by_cases e4 : numS s1 < numS s
      · exact absurd (h.half ha s1 g3 (hall s1 g3 e4)) g4
      · omega
    · have := h.sorted a j hja hj
      omega
  refine ⟨by simp [h.len], by simp, ?_, by simp only [List.length_append, List.length_singleton]; omega, fun i hi => ?_, fun i j hij hj => ?_, fun _ i hi => ?_, fun i hi s' hs' => ?_, fun _ s' hs' hn' => ?_, fun i hi => ?_⟩
  · rw [getD_snoc_lt _ _ _ h.pos]; exact h.head
  · simp only [List.length_append, List.length_singleton] at hi
    by_cases e : i < L.length
    · rw [getD_snoc_lt _ _ _ e, getD_snoc_lt _ _ _ (by rw [h.len]; exact e)]; exact h.best i e
    · obtain rfl : i = L.length := by omega
      have e1 := getD_snoc_eq W (W.getD a [] ++ [s]) []
      rw [h.len] at e1
      rw [getD_snoc_eq, e1]; exact hbest
  · simp only [List.length_append, List.length_singleton] at hj
    rw [getD_snoc_lt W _ _ (by rw [h.len]; omega)]
    by_cases e : j < L.length
    · rw [getD_snoc_lt _ _ _ (by rw [h.len]; exact e)]; exact h.sorted i j hij e
    · obtain rfl : j = L.length := by omega
      have e1 := getD_snoc_eq W (W.getD a [] ++ [s]) []
      rw [h.len] at e1
      rw [e1, hval]
      have := h.pend ha i hij
      omega
  · simp only [List.length_append, List.length_singleton] at hi
    rw [getD_snoc_lt W _ _ haW]
    by_cases e : i < L.length
    · rw [getD_snoc_lt _ _ _ (by rw [h.len]; exact e)]
      have := h.pend ha i e
      omega
    · obtain rfl : i = L.length := by omega
      have e1 := getD_snoc_eq W (W.getD a [] ++ [s]) []
      rw [h.len] at e1
      rw [e1, hval]; exact Nat.le_refl _
  · rw [getD_snoc_lt _ _ _ (by omega)] at hs' ⊢
    exact List.mem_append_left _ (h.done i hi s' hs')
  · rw [getD_snoc_lt _ _ _ ha] at hs' ⊢
    by_cases e : numS s' < numS s
    · exact List.mem_append_left _ (h.half ha s' hs' (hall s' hs' e))
    · obtain ⟨i, hi, rfl⟩ := swB_num (bfs_node hm h ha) hs
      obtain ⟨j, hj, rfl⟩ := swB_num (bfs_node hm h ha) hs'
      rw [num_dec, num_dec] at hn' e
      obtain rfl : i = j := by omega
      exact List.mem_append_right _ (List.mem_singleton.2 rfl)
  · simp only [List.length_append, List.length_singleton] at hi
    by_cases e : i < L.length
    · rw [getD_snoc_lt _ _ _ e, getD_snoc_lt _ _ _ (by rw [h.len]; exact e)]
      rcases h.tree i e with h1 | ⟨j, t, hj, h1, h2, h3⟩
      · exact .inl h1
      · exact .inr ⟨j, t, hj, by rw [getD_snoc_lt _ _ _ (by rw [h.len]; omega)]; exact h1, by rw [getD_snoc_lt _ _ _ (by omega)]; exact h2, by rw [getD_snoc_lt _ _ _ (by omega)]; exact h3⟩
    · obtain rfl : i = L.length := by omega
      have e1 := getD_snoc_eq W (W.getD a [] ++ [s]) []
      rw [h.len] at e1
      rw [getD_snoc_eq, e1]
      exact .inr ⟨a, s, ha, by rw [getD_snoc_lt _ _ _ haW], by rw [getD_snoc_lt _ _ _ ha]; exact hs, by rw [getD_snoc_lt _ _ _ ha]⟩
set_option maxRecDepth 100000 in
theorem bfs_next {m : List (List Int)} {L : List (List (List Int))} {W : List (List Sw)} {a K : Nat} (h : Bfs m L W a K) (ha : a < L.length) (hK : K ≤ 625) (hall : ∀ s, swB (L.getD a []) s = true → numS s ≤ K) : Bfs m L W (a + 1) 0 := by
  refine ⟨h.len, h.pos, h.head, by omega, h.best, h.sorted, fun h1 i hi => ?_, fun i hi s hs => ?_, fun _ s _ hs => ?_, h.tree⟩
  · have := h.pend ha i hi
    have := h.sorted a (a + 1) (Nat.lt_succ_self _) h1
    omega
  · by_cases e : i < a
    · exact h.done i e s hs
    · obtain rfl : i = a := by omega
      exact h.half ha s hs (hall s hs)
  · unfold numS at hs; omega
theorem bfs_all {m t : List (List Int)} {L : List (List (List Int))} {W : List (List Sw)} {K : Nat} (h : Bfs m L W L.length K) : ∀ q : List Sw, goM m q = some t → t ∈ L := by
  intro q hq
  refine Classical.byContradiction fun hx => ?_
  obtain ⟨q1, s1, q2, y, rfl, g1, g2, g3, g4⟩ := exit_of (bfs_head h) q _ hq hx
  obtain ⟨j, hj, rfl⟩ := mem_getD [] g2
  exact g4 (h.done j hj s1 g3)
theorem bfs_inj {m : List (List Int)} {L : List (List (List Int))} {W : List (List Sw)} {a K : Nat} {R C : Nat} (hm : Node R C m) (h : Bfs m L W a K) {i j : Nat} (hi : i < L.length) (hj : j < L.length) (e : L.getD i [] = L.getD j []) : i = j := by
  have h1 := h.best i hi
  rw [e] at h1
  have h2 := best_one hm h1 (h.best j hj)
  rcases Nat.lt_trichotomy i j with h3 | h3 | h3
  · have := h.sorted i j h3 hj; rw [h2] at this; omega
  · exact h3
  · have := h.sorted j i h3 hi; rw [h2] at this; omega

/-- How many there can be. -/
def bitsN : List Int → Nat
  | [] => 0
  | x :: l => (if x = 1 then 1 else 0) + 2 * bitsN l
theorem bits_lt : ∀ l : List Int, bitsN l < 2 ^ l.length
  | [] => by simp [bitsN]
  | x :: l => by
    have := bits_lt l
    simp only [bitsN, List.length_cons, Nat.pow_succ]
    split <;> omega
theorem bits_inj : ∀ {l k : List Int}, l.length = k.length → (∀ x ∈ l, x = 0 ∨ x = 1) → (∀ x ∈ k, x = 0 ∨ x = 1) → bitsN l = bitsN k → l = k
  | [], [], _, _, _, _ => rfl
  | [], _ :: _, h, _, _, _ => by simp at h
  | _ :: _, [], h, _, _, _ => by simp at h
  | x :: l, y :: k, h, hl, hk, e => by
    have hx := hl x (by simp); have hy := hk y (by simp)
    simp only [bitsN] at e
    have e1 : x = y := by
      rcases hx with rfl | rfl <;> rcases hy with rfl | rfl <;> simp at e ⊢ <;> omega
    subst e1
    rw [bits_inj (l := l) (k := k) (by simpa using h) (fun z hz => hl z (by simp [hz])) (fun z hz => hk z (by simp [hz])) (by omega)]
theorem len_split {α : Type} (p : α → Bool) : ∀ l : List α, l.length = (l.filter p).length + (l.filter fun x => !p x).length
  | [] => rfl
  | x :: l => by
    have := len_split p l
    simp only [List.filter_cons, List.length_cons]
    cases p x <;> simp <;> omega
theorem nodup_len : ∀ (N : Nat) (l : List Nat), l.Nodup → (∀ x ∈ l, x < N) → l.length ≤ N
  | 0, l, _, h => by
    cases l with
    | nil => exact Nat.le_refl _
    | cons x l => exact absurd (h x (by simp)) (Nat.not_lt_zero _)
  | N + 1, l, hn, h => by
    have h1 := nodup_len N (l.filter fun x => decide (x < N)) (hn.filter _) (fun x hx => by simpa using (List.mem_filter.1 hx).2)
    have h2 : (l.filter fun x => !decide (x < N)).length ≤ 1 := by
      have hnd : (l.filter fun x => !decide (x < N)).Nodup := hn.filter _
      have hall : ∀ x ∈ l.filter (fun x => !decide (x < N)), x = N := fun x hx => by
        obtain ⟨a, b⟩ := List.mem_filter.1 hx
        have := h x a
        simp at b; omega
      match hq : l.filter (fun x => !decide (x < N)) with
      | [] => simp
      | [_] => simp
      | x :: y :: r =>
        rw [hq] at hnd hall
        have e1 := hall x (by simp); have e2 := hall y (by simp)
        rw [e1, e2] at hnd
        simp at hnd
    have h3 := len_split (fun x => decide (x < N)) l
    omega
theorem node_flat {R C : Nat} {m : List (List Int)} (h : Node R C m) : m.flatten.length = R * C ∧ ∀ x ∈ m.flatten, x = 0 ∨ x = 1 := by
  obtain ⟨f, rfl, hI⟩ := h
  constructor
  · have := cells_mkM R C f
    unfold cellsM at this
    rw [List.length_flatten]; exact this
  · intro x hx
    obtain ⟨r, hr, hx⟩ := List.mem_flatten.1 hx
    unfold mkM at hr
    obtain ⟨y, hy, rfl⟩ := List.mem_map.1 hr
    unfold rowF at hx
    obtain ⟨z, hz, rfl⟩ := List.mem_map.1 hx
    exact hI.cell y z (List.mem_range.1 hy) (List.mem_range.1 hz)
theorem flat_inj {C : Nat} (hC : 0 < C) : ∀ {a b : List (List Int)}, (∀ r ∈ a, r.length = C) → (∀ r ∈ b, r.length = C) → a.flatten = b.flatten → a = b
  | [], [], _, _, _ => rfl
  | [], r :: b, _, hb, h => by
    have h1 := congrArg List.length h
    have h2 := hb r (by simp)
    simp only [List.flatten_nil, List.length_nil, List.flatten_cons, List.length_append] at h1
    omega
  | r :: a, [], ha, _, h => by
    have h1 := congrArg List.length h
    have h2 := ha r (by simp)
    simp only [List.flatten_nil, List.length_nil, List.flatten_cons, List.length_append] at h1
    omega
  | r :: a, s :: b, ha, hb, h => by
    simp only [List.flatten_cons] at h
    obtain ⟨e1, e2⟩ := List.append_inj h (by rw [ha r (by simp), hb s (by simp)])
    rw [e1, flat_inj hC (fun q hq => ha q (by simp [hq])) (fun q hq => hb q (by simp [hq])) e2]
theorem node_inj {R C : Nat} {m t : List (List Int)} (hm : Node R C m) (ht : Node R C t) (e : bitsN m.flatten = bitsN t.flatten) : m = t := by
  obtain ⟨a1, a2⟩ := node_flat hm; obtain ⟨b1, b2⟩ := node_flat ht
  have hf := bits_inj (by rw [a1, b1]) a2 b2 e
  obtain ⟨f, rfl, hI⟩ := hm
  obtain ⟨g, rfl, -⟩ := ht
  have hr : ∀ (h : Nat → Nat → Int), ∀ r ∈ mkM R C h, r.length = C := fun h r hr => by
    unfold mkM at hr
    obtain ⟨y, -, rfl⟩ := List.mem_map.1 hr
    exact rowF_len _ _
  exact flat_inj (by have := hI.c1; omega) (hr f) (hr g) hf
theorem bfs_size {m : List (List Int)} {L : List (List (List Int))} {W : List (List Sw)} {a K : Nat} {R C : Nat} (hm : Node R C m) (hR : R ≤ 4) (hC : C ≤ 4) (h : Bfs m L W a K) : L.length ≤ 65536 := by
  have h1 := nodup_len 65536 ((List.range L.length).map fun i => bitsN (L.getD i []).flatten) ?_ ?_
  · simpa using h1
  · rw [List.nodup_iff_pairwise_ne, List.pairwise_map]
    refine List.Pairwise.imp_of_mem ?_ (List.pairwise_lt_range (n := L.length))
    intro i j hi hj hij e
    have hi := List.mem_range.1 hi; have hj := List.mem_range.1 hj
    have := bfs_inj hm h hi hj (node_inj (bfs_node hm h hi) (bfs_node hm h hj) e)
    omega
  · intro x hx
    obtain ⟨i, hi, rfl⟩ := List.mem_map.1 hx
    have hi := List.mem_range.1 hi
    have h1 := bits_lt (L.getD i []).flatten
    rw [(node_flat (bfs_node hm h hi)).1] at h1
    have h2 : R * C ≤ 4 * 4 := Nat.mul_le_mul hR hC
    exact Nat.lt_of_lt_of_le h1 (Nat.pow_le_pow_right (by decide) h2)
end Go.Proofs.YtcliiefedmiokaaGreat
