/-
  Texts of this claim, one behind the other: Bfs, Dir, Line, LineOf, Key, Entry, LMap.
-/
import Derived.Test.YtpfaaglaeholbaaGreatPackC
import Derived.Test.YtpfaaglaeholbaaGreatPackB
import Derived.DeepKeys5
import Derived.Maps.OwnSet
import Derived.Maps.RangeWalk
import Derived.WideKeyEntry
import Derived.Test.YtpfaaglaeholbaaGreatPackA
/-
  A search in breadth over images and switches: the first path to each image comes before all others.
-/
namespace Go.Proofs.YtpfaaglaeholbaaGreat

theorem getD_snoc_lt {α : Type} (l : List α) (x d : α) {i : Nat} (h : i < l.length) : (l ++ [x]).getD i d = l.getD i d := by
  simp [List.getD_eq_getElem?_getD, List.getElem?_append_left h]
theorem getD_snoc_eq {α : Type} (l : List α) (x d : α) : (l ++ [x]).getD l.length d = x := by simp [List.getD_eq_getElem?_getD]
theorem getD_mem {α : Type} {l : List α} {d : α} {i : Nat} (h : i < l.length) : l.getD i d ∈ l := by
  rw [List.getD_eq_getElem?_getD, List.getElem?_eq_getElem h]; exact List.getElem_mem h
theorem mem_getD {α : Type} {l : List α} (d : α) {x : α} (h : x ∈ l) : ∃ i, i < l.length ∧ l.getD i d = x := by
  obtain ⟨i, hi, e⟩ := List.getElem_of_mem h
  exact ⟨i, hi, by rw [List.getD_eq_getElem?_getD, List.getElem?_eq_getElem hi]; exact e⟩
theorem val_pre (p q : List Sw) : val p ≤ val (p ++ q) := by
  rw [val_append]
  have : 626 ^ 0 ≤ 626 ^ q.length := Nat.pow_le_pow_right (by decide) (Nat.zero_le _)
  rw [Nat.pow_zero] at this
  have h2 := Nat.mul_le_mul_left (val p) this
  omega

/-- Image a is under way, its switches up to number K are done. -/
structure Bfs (m : List (List Int)) (L : List (List (List Int))) (W : List (List Sw)) (a K : Nat) : Prop where
  len : W.length = L.length
  pos : 0 < L.length
  head : L.getD 0 [] = m
  le : a ≤ L.length
  best : ∀ i, i < L.length → Best m (L.getD i []) (W.getD i [])
  sorted : ∀ i j, i < j → j < L.length → val (W.getD i []) < val (W.getD j [])
  pend : a < L.length → ∀ i, i < L.length → val (W.getD i []) ≤ val (W.getD a []) * 626 + K
  done : ∀ i, i < a → ∀ s, swB (L.getD i []) s = true → flipM (L.getD i []) s ∈ L
  half : a < L.length → ∀ s, swB (L.getD a []) s = true → numS s ≤ K → flipM (L.getD a []) s ∈ L
  tree : ∀ i, i < L.length → (W.getD i [] = [] ∧ L.getD i [] = m) ∨ ∃ j s, j < i ∧ W.getD i [] = W.getD j [] ++ [s] ∧ swB (L.getD j []) s = true ∧ L.getD i [] = flipM (L.getD j []) s

theorem bfs_start (m : List (List Int)) : Bfs m [m] [[]] 0 0 := by
  have h0 : ∀ i, i < [m].length → i = 0 := fun i hi => by simp at hi; exact hi
  refine ⟨rfl, by simp, rfl, by simp, fun i hi => ?_, fun i j hij hj => ?_, fun _ i hi => ?_, fun i hi => by omega, fun _ s _ hs => ?_, fun i hi => ?_⟩
  · obtain rfl := h0 i hi; exact best_nil m
  · have := h0 j hj; omega
  · obtain rfl := h0 i hi; simp [val]
  · unfold numS at hs; omega
  · obtain rfl := h0 i hi; exact .inl ⟨rfl, rfl⟩
theorem exit_of {m : List (List Int)} {L : List (List (List Int))} (hm : m ∈ L) : ∀ (q : List Sw) (x : List (List Int)), goM m q = some x → x ∉ L → ∃ q1 s q2 y, q = q1 ++ s :: q2 ∧ goM m q1 = some y ∧ y ∈ L ∧ swB y s = true ∧ flipM y s ∉ L := by
  intro q
  induction q using snoc_ind with
  | h0 => intro x h hx; cases h; exact absurd hm hx
  | h1 p s ih =>
    intro x h hx
    obtain ⟨t, h1, h2, rfl⟩ := goM_unsnoc h
    by_cases ht : t ∈ L
    · exact ⟨p, s, [], t, rfl, h1, ht, h2, hx⟩
    · obtain ⟨q1, s1, q2, y, rfl, g1, g2, g3, g4⟩ := ih t h1 ht
      exact ⟨q1, s1, q2 ++ [s], y, by simp, g1, g2, g3, g4⟩
theorem bfs_node {R C : Nat} {m : List (List Int)} {L : List (List (List Int))} {W : List (List Sw)} {a K : Nat} (hm : Node R C m) (h : Bfs m L W a K) {i : Nat} (hi : i < L.length) : Node R C (L.getD i []) := goM_node hm (h.best i hi).1
theorem bfs_head {m : List (List Int)} {L : List (List (List Int))} {W : List (List Sw)} {a K : Nat} (h : Bfs m L W a K) : m ∈ L := by
  have := getD_mem (d := []) h.pos
  rwa [h.head] at this
set_option maxRecDepth 100000 in
theorem bfs_known {m : List (List Int)} {L : List (List (List Int))} {W : List (List Sw)} {a K : Nat} {s : Sw} {R C : Nat} (hm : Node R C m) (h : Bfs m L W a K) (ha : a < L.length) (hs : swB (L.getD a []) s = true) (hK : K ≤ numS s)
    (hall : ∀ s', swB (L.getD a []) s' = true → numS s' < numS s → numS s' ≤ K) (hx : flipM (L.getD a []) s ∈ L) : Bfs m L W a (numS s) := by
  refine ⟨h.len, h.pos, h.head, h.le, h.best, h.sorted, fun h1 i hi => ?_, h.done, fun h1 s' hs' hn => ?_, h.tree⟩
  · have := h.pend h1 i hi; omega
  · by_cases e : numS s' < numS s
    · exact h.half h1 s' hs' (hall s' hs' e)
    · obtain ⟨i, hi, rfl⟩ := swB_num (bfs_node hm h ha) hs
      obtain ⟨j, hj, rfl⟩ := swB_num (bfs_node hm h ha) hs'
      rw [num_dec, num_dec] at hn e
      obtain rfl : i = j := by omega
      exact hx
set_option maxRecDepth 100000 in
theorem bfs_new {m : List (List Int)} {L : List (List (List Int))} {W : List (List Sw)} {a K : Nat} {s : Sw} {R C : Nat} (hm : Node R C m) (h : Bfs m L W a K) (ha : a < L.length) (hs : swB (L.getD a []) s = true) (hK : K ≤ numS s)
    (hall : ∀ s', swB (L.getD a []) s' = true → numS s' < numS s → numS s' ≤ K) (hx : flipM (L.getD a []) s ∉ L) : Bfs m (L ++ [flipM (L.getD a []) s]) (W ++ [W.getD a [] ++ [s]]) a (numS s) := by
  have haW : a < W.length := by rw [h.len]; exact ha
  have hnum : ∀ j, j < L.length → ∀ s', swB (L.getD j []) s' = true → 1 ≤ numS s' ∧ numS s' ≤ 625 := fun j hj s' hs' => by
    obtain ⟨i, hi, rfl⟩ := swB_num (bfs_node hm h hj) hs'
    rw [num_dec]; omega
  have hKs : K < numS s := by
    refine Nat.lt_of_le_of_ne hK fun e => hx (h.half ha s hs (by omega))
  have hn := hnum a ha s hs
  have hval : val (W.getD a [] ++ [s]) = val (W.getD a []) * 626 + numS s := val_snoc _ _
  have hb := h.best a ha
  have hbest : Best m (flipM (L.getD a []) s) (W.getD a [] ++ [s]) := by
    refine ⟨goM_snoc hb.1 hs, fun q hq => ?_⟩
    obtain ⟨q1, s1, q2, y, rfl, g1, g2, g3, g4⟩ := exit_of (bfs_head h) q _ hq hx
    obtain ⟨j, hj, rfl⟩ := mem_getD [] g2
    have e1 : val (q1 ++ [s1]) ≤ val (q1 ++ s1 :: q2) := by
      have := val_pre (q1 ++ [s1]) q2
      simpa using this
    rw [val_snoc] at e1
    have e2 := (h.best j hj).2 q1 g1
    have e3 := hnum j hj s1 g3
    rw [hval]
    rcases Nat.lt_trichotomy j a with hja | rfl | hja
    · exact absurd (h.done j hja s1 g3) g4
    · by_cases e4 : numS s1 < numS s
      · exact absurd (h.half ha s1 g3 (hall s1 g3 e4)) g4
      · omega
    · have := h.sorted a j hja hj
      omega
  refine ⟨by simp [h.len], by simp, ?_, by simp only [List.length_append, List.length_singleton]; omega, fun i hi => ?_, fun i j hij hj => ?_, fun _ i hi => ?_, fun i hi s' hs' => ?_, fun _ s' hs' hn' => ?_, fun i hi => ?_⟩
  · rw [getD_snoc_lt _ _ _ h.pos]; exact h.head
  · simp only [List.length_append, List.length_singleton] at hi
    by_cases e : i < L.length
    · rw [getD_snoc_lt _ _ _ e, getD_snoc_lt _ _ _ (by rw [h.len]; exact e)]; exact h.best i e
    · obtain rfl : i = L.length := by omega
      have e1 := getD_snoc_eq W (W.getD a [] ++ [s]) []
      rw [h.len] at e1
      rw [getD_snoc_eq, e1]; exact hbest
  · simp only [List.length_append, List.length_singleton] at hj
    rw [getD_snoc_lt W _ _ (by rw [h.len]; omega)]
    by_cases e : j < L.length
    · rw [getD_snoc_lt _ _ _ (by rw [h.len]; exact e)]; exact h.sorted i j hij e
    · obtain rfl : j = L.length := by omega
      have e1 := getD_snoc_eq W (W.getD a [] ++ [s]) []
      rw [h.len] at e1
      rw [e1, hval]
      have := h.pend ha i hij
      omega
  · simp only [List.length_append, List.length_singleton] at hi
    rw [getD_snoc_lt W _ _ haW]
    by_cases e : i < L.length
    · rw [getD_snoc_lt _ _ _ (by rw [h.len]; exact e)]
      have := h.pend ha i e
      omega
    · obtain rfl : i = L.length := by omega
      have e1 := getD_snoc_eq W (W.getD a [] ++ [s]) []
      rw [h.len] at e1
      rw [e1, hval]; exact Nat.le_refl _
  · rw [getD_snoc_lt _ _ _ (by omega)] at hs' ⊢
    exact List.mem_append_left _ (h.done i hi s' hs')
  · rw [getD_snoc_lt _ _ _ ha] at hs' ⊢
    by_cases e : numS s' < numS s
    · exact List.mem_append_left _ (h.half ha s' hs' (hall s' hs' e))
    · obtain ⟨i, hi, rfl⟩ := swB_num (bfs_node hm h ha) hs
      obtain ⟨j, hj, rfl⟩ := swB_num (bfs_node hm h ha) hs'
      rw [num_dec, num_dec] at hn' e
      obtain rfl : i = j := by omega
      exact List.mem_append_right _ (List.mem_singleton.2 rfl)
  · simp only [List.length_append, List.length_singleton] at hi
    by_cases e : i < L.length
    · rw [getD_snoc_lt _ _ _ e, getD_snoc_lt _ _ _ (by rw [h.len]; exact e)]
      rcases h.tree i e with h1 | ⟨j, t, hj, h1, h2, h3⟩
      · exact .inl h1
      · exact .inr ⟨j, t, hj, by rw [getD_snoc_lt _ _ _ (by rw [h.len]; omega)]; exact h1, by rw [getD_snoc_lt _ _ _ (by omega)]; exact h2, by rw [getD_snoc_lt _ _ _ (by omega)]; exact h3⟩
    · obtain rfl : i = L.length := by omega
      have e1 := getD_snoc_eq W (W.getD a [] ++ [s]) []
      rw [h.len] at e1
      rw [getD_snoc_eq, e1]
      exact .inr ⟨a, s, ha, by rw [getD_snoc_lt _ _ _ haW], by rw [getD_snoc_lt _ _ _ ha]; exact hs, by rw [getD_snoc_lt _ _ _ ha]⟩
set_option maxRecDepth 100000 in
theorem bfs_next {m : List (List Int)} {L : List (List (List Int))} {W : List (List Sw)} {a K : Nat} (h : Bfs m L W a K) (ha : a < L.length) (hK : K ≤ 625) (hall : ∀ s, swB (L.getD a []) s = true → numS s ≤ K) : Bfs m L W (a + 1) 0 := by
  refine ⟨h.len, h.pos, h.head, by omega, h.best, h.sorted, fun h1 i hi => ?_, fun i hi s hs => ?_, fun _ s _ hs => ?_, h.tree⟩
  · have := h.pend ha i hi
    have := h.sorted a (a + 1) (Nat.lt_succ_self _) h1
    omega
  · by_cases e : i < a
    · exact h.done i e s hs
    · obtain rfl : i = a := by omega
      exact h.half ha s hs (hall s hs)
  · unfold numS at hs; omega
theorem bfs_all {m t : List (List Int)} {L : List (List (List Int))} {W : List (List Sw)} {K : Nat} (h : Bfs m L W L.length K) : ∀ q : List Sw, goM m q = some t → t ∈ L := by
  intro q hq
  refine Classical.byContradiction fun hx => ?_
  obtain ⟨q1, s1, q2, y, rfl, g1, g2, g3, g4⟩ := exit_of (bfs_head h) q _ hq hx
  obtain ⟨j, hj, rfl⟩ := mem_getD [] g2
  exact g4 (h.done j hj s1 g3)
theorem bfs_inj {m : List (List Int)} {L : List (List (List Int))} {W : List (List Sw)} {a K : Nat} {R C : Nat} (hm : Node R C m) (h : Bfs m L W a K) {i j : Nat} (hi : i < L.length) (hj : j < L.length) (e : L.getD i [] = L.getD j []) : i = j := by
  have h1 := h.best i hi
  rw [e] at h1
  have h2 := best_one hm h1 (h.best j hj)
  rcases Nat.lt_trichotomy i j with h3 | h3 | h3
  · have := h.sorted i j h3 hj; rw [h2] at this; omega
  · exact h3
  · have := h.sorted j i h3 hi; rw [h2] at this; omega

/-- How many there can be. -/
def bitsN : List Int → Nat
  | [] => 0
  | x :: l => (if x = 1 then 1 else 0) + 2 * bitsN l
theorem bits_lt : ∀ l : List Int, bitsN l < 2 ^ l.length
  | [] => by simp [bitsN]
  | x :: l => by
    have := bits_lt l
    simp only [bitsN, List.length_cons, Nat.pow_succ]
    split <;> omega
theorem bits_inj : ∀ {l k : List Int}, l.length = k.length → (∀ x ∈ l, x = 0 ∨ x = 1) → (∀ x ∈ k, x = 0 ∨ x = 1) → bitsN l = bitsN k → l = k
  | [], [], _, _, _, _ => rfl
  | [], _ :: _, h, _, _, _ => by simp at h
  | _ :: _, [], h, _, _, _ => by simp at h
  | x :: l, y :: k, h, hl, hk, e => by
    have hx := hl x (by simp); have hy := hk y (by simp)
    simp only [bitsN] at e
    have e1 : x = y := by
      rcases hx with rfl | rfl <;> rcases hy with rfl | rfl <;> simp at e ⊢ <;> omega
    subst e1
    rw [bits_inj (l := l) (k := k) (by simpa using h) (fun z hz => hl z (by simp [hz])) (fun z hz => hk z (by simp [hz])) (by omega)]
theorem len_split {α : Type} (p : α → Bool) : ∀ l : List α, l.length = (l.filter p).length + (l.filter fun x => !p x).length
  | [] => rfl
  | x :: l => by
    have := len_split p l
    simp only [List.filter_cons, List.length_cons]
    cases p x <;> simp <;> omega
theorem nodup_len : ∀ (N : Nat) (l : List Nat), l.Nodup → (∀ x ∈ l, x < N) → l.length ≤ N
  | 0, l, _, h => by
    cases l with
    | nil => exact Nat.le_refl _
    | cons x l => exact absurd (h x (by simp)) (Nat.not_lt_zero _)
  | N + 1, l, hn, h => by
    have h1 := nodup_len N (l.filter fun x => decide (x < N)) (hn.filter _) (fun x hx => by simpa using (List.mem_filter.1 hx).2)
    have h2 : (l.filter fun x => !decide (x < N)).length ≤ 1 := by
      have hnd : (l.filter fun x => !decide (x < N)).Nodup := hn.filter _
      have hall : ∀ x ∈ l.filter (fun x => !decide (x < N)), x = N := fun x hx => by
        obtain ⟨a, b⟩ := List.mem_filter.1 hx
        have := h x a
        simp at b; omega
      match hq : l.filter (fun x => !decide (x < N)) with
      | [] => simp
      | [_] => simp
      | x :: y :: r =>
        rw [hq] at hnd hall
        have e1 := hall x (by simp); have e2 := hall y (by simp)
        rw [e1, e2] at hnd
        simp at hnd
    have h3 := len_split (fun x => decide (x < N)) l
    omega
theorem node_flat {R C : Nat} {m : List (List Int)} (h : Node R C m) : m.flatten.length = R * C ∧ ∀ x ∈ m.flatten, x = 0 ∨ x = 1 := by
  obtain ⟨f, rfl, hI⟩ := h
  constructor
  · have := cells_mkM R C f
    unfold cellsM at this
    rw [List.length_flatten]; exact this
  · intro x hx
    obtain ⟨r, hr, hx⟩ := List.mem_flatten.1 hx
    unfold mkM at hr
    obtain ⟨y, hy, rfl⟩ := List.mem_map.1 hr
    unfold rowF at hx
    obtain ⟨z, hz, rfl⟩ := List.mem_map.1 hx
    exact hI.cell y z (List.mem_range.1 hy) (List.mem_range.1 hz)
theorem flat_inj {C : Nat} (hC : 0 < C) : ∀ {a b : List (List Int)}, (∀ r ∈ a, r.length = C) → (∀ r ∈ b, r.length = C) → a.flatten = b.flatten → a = b
  | [], [], _, _, _ => rfl
  | [], r :: b, _, hb, h => by
    have h1 := congrArg List.length h
    have h2 := hb r (by simp)
    simp only [List.flatten_nil, List.length_nil, List.flatten_cons, List.length_append] at h1
    omega
  | r :: a, [], ha, _, h => by
    have h1 := congrArg List.length h
    have h2 := ha r (by simp)
    simp only [List.flatten_nil, List.length_nil, List.flatten_cons, List.length_append] at h1
    omega
  | r :: a, s :: b, ha, hb, h => by
    simp only [List.flatten_cons] at h
    obtain ⟨e1, e2⟩ := List.append_inj h (by rw [ha r (by simp), hb s (by simp)])
    rw [e1, flat_inj hC (fun q hq => ha q (by simp [hq])) (fun q hq => hb q (by simp [hq])) e2]
theorem node_inj {R C : Nat} {m t : List (List Int)} (hm : Node R C m) (ht : Node R C t) (e : bitsN m.flatten = bitsN t.flatten) : m = t := by
  obtain ⟨a1, a2⟩ := node_flat hm; obtain ⟨b1, b2⟩ := node_flat ht
  have hf := bits_inj (by rw [a1, b1]) a2 b2 e
  obtain ⟨f, rfl, hI⟩ := hm
  obtain ⟨g, rfl, -⟩ := ht
  have hr : ∀ (h : Nat → Nat → Int), ∀ r ∈ mkM R C h, r.length = C := fun h r hr => by
    unfold mkM at hr
    obtain ⟨y, -, rfl⟩ := List.mem_map.1 hr
    exact rowF_len _ _
  exact flat_inj (by have := hI.c1; omega) (hr f) (hr g) hf
theorem bfs_size {m : List (List Int)} {L : List (List (List Int))} {W : List (List Sw)} {a K : Nat} {R C : Nat} (hm : Node R C m) (hR : R ≤ 4) (hC : C ≤ 4) (h : Bfs m L W a K) : L.length ≤ 65536 := by
  have h1 := nodup_len 65536 ((List.range L.length).map fun i => bitsN (L.getD i []).flatten) ?_ ?_
  · simpa using h1
  · rw [List.nodup_iff_pairwise_ne, List.pairwise_map]
    refine List.Pairwise.imp_of_mem ?_ (List.pairwise_lt_range (n := L.length))
    intro i j hi hj hij e
    have hi := List.mem_range.1 hi; have hj := List.mem_range.1 hj
    have := bfs_inj hm h hi hj (node_inj (bfs_node hm h hi) (bfs_node hm h hj) e)
    omega
  · intro x hx
    obtain ⟨i, hi, rfl⟩ := List.mem_map.1 hx
    have hi := List.mem_range.1 hi
    have h1 := bits_lt (L.getD i []).flatten
    rw [(node_flat (bfs_node hm h hi)).1] at h1
    have h2 : R * C ≤ 4 * 4 := Nat.mul_le_mul hR hC
    exact Nat.lt_of_lt_of_le h1 (Nat.pow_le_pow_right (by decide) h2)
end Go.Proofs.YtpfaaglaeholbaaGreat
/-
  Directions: toDirection, the model's gcd, DirectionOk of both.
-/
namespace Go.Proofs.YtpfaaglaeholbaaGreat
open Go.RowKit

/-- A direction that is valid. -/
def dirOk (dx dy : Int) : Bool := decide ((0 ≤ dx ∧ dx ≤ 3) ∧ (-3 ≤ dy ∧ dy ≤ 3)) && (Nat.gcd dx.natAbs dy.natAbs == 1) && (decide (0 < dx) || dy == 1)

theorem dir_range {dx dy : Int} (h : ¬ ((0 ≤ dx ∧ dx ≤ 3) ∧ (-3 ≤ dy ∧ dy ≤ 3))) : dirOk dx dy = false := by rw [dirOk, decide_eq_false h, Bool.false_and, Bool.false_and]
set_option maxHeartbeats 4000000 in
theorem implDirectionOk_any (dx dy : Int) (w : World) :
    Calls Tryz.prog 59 #[.agg #[.int .i64 dx, .int .i64 dy]] w fun e w' => e = .returned (.bool (dirOk dx dy)) ∧ Below w.heap.size w w' := by
  by_cases h : (0 ≤ dx ∧ dx ≤ 3) ∧ (-3 ≤ dy ∧ dy ≤ 3)
  · have hx : dx = 0 ∨ dx = 1 ∨ dx = 2 ∨ dx = 3 := by omega
    have hy : dy = -3 ∨ dy = -2 ∨ dy = -1 ∨ dy = 0 ∨ dy = 1 ∨ dy = 2 ∨ dy = 3 := by omega
    clear h
    rcases hx with rfl | rfl | rfl | rfl <;> rcases hy with rfl | rfl | rfl | rfl | rfl | rfl | rfl
    all_goals
      go_enter Tryz.func59, Tryz.ntmps59
      go_wp2
      refine wp_loop_rounds 4 ?_
      repeat (rw [rounds_succ]; go_wp2)
      go_ret
      exact ⟨rfl, (Below.refl _ _).alloc (Nat.le_refl _) _⟩
  · rw [dir_range h]
    by_cases h1 : dx < 0
    · clear h
      go_enter Tryz.func59, Tryz.ntmps59
      go_wp2
      go_ret
      exact ⟨rfl, (Below.refl _ _).alloc (Nat.le_refl _) _⟩
    · by_cases h2 : 3 < dx
      · clear h
        go_enter Tryz.func59, Tryz.ntmps59
        go_wp2
        go_ret
        exact ⟨rfl, (Below.refl _ _).alloc (Nat.le_refl _) _⟩
      · by_cases h3 : dy < -3
        · clear h
          go_enter Tryz.func59, Tryz.ntmps59
          go_wp2
          go_ret
          exact ⟨rfl, (Below.refl _ _).alloc (Nat.le_refl _) _⟩
        · have h4 : 3 < dy := by omega
          clear h
          go_enter Tryz.func59, Tryz.ntmps59
          go_wp2
          go_ret
          exact ⟨rfl, (Below.refl _ _).alloc (Nat.le_refl _) _⟩
end Go.Proofs.YtpfaaglaeholbaaGreat
/-
  Line numbers: lineNumber, l03Least, LineOf of both.
-/
namespace Go.Proofs.YtpfaaglaeholbaaGreat
open Go.RowKit

def least (dy cols : Int) : Int := min 0 (-dy * (cols - 1))
/-- The number of a cell's line. -/
def lnum (dx dy cols y x : Int) : Int := dx * y - dy * x - least dy cols
structure Near (dx dy : Int) : Prop where
  x1 : 0 ≤ dx
  x2 : dx ≤ 3
  y1 : -3 ≤ dy
  y2 : dy ≤ 3
theorem near_of {dx dy : Int} (h : dirOk dx dy = true) : Near dx dy := by
  simp only [dirOk, Bool.and_eq_true, decide_eq_true_eq] at h
  obtain ⟨⟨⟨⟨h1, h2⟩, h3, h4⟩, -⟩, -⟩ := h
  exact ⟨h1, h2, h3, h4⟩
theorem mul_dx {a b : Int} (h1 : 0 ≤ a) (h2 : a ≤ 3) (h3 : 0 ≤ b) (h4 : b ≤ 5) : 0 ≤ a * b ∧ a * b ≤ 15 := by
  have : a = 0 ∨ a = 1 ∨ a = 2 ∨ a = 3 := by omega
  rcases this with rfl | rfl | rfl | rfl <;> omega
theorem mul_dy {a b : Int} (h1 : -3 ≤ a) (h2 : a ≤ 3) (h3 : 0 ≤ b) (h4 : b ≤ 5) : -15 ≤ a * b ∧ a * b ≤ 15 := by
  have : a = -3 ∨ a = -2 ∨ a = -1 ∨ a = 0 ∨ a = 1 ∨ a = 2 ∨ a = 3 := by omega
  rcases this with rfl | rfl | rfl | rfl | rfl | rfl | rfl <;> omega

set_option maxHeartbeats 400000 in
theorem lineNumber_any (dx dy cols y x : Int) (w : World) (hn : Near dx dy) (hc : 1 ≤ cols ∧ cols ≤ 5) (hy : 0 ≤ y ∧ y < 5) (hx : 0 ≤ x ∧ x < 5) :
    Calls Tryz.prog 75 #[.int .i64 cols, .agg #[.int .i64 dx, .int .i64 dy], .int .i64 y, .int .i64 x] w fun e w' => e = .returned (.int .i64 (lnum dx dy cols y x)) ∧ Below w.heap.size w w' := by
  obtain ⟨h1, h2, h3, h4⟩ := hn
  obtain ⟨h5, h6⟩ := hc
  obtain ⟨y1, y2⟩ := hy
  obtain ⟨x1, x2⟩ := hx
  obtain ⟨hm1, hm2⟩ := mul_dy (a := -dy) (b := cols - 1) (by omega) (by omega) (by omega) (by omega)
  obtain ⟨hp1, hp2⟩ := mul_dx h1 h2 y1 (by omega)
  obtain ⟨hq1, hq2⟩ := mul_dy h3 h4 x1 (by omega)
  have HL : Hid (lnum dx dy cols y x = dx * y - dy * x - min 0 (-dy * (cols - 1))) := hide rfl
  by_cases h : 0 ≤ -dy * (cols - 1)
  · have HR : Hid (lnum dx dy cols y x = dx * y - dy * x - 0) := hide (by rw [HL.out]; omega)
    go_enter Tryz.func75, Tryz.ntmps75
    go_wp2
    trace_state
    go_ret
    exact ⟨ret_int (by rw [HR.out]; omega), (Below.refl _ _).alloc (Nat.le_refl _) _⟩
  · have HR : Hid (lnum dx dy cols y x = dx * y - dy * x - (-dy * (cols - 1))) := hide (by rw [HL.out]; omega)
    go_enter Tryz.func75, Tryz.ntmps75
    go_wp2
    go_ret
    exact ⟨ret_int (by rw [HR.out]), (Below.refl _ _).alloc (Nat.le_refl _) _⟩
end Go.Proofs.YtpfaaglaeholbaaGreat
/-
  LineOf, of the model and of the program.
-/
namespace Go.Proofs.YtpfaaglaeholbaaGreat
open Go.RowKit

def sizeOk (r c : Int) : Bool := decide (1 ≤ r ∧ r ≤ 5) && decide (1 ≤ c ∧ c ≤ 5)
theorem sizeOk_yes {r c : Int} (h : sizeOk r c = true) : (1 ≤ r ∧ r ≤ 5) ∧ (1 ≤ c ∧ c ≤ 5) := by simpa [sizeOk] using h
theorem l03Size_any (r c : Int) (w : World) :
    Calls Tryz.prog 117 #[.int .i64 r, .int .i64 c] w fun e w' => e = .returned (.bool (sizeOk r c)) ∧ w = w' := by
  have HS : Hid (sizeOk r c = (decide (1 ≤ r ∧ r ≤ 5) && decide (1 ≤ c ∧ c ≤ 5))) := hide rfl
  by_cases h1 : 1 ≤ r ∧ r ≤ 5
  · have H1 := hide (decide_eq_true h1)
    clear h1
    go_enter Tryz.func117, Tryz.ntmps117
    go_wp2_with (first | (with_reducible refine (l01In_any r 1 5 _).mono ?_; rw [H1.out]; rintro e w' ⟨rfl, rfl⟩) | (with_reducible refine (l01In_any c 1 5 _).mono ?_; rintro e w' ⟨rfl, rfl⟩))
    go_ret
    exact ⟨ret_bool (by rw [HS.out, H1.out]; simp), rfl⟩
  · have H1 := hide (decide_eq_false h1)
    clear h1
    go_enter Tryz.func117, Tryz.ntmps117
    go_wp2_with (first | (with_reducible refine (l01In_any r 1 5 _).mono ?_; rw [H1.out]; rintro e w' ⟨rfl, rfl⟩))
    go_ret
    exact ⟨ret_bool (by rw [HS.out, H1.out]; rfl), rfl⟩

theorem sizesOk_any (r c dx dy : Int) (w : World) :
    Calls Tryz.prog 104 #[.int .i64 r, .int .i64 c, .agg #[.int .i64 dx, .int .i64 dy]] w fun e w' => e = .returned (.bool (sizeOk r c && dirOk dx dy)) ∧ Below w.heap.size w w' := by
  have HS : Hid (sizeOk r c = (decide (1 ≤ r ∧ r ≤ 5) && decide (1 ≤ c ∧ c ≤ 5))) := hide rfl
  by_cases h1 : 1 ≤ r ∧ r ≤ 5
  · have H1 := hide (decide_eq_true h1)
    clear h1
    by_cases h2 : 1 ≤ c ∧ c ≤ 5
    · have H2 := hide (decide_eq_true h2)
      clear h2
      go_enter Tryz.func104, Tryz.ntmps104
      go_wp2_with (first | (with_reducible refine (sideOk_any r _).mono ?_; rw [H1.out]; rintro e w' ⟨rfl, rfl⟩) | (with_reducible refine (sideOk_any c _).mono ?_; rw [H2.out]; rintro e w' ⟨rfl, rfl⟩) | (with_reducible refine (implDirectionOk_any dx dy _).mono ?_; rintro e w1 ⟨rfl, hb⟩; have HB := hide hb; clear hb))
      go_ret
      exact ⟨ret_bool (by rw [HS.out, H1.out, H2.out]; rfl), ((Below.refl _ _).alloc (Nat.le_refl _) _).trans (HB.out.mono (by simp))⟩
    · have H2 := hide (decide_eq_false h2)
      clear h2
      go_enter Tryz.func104, Tryz.ntmps104
      go_wp2_with (first | (with_reducible refine (sideOk_any r _).mono ?_; rw [H1.out]; rintro e w' ⟨rfl, rfl⟩) | (with_reducible refine (sideOk_any c _).mono ?_; rw [H2.out]; rintro e w' ⟨rfl, rfl⟩))
      go_ret
      exact ⟨ret_bool (by rw [HS.out, H1.out, H2.out]; rfl), (Below.refl _ _).alloc (Nat.le_refl _) _⟩
  · have H1 := hide (decide_eq_false h1)
    clear h1
    go_enter Tryz.func104, Tryz.ntmps104
    go_wp2_with (first | (with_reducible refine (sideOk_any r _).mono ?_; rw [H1.out]; rintro e w' ⟨rfl, rfl⟩))
    go_ret
    exact ⟨ret_bool (by rw [HS.out, H1.out]; rfl), (Below.refl _ _).alloc (Nat.le_refl _) _⟩

/-- A direction in a variable. -/
def DirAt (w : World) (g : Nat) (dx dy : Int) : Prop := w.heap[g]? = some (.cells #[.int .i64 dx, .int .i64 dy] 46 (0, 0))
theorem dirAt_below {w w' : World} {g : Nat} {dx dy : Int} (h : DirAt w g dx dy) (hb : Below w.heap.size w w') : DirAt w' g dx dy := by
  unfold DirAt; rw [hb.block g (Array.getElem?_eq_some_iff.1 h).1]; exact h
theorem Tryz.sizeDir : (Tryz.prog.info? 46).map (·.size) = some 2 := by kernel_rfl
theorem exec_loadDir {ρ : Operand → Value} {o : Oper} {w : World} {x : Operand} {g : Nat} {dx dy : Int} (ho : o.op = .load 46 x) (hx : ρ x = .pointer (some ⟨g, 0, none⟩)) (hd : DirAt w g dx dy) :
    (execOp ρ o).run Tryz.prog w = .ok (.value (.agg #[.int .i64 dx, .int .i64 dy])) w := by
  unfold execOp
  simp only [ho, hx, Instr.loadAt, Instr.sureAddr, Sem.run_bind, Sem.run_pure, Result.andThen_ok, run_loadVar_row w g _ _ _ _ _ hd Tryz.underlying46 rfl Tryz.sizeDir]
theorem exec_field0 {ρ : Operand → Value} {o : Oper} {w : World} {x : Operand} {g : Nat} (ho : o.op = .fieldAddr 46 x 0) (hx : ρ x = .pointer (some ⟨g, 0, none⟩)) : (execOp ρ o).run Tryz.prog w = .ok (.value (.pointer (some ⟨g, 0, none⟩))) w := by
  unfold execOp
  simp only [ho, hx]
  go_simp
theorem exec_field1 {ρ : Operand → Value} {o : Oper} {w : World} {x : Operand} {g : Nat} (ho : o.op = .fieldAddr 46 x 1) (hx : ρ x = .pointer (some ⟨g, 0, none⟩)) : (execOp ρ o).run Tryz.prog w = .ok (.value (.pointer (some ⟨g, 1, none⟩))) w := by
  unfold execOp
  simp only [ho, hx]
  go_simp
theorem exec_loadX {ρ : Operand → Value} {o : Oper} {w : World} {x : Operand} {g : Nat} {dx dy : Int} (ho : o.op = .load 3 x) (hx : ρ x = .pointer (some ⟨g, 0, none⟩)) (hd : DirAt w g dx dy) : (execOp ρ o).run Tryz.prog w = .ok (.value (.int .i64 dx)) w := by
  have hc : w.cell? ⟨g, 0, none⟩ = some (.int .i64 dx) := by rw [cell_of_row w g 0 _ _ _ hd]; rfl
  unfold execOp
  simp only [ho, hx]
  go_simp
theorem exec_loadY {ρ : Operand → Value} {o : Oper} {w : World} {x : Operand} {g : Nat} {dx dy : Int} (ho : o.op = .load 3 x) (hx : ρ x = .pointer (some ⟨g, 1, none⟩)) (hd : DirAt w g dx dy) : (execOp ρ o).run Tryz.prog w = .ok (.value (.int .i64 dy)) w := by
  have hc : w.cell? ⟨g, 1, none⟩ = some (.int .i64 dy) := by rw [cell_of_row w g 1 _ _ _ hd]; rfl
  unfold execOp
  simp only [ho, hx]
  go_simp

theorem set_get {ts : Array Value} {d n : Tmp} {v : Value} (hs : ts.size = n) (hd : d < n) : (ts.setIfInBounds d v).getD d undef = v := by
  have : d < ts.size := Nat.lt_of_lt_of_eq hd hs.symm
  simp [this]

/-- What LineOf returns. -/
def lineOf (rows cols dx dy y x : Int) : Int := if (sizeOk rows cols = true ∧ dirOk dx dy = true) ∧ (0 ≤ y ∧ y < rows) ∧ 0 ≤ x ∧ x < cols then lnum dx dy cols y x else -1
/-- A direction's variable is read whole. -/
theorem wpList_loadDir {ops : Array Oper} {rest : List Oper} {o : Oper} {a : Act} {Q : Exit → Act → World → Prop} {W : World} {g : Nat} {dx dy : Int} (hb : DirAt W g dx dy)
    (hgd : o.guard = none) (x : Operand) (ho : o.op = .load 46 x) (hx : a.eval x = .pointer (some ⟨g, 0, none⟩))
    (h : wpList Tryz.prog ops Q rest (a.put o.dst (.agg #[.int .i64 dx, .int .i64 dy])) W) : wpList Tryz.prog ops Q (o :: rest) a W :=
  wpList_load_row hgd _ x ho g hx _ _ (0, 0) _ hb Tryz.underlying46 rfl Tryz.sizeDir h
end Go.Proofs.YtpfaaglaeholbaaGreat
/-
  The keys of the program's map of lines: a direction and a number.
-/
namespace Go.Proofs.YtpfaaglaeholbaaGreat
open Go.RowKit
set_option maxRecDepth 100000

/-- A line: its direction and its number. -/
structure Key where
  x : Int
  y : Int
  n : Int
instance : DecidableEq Key := fun a b =>
  if h : a.x = b.x ∧ a.y = b.y ∧ a.n = b.n then isTrue (by obtain ⟨x, y, n⟩ := a; obtain ⟨x', y', n'⟩ := b; simp only at h; obtain ⟨rfl, rfl, rfl⟩ := h; rfl)
  else isFalse fun e => h (by rw [e]; exact ⟨rfl, rfl, rfl⟩)
def Key.wf (k : Key) : Prop := (Lit.int .i64 k.x).wf = true ∧ (Lit.int .i64 k.y).wf = true ∧ (Lit.int .i64 k.n).wf = true
def keyV (k : Key) : Value := .agg #[.int .i64 k.x, .int .i64 k.y, .int .i64 k.n]
theorem Tryz.laidOut : laidOutB Tryz.prog = true := by kernel_rfl
theorem Tryz.keyTy : Tryz.prog.keyType 94 = true := by kernel_rfl
theorem Tryz.cellsKey : Tryz.prog.cellsOf 94 = 3 := by kernel_rfl
theorem Tryz.cellsDir : Tryz.prog.cellsOf 46 = 2 := by kernel_rfl
theorem Tryz.cellsInt : Tryz.prog.cellsOf 3 = 1 := by kernel_rfl
theorem Tryz.keyLaw : Maps.Keyed Tryz.prog 94 := Maps.Keyed.of_law (deep_law_gate Tryz.laidOut (of_decide_eq_true (by kernel_rfl)) (of_decide_eq_true (by kernel_rfl)) Tryz.keyTy (by rw [Tryz.underlying94]))
theorem intLits (d : Nat) (v : Value) (L : List Lit) (h : Tryz.prog.keyLits (d + 1) 3 [v] = some L) : ∃ x, v = .int .i64 x ∧ (Lit.int .i64 x).wf = true := by
  unfold Program.keyLits at h
  rw [Tryz.underlying3] at h
  cases v <;> simp at h
  obtain ⟨⟨rfl, hw⟩, -⟩ := h
  exact ⟨_, rfl, hw⟩
theorem intLits_mk (d : Nat) (x : Int) (h : (Lit.int .i64 x).wf = true) : Tryz.prog.keyLits (d + 1) 3 [.int .i64 x] = some [.int .i64 x] := by
  unfold Program.keyLits
  rw [Tryz.underlying3]
  simp only
  rw [if_pos ⟨trivial, h⟩]
theorem dirLits_mk (d : Nat) (x y : Int) (h1 : (Lit.int .i64 x).wf = true) (h2 : (Lit.int .i64 y).wf = true) : Tryz.prog.keyLits (d + 2) 46 [.int .i64 x, .int .i64 y] = some [.int .i64 x, .int .i64 y] := by
  unfold Program.keyLits
  rw [Tryz.underlying46]
  simp only
  rw [if_pos ⟨by rw [Tryz.cellsDir]; rfl, by decide +kernel⟩]
  simp only [Tryz.cellsInt, List.mapM_cons, List.mapM_nil, List.drop_zero, List.take_succ_cons, List.take_zero, List.drop_succ_cons, bind, Option.bind, pure, Option.map, intLits_mk d x h1, intLits_mk d y h2]
  rfl
theorem list2 {l : List Value} (h : l.length = 2) : ∃ a b, l = [a, b] := by
  match l, h with
  | [a, b], _ => exact ⟨a, b, rfl⟩
theorem list3 {l : List Value} (h : l.length = 3) : ∃ a b c, l = [a, b, c] := by
  match l, h with
  | [a, b, c], _ => exact ⟨a, b, c, rfl⟩
theorem dirLits (d : Nat) (c : List Value) (L : List Lit) (h : Tryz.prog.keyLits (d + 2) 46 c = some L) : ∃ x y, c = [.int .i64 x, .int .i64 y] ∧ (Lit.int .i64 x).wf = true ∧ (Lit.int .i64 y).wf = true := by
  unfold Program.keyLits at h
  rw [Tryz.underlying46] at h
  simp only at h
  split at h
  · rename_i hc
    obtain ⟨a, b, rfl⟩ := list2 (hc.1.trans Tryz.cellsDir)
    simp only [Tryz.cellsInt, List.mapM_cons, List.mapM_nil, List.drop_zero, List.take_succ_cons, List.take_zero, List.drop_succ_cons, bind, Option.bind, pure, Option.map] at h
    cases ha : Tryz.prog.keyLits (d + 1) 3 [a] with
    | none => rw [ha] at h; simp at h
    | some la =>
      obtain ⟨x, rfl, hx⟩ := intLits d a la ha
      cases hb : Tryz.prog.keyLits (d + 1) 3 [b] with
      | none => rw [ha] at h; simp [hb] at h
      | some lb =>
        obtain ⟨y, rfl, hy⟩ := intLits d b lb hb
        exact ⟨x, y, rfl, hx, hy⟩
  · cases h
theorem key_inv {v : Value} {l : Lit} (h : keyOf Tryz.prog 94 v = some l) : ∃ k : Key, v = keyV k ∧ k.wf := by
  obtain ⟨xs, L, rfl, h1, -⟩ := keyOf_top (by rw [Tryz.underlying94]) h
  have hs : ∃ d, Tryz.prog.types.size + 1 = d + 3 := ⟨Tryz.prog.types.size - 2, by have : 3 ≤ Tryz.prog.types.size := of_decide_eq_true (by kernel_rfl); omega⟩
  obtain ⟨d, hd⟩ := hs
  rw [hd] at h1
  unfold Program.keyLits at h1
  rw [Tryz.underlying94] at h1
  simp only at h1
  split at h1
  · rename_i hc
    obtain ⟨a, b, c, e⟩ := list3 (hc.1.trans Tryz.cellsKey)
    rw [e] at h1
    simp only [Tryz.cellsInt, Tryz.cellsDir, List.mapM_cons, List.mapM_nil, List.drop_zero, List.take_succ_cons, List.take_zero, List.drop_succ_cons, bind, Option.bind, pure, Option.map] at h1
    cases ha : Tryz.prog.keyLits (d + 2) 46 [a, b] with
    | none => rw [ha] at h1; simp at h1
    | some la =>
      obtain ⟨x, y, hxy, hx, hy⟩ := dirLits d _ la ha
      simp only [List.cons.injEq, and_true] at hxy
      obtain ⟨rfl, rfl⟩ := hxy
      cases hb : Tryz.prog.keyLits (d + 2) 3 [c] with
      | none => rw [ha] at h1; simp [hb] at h1
      | some lb =>
        obtain ⟨n, rfl, hn⟩ := intLits (d + 1) c lb hb
        exact ⟨⟨x, y, n⟩, by unfold keyV; congr 1; exact Array.toList_inj.1 e, hx, hy, hn⟩
  · cases h1
theorem key_mk {k : Key} (h : k.wf) : ∃ l, keyOf Tryz.prog 94 (keyV k) = some l := by
  obtain ⟨x, y, n⟩ := k
  obtain ⟨h1, h2, h3⟩ := h
  have hs : ∃ d, Tryz.prog.types.size + 1 = d + 3 := ⟨Tryz.prog.types.size - 2, by have : 3 ≤ Tryz.prog.types.size := of_decide_eq_true (by kernel_rfl); omega⟩
  obtain ⟨d, hd⟩ := hs
  have hf : (keyV ⟨x, y, n⟩).formed Tryz.prog 94 = true := by
    simp [keyV, Value.formed, Tryz.underlying94, Tryz.cellsKey]
  have hL : Tryz.prog.keyLits (Tryz.prog.types.size + 1) 94 (keyV ⟨x, y, n⟩).cells.toList = some [.int .i64 x, .int .i64 y, .int .i64 n] := by
    rw [hd]
    show Tryz.prog.keyLits (d + 2 + 1) 94 [.int .i64 x, .int .i64 y, .int .i64 n] = _
    unfold Program.keyLits
    rw [Tryz.underlying94]
    simp only
    rw [if_pos ⟨by rw [Tryz.cellsKey]; rfl, by decide +kernel⟩]
    simp only [Tryz.cellsInt, Tryz.cellsDir, List.mapM_cons, List.mapM_nil, List.drop_zero, List.take_succ_cons, List.take_zero, List.drop_succ_cons, bind, Option.bind, pure, Option.map, dirLits_mk d x y h1 h2, intLits_mk (d + 1) n h3]
    rfl
  refine ⟨.string (keyBytes [.int .i64 x, .int .i64 y, .int .i64 n]), ?_⟩
  unfold keyOf
  rw [Tryz.underlying94]
  simp only [Tryz.keyTy, hf, Bool.and_self, if_true, hL, Option.map_some]
/-- What a key reads as. -/
noncomputable def kl (k : Key) : Lit := (keyOf Tryz.prog 94 (keyV k)).getD (.bool false)
theorem kl_of {k : Key} (h : k.wf) : keyOf Tryz.prog 94 (keyV k) = some (kl k) := by
  obtain ⟨l, hl⟩ := key_mk h
  unfold kl; rw [hl]; rfl
theorem keyV_inj {k l : Key} (h : keyV k = keyV l) : k = l := by
  obtain ⟨x, y, n⟩ := k
  obtain ⟨x', y', n'⟩ := l
  simp [keyV] at h
  obtain ⟨rfl, rfl, rfl⟩ := h; rfl
theorem kl_inj {k l : Key} (hk : k.wf) (hl : l.wf) (h : kl k = kl l) : k = l :=
  keyV_inj (Tryz.keyLaw.inj (kl_of hk) (h ▸ kl_of hl))
theorem kl_key {k : Key} (hk : k.wf) : WideAt.IsKeyLit (kl k) := Tryz.keyLaw.key (kl_of hk)
end Go.Proofs.YtpfaaglaeholbaaGreat
/-
  'm[k] += v': the map's entry, met before or behind the look-up.
-/
namespace Go.Proofs.YtpfaaglaeholbaaGreat
open Go.RowKit Go.Maps
open Go.ChangeMaps (setBlock)
open Go.WideElems (Fit)

theorem push_last (es : Array MapEntry) (e : MapEntry) (f : MapEntry → MapEntry) : (es.push e).modify es.size f = es.push (f e) := by
  apply Array.ext'
  rw [Array.toList_modify, Array.toList_push, Array.toList_push, ← Array.length_toList, WideElems.modify_last]
theorem modify_same (es : Array MapEntry) (j : Nat) (e0 : MapEntry) (f : MapEntry → MapEntry) (h : es[j]? = some e0) (hf : f e0 = e0) : es.modify j f = es := by
  apply Array.ext'
  rw [Array.toList_modify, ChangeMaps.modify_eq_set _ _ _ _ (by simpa using h), hf]
  exact WideElems.set_self _ _ _ (by simpa using h)

section
variable {P : Program} {t k e : TypeId} {b : Nat}
theorem find_no (K : Keyed P k) {x : Value} {lx : Lit} (hx : keyOf P k x = some lx) {es : List MapEntry} (hes : ∀ e ∈ es, ∃ l, keyOf P k e.key = some l) (h : ∀ e ∈ es, e.key ≠ x) (w : World) : (Instr.findKey k x es).run P w = .ok none w := by
  rcases K.find w hx es hes with ⟨h1, _⟩ | ⟨j, e, _, h2, h3⟩
  · exact h1
  · exact absurd h3 (h e (List.mem_of_getElem? h2))
theorem find_yes (K : Keyed P k) {x : Value} {lx : Lit} (hx : keyOf P k x = some lx) {es : List MapEntry} (hes : ∀ e ∈ es, ∃ l, keyOf P k e.key = some l) (hp : es.Pairwise fun x y => x.key ≠ y.key) {j : Nat} {e0 : MapEntry} (hj : es[j]? = some e0) (he : e0.key = x) (w : World) :
    (Instr.findKey k x es).run P w = .ok (some (j, e0.val)) w := by
  rcases K.find w hx es hes with ⟨_, h2⟩ | ⟨i, e, h1, h2, h3⟩
  · exact absurd he (h2 e0 (List.mem_of_getElem? hj))
  · have hij : i = j := by
      obtain ⟨hi, hie⟩ := List.getElem?_eq_some_iff.1 h2
      obtain ⟨hj', hje⟩ := List.getElem?_eq_some_iff.1 hj
      rcases Nat.lt_trichotomy i j with h | h | h
      · exact absurd (by rw [hie, hje, h3, he]) (List.pairwise_iff_getElem.1 hp i j hi hj' h)
      · exact h
      · exact absurd (by rw [hie, hje, h3, he]) (List.pairwise_iff_getElem.1 hp j i hj' hi h)
    subst hij
    rw [hj] at h2
    obtain rfl := Option.some.inj h2
    exact h1

/-- The entry at a key is made or found; the look-up yields the same before and behind it; the store behind it is a store at the key. -/
theorem entry_all {H : Type} {R : Value → Option (DataW H × List MemPlace)} {es : Array MapEntry} {clock : Nat} (K : Keyed P k) (ht : P.underlying t = some (.map k e)) {z : Value} (hz : ∀ u : World, (zeroValue e).run P u = .ok z u) (F : Fit P k R es clock)
    {key : Value} {lx : Lit} (hkey : keyOf P k key = some lx) :
    ∃ (v0 : Value) (st : Nat) (es1 : Array MapEntry) (clock1 : Nat),
      (∀ w : World, w.heap[b]? = some (.map es clock) → (Instr.mapEntry t (.map (some b)) key).run P w = .ok (.tuple #[v0, goInt st]) (setBlock w b (.map es1 clock1))) ∧
      (∀ w : World, w.heap[b]? = some (.map es1 clock1) → (Instr.mapEntry t (.map (some b)) key).run P w = .ok (.tuple #[v0, goInt st]) (setBlock w b (.map es1 clock1))) ∧
      (∀ w : World, w.heap[b]? = some (.map es clock) → (Instr.lookup t (.map (some b)) key false).run P w = .ok v0 w) ∧
      (∀ w : World, w.heap[b]? = some (.map es1 clock1) → (Instr.lookup t (.map (some b)) key false).run P w = .ok v0 w) ∧
      ∀ val : Value, ∃ es' clock', (∀ w : World, w.heap[b]? = some (.map es1 clock1) → (Instr.entryStore t (.map (some b)) (goInt st) val).run P w = .ok () (setBlock w b (.map es' clock'))) ∧
        ∀ w : World, w.heap[b]? = some (.map es clock) → (Instr.mapUpdate t (.map (some b)) key val).run P w = .ok () (setBlock w b (.map es' clock')) := by
  obtain ⟨s1, s2, s3⟩ := F.stamped
  have hpw : es.toList.Pairwise fun x y => x.key ≠ y.key := by have := s3; unfold List.Nodup at this; rw [List.pairwise_map] at this; exact this
  by_cases hin : ∃ (j : Nat) (e0 : MapEntry), es.toList[j]? = some e0 ∧ e0.key = key
  · obtain ⟨j, e0, h2, h3⟩ := hin
    have hf := fun w => find_yes K hkey F.keys hpw h2 h3 w
    have hj : es[j]? = some e0 := by simpa using h2
    have hsame : es.modify j (fun e => { e with key := key }) = es := modify_same es j e0 _ hj (by rw [← h3])
    have hr : ∀ w : World, w.heap[b]? = some (.map es clock) → (Instr.mapEntry t (.map (some b)) key).run P w = .ok (.tuple #[e0.val, goInt e0.born]) (setBlock w b (.map es clock)) := fun w hb => by
      simp [Instr.mapEntry, run_underlying ht, MapKept.run_getObj_map hb, K.check w false hkey, hf w, hj, h3, K.stays w hkey, hsame, MapKept.run_setObj_map _ hb, Result.andThen, setBlock]
    have hl : ∀ w : World, w.heap[b]? = some (.map es clock) → (Instr.lookup t (.map (some b)) key false).run P w = .ok e0.val w := fun w hb => by
      simp [Instr.lookup, run_underlying ht, MapKept.run_getObj_map hb, K.check w _ hkey, hf w, Result.andThen]
    refine ⟨e0.val, e0.born, es, clock, hr, hr, hl, hl, fun val => ⟨es.modify j (fun e' => { e' with key := key, val := val }), clock, fun w hb => ?_, fun w hb => ?_⟩⟩
    · have hidx : es.findIdx? (fun e => ((e.born : Nat) : Int) == ((e0.born : Nat) : Int)) = some j := by
        rw [WideElems.findIdx_arr]; exact WideElems.findIdx_born s2 h2
      have hmod : es.modify j (fun e => { e with val := val }) = es.modify j (fun e' => { e' with key := key, val := val }) := by
        apply Array.ext'
        rw [Array.toList_modify, Array.toList_modify, ChangeMaps.modify_eq_set _ _ _ _ h2, ChangeMaps.modify_eq_set _ _ _ _ h2, ← h3]
      simp [Instr.entryStore, MapKept.run_getObj_map hb, asInt, asIntOf, goInt, hidx, hmod, MapKept.run_setObj_map _ hb, Result.andThen, setBlock]
    · simp [Instr.mapUpdate, run_underlying ht, MapKept.run_getObj_map hb, K.check w false hkey, hf w, hj, h3, K.stays w hkey, MapKept.run_setObj_map _ hb, Result.andThen, setBlock]
  · have hno : ∀ x ∈ es.toList, x.key ≠ key := fun x hx e1 => by
      obtain ⟨j, hj⟩ := List.getElem?_of_mem hx
      exact hin ⟨j, x, hj, e1⟩
    have hf := fun w => find_no K hkey F.keys hno w
    have hk1 : ∀ x ∈ (es.push ⟨key, z, clock⟩).toList, ∃ l, keyOf P k x.key = some l := fun x hx => by
      rw [Array.toList_push, List.mem_append, List.mem_singleton] at hx
      rcases hx with hx | rfl
      · exact F.keys x hx
      · exact ⟨_, hkey⟩
    have hp1 : (es.push ⟨key, z, clock⟩).toList.Pairwise fun x y => x.key ≠ y.key := by
      rw [Array.toList_push]
      refine List.pairwise_append.2 ⟨hpw, List.pairwise_singleton _ _, fun x hx y hy => ?_⟩
      rw [List.mem_singleton] at hy
      subst hy
      exact hno x hx
    have hlast : (es.push ⟨key, z, clock⟩).toList[es.size]? = some ⟨key, z, clock⟩ := by simp
    have hf1 := fun w => find_yes K hkey hk1 hp1 hlast rfl w
    have hj1 : (es.push ⟨key, z, clock⟩)[es.size]? = some ⟨key, z, clock⟩ := by simp
    have hsame : (es.push ⟨key, z, clock⟩).modify es.size (fun e => { e with key := key }) = es.push ⟨key, z, clock⟩ := by rw [push_last]
    refine ⟨z, clock, es.push ⟨key, z, clock⟩, clock + 1, fun w hb => ?_, fun w hb => ?_, fun w hb => ?_, fun w hb => ?_, fun val => ⟨es.push ⟨key, val, clock⟩, clock + 1, fun w hb => ?_, fun w hb => ?_⟩⟩
    · simp [Instr.mapEntry, run_underlying ht, MapKept.run_getObj_map hb, K.check w false hkey, hf w, hz, MapKept.run_setObj_map _ hb, Result.andThen, setBlock]
    · have := hf1 w
      simp only [Array.toList_push] at this
      simp [Instr.mapEntry, run_underlying ht, MapKept.run_getObj_map hb, K.check w false hkey, this, K.stays w hkey, hsame, MapKept.run_setObj_map _ hb, Result.andThen, setBlock]
    · simp [Instr.lookup, run_underlying ht, MapKept.run_getObj_map hb, K.check w _ hkey, hf w, hz, Result.andThen]
    · have := hf1 w
      simp only [Array.toList_push] at this
      simp [Instr.lookup, run_underlying ht, MapKept.run_getObj_map hb, K.check w _ hkey, this, Result.andThen]
    · have hidx : (es.push ⟨key, z, clock⟩).findIdx? (fun e => ((e.born : Nat) : Int) == ((clock : Nat) : Int)) = some es.size := by
        rw [WideElems.findIdx_arr]
        exact WideElems.findIdx_born (l := (es.push ⟨key, z, clock⟩).toList) (j := es.size) (e0 := ⟨key, z, clock⟩) (by
          simp only [Array.toList_push, List.map_append, List.map_cons, List.map_nil]
          refine List.nodup_append.2 ⟨s2, by simp, fun a ha c hc e1 => ?_⟩
          simp only [List.mem_singleton] at hc
          obtain ⟨x, hx, rfl⟩ := List.mem_map.1 ha
          have := s1 x hx
          omega) (by simp)
      have hmod := push_last es ⟨key, z, clock⟩ (fun e => { e with val := val })
      simp [Instr.entryStore, MapKept.run_getObj_map hb, asInt, asIntOf, goInt, hidx, hmod, MapKept.run_setObj_map _ hb, Result.andThen, setBlock]
    · simp [Instr.mapUpdate, run_underlying ht, MapKept.run_getObj_map hb, K.check w false hkey, hf w, MapKept.run_setObj_map _ hb, Result.andThen, setBlock]
end
end Go.Proofs.YtpfaaglaeholbaaGreat
/-
  A map of lines by its content: which keys are there, and what stands at each.
-/
namespace Go.Proofs.YtpfaaglaeholbaaGreat
open Go.RowKit Go.Maps
open Go.ChangeMaps (setBlock)
open Go.WideElems (Fit rd rg pl rd_key)
set_option maxRecDepth 100000

theorem Tryz.zeroInt (w : World) : (zeroValue 3).run Tryz.prog w = .ok (.int .i64 0) w := by kernel_rfl
def ReadsAs (D : DataW Unit) (A : Key → Bool) (F : Key → Int) : Prop := ∀ k, k.wf → has D (kl k) = A k ∧ D.atKey (kl k) (.lit (.int .i64 0)) = .lit (.int .i64 (F k))
/-- Block b is a map of at most n lines: A says which are there, F what stands at each. -/
def LM (w : World) (b n : Nat) (A : Key → Bool) (F : Key → Int) : Prop := ∃ D : DataW Unit, w.ownsMap Tryz.prog 94 (plainElem (H := Unit) Tryz.prog 3) b n D ∧ ReadsAs D A F

theorem lm_heap {w w' : World} {b n : Nat} {A : Key → Bool} {F : Key → Int} (h : LM w b n A F) (e : w'.heap[b]? = w.heap[b]?) : LM w' b n A F := by
  obtain ⟨D, ⟨es, clock, hb, r⟩, hr⟩ := h
  exact ⟨D, ⟨es, clock, e.trans hb, r⟩, hr⟩
theorem lm_lt {w : World} {b n : Nat} {A : Key → Bool} {F : Key → Int} (h : LM w b n A F) : b < w.heap.size := by
  obtain ⟨D, hD, -⟩ := h
  exact hD.lt
theorem lm_below {w w' : World} {b n : Nat} {A : Key → Bool} {F : Key → Int} (h : LM w b n A F) (hb : Below w.heap.size w w') : LM w' b n A F := lm_heap h (hb.block b (lm_lt h))
theorem lm_grown {w w' : World} {b n : Nat} {A : Key → Bool} {F : Key → Int} {row : Option Nat} (h : LM w b n A F) (hg : w.grownBy w' row) (hr : row ≠ some b) : LM w' b n A F := lm_heap h (hg.block b (lm_lt h) (Ne.symm hr))
theorem lm_mono {w : World} {b n n' : Nat} {A : Key → Bool} {F : Key → Int} (h : LM w b n A F) (hn : n ≤ n') : LM w b n' A F := by
  obtain ⟨D, hD, hr⟩ := h
  exact ⟨D, hD.mono hn, hr⟩
theorem lm_congr {w : World} {b n : Nat} {A A' : Key → Bool} {F F' : Key → Int} (h : LM w b n A F) (hA : ∀ k, k.wf → A k = A' k) (hF : ∀ k, k.wf → F k = F' k) : LM w b n A' F' := by
  obtain ⟨D, hD, hr⟩ := h
  exact ⟨D, hD, fun k hk => by rw [← hA k hk, ← hF k hk]; exact hr k hk⟩
theorem lm_made (w : World) : LM (w.alloc (.map #[] 0)) w.heap.size 0 (fun _ => false) (fun _ => 0) :=
  ⟨.map [], World.ownsMap_made _ _ _ _, fun _ _ => ⟨rfl, rfl⟩⟩

def setK {α : Type} (f : Key → α) (k : Key) (v : α) : Key → α := fun z => if z = k then v else f z
theorem readsAs_put {D : DataW Unit} {A : Key → Bool} {F : Key → Int} (hD : IsMap D) (h : ReadsAs D A F) {k : Key} (hk : k.wf) (v : Int) : ReadsAs (D.put (kl k) (.lit (.int .i64 v))) (setK A k true) (setK F k v) := by
  intro z hz
  by_cases e : z = k
  · subst e
    simp only [setK, if_true]
    exact ⟨has_put_same hD (kl_key hz) _, atKey_put_same hD (kl_key hz) _ _⟩
  · have hne : kl z ≠ kl k := fun h => e (kl_inj hz hk h)
    simp only [setK, if_neg e]
    rw [has_put_other hne, atKey_put_other hne]
    exact h z hz
theorem readsAs_del {D : DataW Unit} {A : Key → Bool} {F : Key → Int} (h : ReadsAs D A F) {k : Key} (hk : k.wf) : ReadsAs (D.del (kl k)) (setK A k false) (setK F k 0) := by
  intro z hz
  by_cases e : z = k
  · subst e
    simp only [setK, if_true]
    exact ⟨has_del_same, atKey_del_same _⟩
  · have hne : kl z ≠ kl k := fun h => e (kl_inj hz hk h)
    simp only [setK, if_neg e]
    rw [has_del_other hne, atKey_del_other hne]
    exact h z hz
/-- Each key that is there is a line's. -/
theorem lm_key {w : World} {b n : Nat} {D : DataW Unit} (h : w.ownsMap Tryz.prog 94 (plainElem (H := Unit) Tryz.prog 3) b n D) {l : Lit} (hl : has D l = true) : ∃ k, k.wf ∧ l = kl k := by
  obtain ⟨es, clock, hb, F, hs, rfl⟩ := h
  obtain ⟨p, hp, hpk⟩ := List.any_eq_true.1 hl
  obtain ⟨x, hx, rfl⟩ := List.mem_map.1 (mem_sorted.1 hp)
  obtain ⟨y, hy⟩ := F.reads x hx
  have h1 := rd_key hy
  obtain ⟨k, hk, hw⟩ := key_inv h1
  refine ⟨k, hw, ?_⟩
  have h2 := WideAt.sameKey_eq hpk
  rw [WideElems.rg_of hy] at h2
  rw [← h2]
  rw [hk, kl_of hw] at h1
  exact (Option.some.inj h1).symm
theorem lm_size {w : World} {b n : Nat} {D : DataW Unit} {A : Key → Bool} {F : Key → Int} (h : w.ownsMap Tryz.prog 94 (plainElem (H := Unit) Tryz.prog 3) b n D) (hr : ReadsAs D A F) : (Maps.size D = 0 ↔ ∀ k, k.wf → A k = false) := by
  constructor
  · intro h0 k hk
    obtain ⟨es, rfl⟩ := h.isMap
    have : es = [] := List.eq_nil_of_length_eq_zero h0
    subst this
    rw [← (hr k hk).1]; rfl
  · intro hA
    obtain ⟨es, hes⟩ := h.isMap
    subst hes
    cases es with
    | nil => rfl
    | cons p r =>
      exfalso
      obtain ⟨es', e', _, hk⟩ := h.entries Tryz.keyLaw
      have hp : p ∈ es' := by cases e'; exact List.mem_cons_self
      have hhas : has (DataW.map (p :: r)) p.1 = true := by
        rw [has_eq, List.any_cons, WideAt.sameKey_self (hk p hp)]; rfl
      obtain ⟨k, hw, hkl⟩ := lm_key h hhas
      have := (hr k hw).1
      rw [← hkl, hhas, hA k hw] at this
      cases this

theorem lm_lookup {w : World} {b n : Nat} {A : Key → Bool} {F : Key → Int} (h : LM w b n A F) {k : Key} (hk : k.wf) : (Instr.lookup 51 (.map (some b)) (keyV k) false).run Tryz.prog w = .ok (.int .i64 (F k)) w := by
  obtain ⟨D, hD, hr⟩ := h
  obtain ⟨c, hrun, hat, -⟩ := hD.lookup_int Tryz.keyLaw Tryz.underlying51 Tryz.underlying3 (Tryz.zeroInt w) (kl_of hk)
  have := (hr k hk).2
  rw [hat] at this
  simp only [DataW.lit.injEq, Lit.int.injEq, true_and] at this
  rw [hrun, this]
theorem lm_store {w : World} {b n : Nat} {A : Key → Bool} {F : Key → Int} (h : LM w b n A F) (hn : n < maxLen) {k : Key} (hk : k.wf) {v : Int} (hv : (Lit.int .i64 v).wf = true) :
    ∃ w', (Instr.mapUpdate 51 (.map (some b)) (keyV k) (.int .i64 v)).run Tryz.prog w = .ok () w' ∧ LM w' b (n + 1) (setK A k true) (setK F k v) ∧ w.grownBy w' (some b) := by
  obtain ⟨D, hD, hr⟩ := h
  obtain ⟨w', h1, h2, h3⟩ := hD.update Tryz.keyLaw Tryz.underlying51 hn (kl_of hk) (plainElem_int Tryz.underlying3 hv)
  exact ⟨w', h1, ⟨_, h2, readsAs_put hD.isMap hr hk v⟩, h3⟩
theorem lm_wf {w : World} {b n : Nat} {A : Key → Bool} {F : Key → Int} (h : LM w b n A F) {k : Key} (hk : k.wf) : (Lit.int .i64 (F k)).wf = true := by
  obtain ⟨D, hD, hr⟩ := h
  obtain ⟨c, -, hat, hw⟩ := hD.lookup_int Tryz.keyLaw Tryz.underlying51 Tryz.underlying3 (Tryz.zeroInt w) (kl_of hk)
  have := (hr k hk).2
  rw [hat] at this
  simp only [DataW.lit.injEq, Lit.int.injEq, true_and] at this
  rw [← this]; exact hw

/-- 'm[k] += ..': the block before the entry is made, the block behind it, the entry's stamp. -/
structure Ent (b n : Nat) (k : Key) (A : Key → Bool) (F : Key → Int) (E0 E1 : Obj) (st : Nat) : Prop where
  entry : ∀ w : World, (w.heap[b]? = some E0 ∨ w.heap[b]? = some E1) → (Instr.mapEntry 51 (.map (some b)) (keyV k)).run Tryz.prog w = .ok (.tuple #[.int .i64 (F k), .int .i64 st]) (setBlock w b E1)
  look : ∀ w : World, (w.heap[b]? = some E0 ∨ w.heap[b]? = some E1) → (Instr.lookup 51 (.map (some b)) (keyV k) false).run Tryz.prog w = .ok (.int .i64 (F k)) w
  store : ∀ (w : World) (v : Int), (Lit.int .i64 v).wf = true → w.heap[b]? = some E1 → ∃ E', (Instr.entryStore 51 (.map (some b)) (.int .i64 st) (.int .i64 v)).run Tryz.prog w = .ok () (setBlock w b E') ∧ LM (setBlock w b E') b (n + 1) (setK A k true) (setK F k v)
theorem lm_ent {w0 : World} {b n : Nat} {A : Key → Bool} {F : Key → Int} (h : LM w0 b n A F) (hn : n < maxLen) {k : Key} (hk : k.wf) : ∃ E0 E1 st, w0.heap[b]? = some E0 ∧ Ent b n k A F E0 E1 st := by
  have hL := lm_lookup h hk
  have h0 := h
  obtain ⟨D, ⟨es, clock, hb, Ft, hs, hD⟩, hr⟩ := h0
  obtain ⟨v0, st, es1, clock1, e1, e2, l1, l2, hst⟩ := entry_all (b := b) Tryz.keyLaw Tryz.underlying51 Tryz.zeroInt Ft (kl_of hk)
  have hv0 : v0 = .int .i64 (F k) := by
    have := l1 w0 hb
    rw [hL] at this
    simp only [Result.ok.injEq, and_true] at this
    exact this.symm
  subst hv0
  refine ⟨_, .map es1 clock1, st, hb, fun w hw => hw.elim (e1 w) (e2 w), fun w hw => hw.elim (l1 w) (l2 w), fun w v hv hw => ?_⟩
  obtain ⟨es', clock', s1, s2⟩ := hst (.int .i64 v)
  refine ⟨_, s1 w hw, ?_⟩
  obtain ⟨w', u1, u2, -⟩ := lm_store h hn hk hv
  rw [s2 w0 hb] at u1
  simp only [Result.ok.injEq, true_and] at u1
  subst u1
  refine lm_heap u2 ?_
  rw [ChangeMaps.heap_setBlock_same hw, ChangeMaps.heap_setBlock_same hb]
theorem sb_same {w : World} {b : Nat} {o o' : Obj} (h : w.heap[b]? = some o) : (setBlock w b o').heap[b]? = some o' := by
  have := (Array.getElem?_eq_some_iff.1 h).1
  simp [setBlock, this]
theorem sb_other (w : World) {b i : Nat} (o' : Obj) (h : i ≠ b) : (setBlock w b o').heap[i]? = w.heap[i]? := by
  simp [setBlock, Array.getElem?_setIfInBounds_ne (Ne.symm h)]
theorem sb_grown (w : World) (b : Nat) (o' : Obj) : w.grownBy (setBlock w b o') (some b) :=
  ⟨rfl, rfl, rfl, by simp [setBlock], fun i _ hi => sb_other w o' fun e => hi (by rw [e])⟩

theorem lm_drop {w : World} {b n : Nat} {A : Key → Bool} {F : Key → Int} (h : LM w b n A F) {k : Key} (hk : k.wf) (ty : TypeId) :
    ∃ w', (Builtin.delete_ #[51, 94] ty #[.map (some b), keyV k]).run Tryz.prog w = .ok (.tuple #[]) w' ∧ LM w' b n (setK A k false) (setK F k 0) ∧ w.grownBy w' (some b) ∧ w'.heap.size = w.heap.size := by
  obtain ⟨D, hD, hr⟩ := h
  obtain ⟨w', h1, h2, h3⟩ := hD.drop Tryz.keyLaw Tryz.underlying51 (kl_of hk) ty
  refine ⟨w', h1, ⟨_, h2, readsAs_del hr hk⟩, h3.grown, ?_⟩
  obtain ⟨es, c, es', c', -, rfl⟩ := h3
  simp [setBlock]
theorem wpList_deleteLM (w : World) {ops : Array Oper} {rest : List Oper} {o : Oper} {a : Act} {Q : Exit → Act → World → Prop} {b n : Nat} {A : Key → Bool} {F : Key → Int} {k : Key} (hg : o.guard = none) (m x : Operand)
    (hop : o.op = Op.call { callee := Callee.builtin Builtin.delete, args := #[m, x], argTypes := #[51, 94] }) (hm : a.eval m = .map (some b)) (hx : a.eval x = keyV k) (h : LM w b n A F) (hk : k.wf)
    (hK : ∀ w', LM w' b n (setK A k false) (setK F k 0) → w.grownBy w' (some b) → w'.heap.size = w.heap.size → wpList Tryz.prog ops Q rest (a.put o.dst (.tuple #[])) w') : wpList Tryz.prog ops Q (o :: rest) a w := by
  refine wpList_plain hg fun K' hK' => ?_
  obtain ⟨w', hrun, r1, r2, r3⟩ := lm_drop h hk o.type
  unfold Oper.wp
  simp [execOp, hop, resolve, invoke, builtin, hm, hx, hrun, Result.andThen]
  exact hK' _ _ (hK w' r1 r2 r3)
theorem wpList_lookupLM (w : World) {ops : Array Oper} {rest : List Oper} {o : Oper} {a : Act} {Q : Exit → Act → World → Prop} {b n : Nat} {A : Key → Bool} {F : Key → Int} {k : Key} (hg : o.guard = none) (m x : Operand)
    (hop : o.op = Op.lookup 51 m x false) (hm : a.eval m = .map (some b)) (hx : a.eval x = keyV k) (h : LM w b n A F) (hk : k.wf)
    (hK : wpList Tryz.prog ops Q rest (a.put o.dst (.int .i64 (F k))) w) : wpList Tryz.prog ops Q (o :: rest) a w := by
  refine wpList_plain hg fun K' hK' => ?_
  unfold Oper.wp
  simp [execOp, hop, hm, hx, lm_lookup h hk, Result.andThen]
  exact hK' _ _ hK
theorem wpList_lenLM (w : World) {ops : Array Oper} {rest : List Oper} {o : Oper} {a : Act} {Q : Exit → Act → World → Prop} {b n : Nat} {A : Key → Bool} {F : Key → Int} (hg : o.guard = none) (m : Operand)
    (hop : o.op = Op.call { callee := Callee.builtin Builtin.len, args := #[m], argTypes := #[51] }) (hm : a.eval m = .map (some b)) (h : LM w b n A F)
    (hK : ∀ s : Nat, s ≤ n → (s = 0 ↔ ∀ k : Key, k.wf → A k = false) → wpList Tryz.prog ops Q rest (a.put o.dst (.int .i64 s)) w) : wpList Tryz.prog ops Q (o :: rest) a w := by
  refine wpList_plain hg fun K' hK' => ?_
  obtain ⟨D, hD, hr⟩ := h
  have hrun := hD.len Tryz.underlying51 o.type
  unfold Oper.wp
  simp [execOp, hop, resolve, invoke, builtin, hm, hrun, Result.andThen]
  exact hK' _ _ (hK _ hD.size_le (lm_size hD hr))

/-- 'for k, v := range m' under way: left says which lines are still to come. -/
def LR (w : World) (b r n : Nat) (A : Key → Bool) (F : Key → Int) (left : Key → Bool) (cnt : Nat) : Prop :=
  ∃ (D : DataW Unit) (lf : Lit → Bool), w.ranges Tryz.prog 94 (plainElem (H := Unit) Tryz.prog 3) b r n D lf cnt ∧ ReadsAs D A F ∧ ∀ k, k.wf → lf (kl k) = left k
theorem lr_owns {w : World} {b r n : Nat} {A : Key → Bool} {F : Key → Int} {left : Key → Bool} {cnt : Nat} (h : LR w b r n A F left cnt) : LM w b n A F := by
  obtain ⟨D, lf, h1, h2, -⟩ := h
  exact ⟨D, h1.owns, h2⟩
theorem lr_left {w : World} {b r n : Nat} {A : Key → Bool} {F : Key → Int} {left : Key → Bool} {cnt : Nat} (h : LR w b r n A F left cnt) : w.rangeLeft b r = cnt := by
  obtain ⟨D, lf, h1, -⟩ := h
  exact h1.left_eq
theorem lr_lt {w : World} {b r n : Nat} {A : Key → Bool} {F : Key → Int} {left : Key → Bool} {cnt : Nat} (h : LR w b r n A F left cnt) : r < w.heap.size := by
  obtain ⟨D, lf, h1, -⟩ := h
  exact h1.lt
theorem lr_grown {w w' : World} {b r n : Nat} {A : Key → Bool} {F : Key → Int} {left : Key → Bool} {cnt : Nat} {row : Option Nat} (h : LR w b r n A F left cnt) (hg : w.grownBy w' row) (hb : row ≠ some b) (hr : row ≠ some r) : LR w' b r n A F left cnt := by
  obtain ⟨D, lf, h1, h2, h3⟩ := h
  exact ⟨D, lf, h1.kept hg (Ne.symm hb) (Ne.symm hr), h2, h3⟩
theorem lr_below {w w' : World} {b r n : Nat} {A : Key → Bool} {F : Key → Int} {left : Key → Bool} {cnt : Nat} (h : LR w b r n A F left cnt) (hb : Below w.heap.size w w') : LR w' b r n A F left cnt :=
  lr_grown h (grown_of_below hb none) (by simp) (by simp)
theorem wpList_rangeLM (w : World) {ops : Array Oper} {rest : List Oper} {o : Oper} {a : Act} {Q : Exit → Act → World → Prop} {b n : Nat} {A : Key → Bool} {F : Key → Int} (hg : o.guard = none) (m : Operand) (hop : o.op = Op.range 51 m) (hm : a.eval m = .map (some b)) (h : LM w b n A F)
    (hK : ∀ w' cnt, LR w' b w.heap.size n A F A cnt → Below w.heap.size w w' → w'.heap.size = w.heap.size + 1 → wpList Tryz.prog ops Q rest (a.put o.dst (.pointer (some ⟨w.heap.size, 0, none⟩))) w') : wpList Tryz.prog ops Q (o :: rest) a w := by
  obtain ⟨D, hD, hr⟩ := h
  refine wpList_range_own w hg m _ hop _ _ Tryz.keyLaw Tryz.underlying51 _ b n D hm hD fun w' h1 h2 h3 => hK w' _ ⟨D, _, h1, hr, fun k hk => (hr k hk).1⟩ (grown_below h2 (fun k hk => by cases hk) (Nat.le_refl _)) h3
theorem wpList_nextLR (w : World) {ops : Array Oper} {rest : List Oper} {o : Oper} {a : Act} {Q : Exit → Act → World → Prop} {b r n : Nat} {A : Key → Bool} {F : Key → Int} {left : Key → Bool} {cnt : Nat} (hg : o.guard = none) (it : Operand) (hop : o.op = Op.next it false)
    (hit : a.eval it = .pointer (some ⟨r, 0, none⟩)) (h : LR w b r n A F left cnt)
    (hDone : (∀ k : Key, k.wf → left k = false) → wpList Tryz.prog ops Q rest (a.put o.dst (.tuple #[.bool false])) w)
    (hMore : ∀ (k : Key) (w' : World) (cnt' : Nat), k.wf → left k = true → LR w' b r n A F (fun z => left z && !decide (z = k)) cnt' → cnt' < cnt → w.grownBy w' (some r) → w'.heap.size = w.heap.size →
      (Instr.entry (.pointer (some ⟨r, 0, none⟩))).run Tryz.prog w' = .ok (.tuple #[keyV k, .int .i64 (F k)]) w' → wpList Tryz.prog ops Q rest (a.put o.dst (.tuple #[.bool true, keyV k, .int .i64 (F k)])) w') : wpList Tryz.prog ops Q (o :: rest) a w := by
  obtain ⟨D, lf, h1, h2, h3⟩ := h
  refine wpList_next_ranges w hg it hop _ Tryz.keyLaw _ keyV (Value.int .i64) (fun key l hk => ?_) (fun v y hv => ?_) b r n D lf cnt hit h1 (fun _ hl => hDone fun k hk => by rw [← h3 k hk]; exact hl _) fun x c l y w' cnt' q1 q2 q3 q4 q5 q6 q7 q8 q9 => ?_
  · obtain ⟨k, hk, -⟩ := key_inv hk
    exact ⟨k, hk⟩
  · obtain ⟨c, hc, -⟩ := plainElem_int_inv Tryz.underlying3 hv
    exact ⟨c, hc⟩
  · obtain ⟨k, hk, hw⟩ := key_inv q1
    obtain rfl := keyV_inj hk
    have hl : l = kl x := by rw [kl_of hw] at q1; exact (Option.some.inj q1).symm
    subst hl
    obtain ⟨c', hc, hy, -⟩ := plainElem_int_inv Tryz.underlying3 q3
    cases hc
    have hF : F x = c := by
      have e1 := (h2 x hw).2
      rw [q4, hy] at e1
      simp only [DataW.lit.injEq, Lit.int.injEq, true_and] at e1
      exact e1.symm
    subst hF
    refine hMore x w' cnt' hw (by rw [← h3 x hw]; exact q2) ⟨D, _, q5, h2, fun z hz => ?_⟩ q6 q7 q8 q9
    simp only [h3 z hz]
    congr 2
    by_cases e : z = x
    · subst e; rw [decide_eq_true rfl, WideAt.sameKey_self (kl_key hz)]
    · rw [decide_eq_false e, sameKey_ne fun h => e (kl_inj hz hw h)]
end Go.Proofs.YtpfaaglaeholbaaGreat
