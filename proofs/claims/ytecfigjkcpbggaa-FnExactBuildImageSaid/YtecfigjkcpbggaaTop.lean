/-
  The columns by their sums: the greatest first, of equal ones those further to the left.
-/
import Derived.Test.YtecfigjkcpbggaaSortL
import Derived.Sort.LotA
namespace Go.Proofs.Ytecfigjkcpbggaa
open Go.RowKit

/-- A column's place in the order, as a number: the greater the earlier. -/
def keyF (c : List Int) (i : Nat) : Int := c.getD i 0 * 8 + (7 - (i : Int))
theorem keyF_inj {c : List Int} {i j : Nat} (hi : i < 8) (hj : j < 8) (h : keyF c i = keyF c j) : i = j := by unfold keyF at h; omega
/-- The order of the columns. -/
def sortK (c : List Int) : List Nat := (List.range c.length).mergeSort fun i j => decide (keyF c j ≤ keyF c i)
theorem sortK_perm (c : List Int) : (sortK c).Perm (List.range c.length) := List.mergeSort_perm _ _
theorem sortK_len (c : List Int) : (sortK c).length = c.length := by rw [(sortK_perm c).length_eq, List.length_range]
theorem sortK_desc (c : List Int) : (sortK c).Pairwise fun i j => keyF c j ≤ keyF c i := by
  have h := List.pairwise_mergeSort (le := fun i j : Nat => decide (keyF c j ≤ keyF c i)) (by simp; omega) (by simp; omega) (List.range c.length)
  exact h.imp fun h => by simpa using h
theorem sortK_mem {c : List Int} {i : Nat} : i ∈ sortK c ↔ i < c.length := by rw [(sortK_perm c).mem_iff, List.mem_range]
theorem sortK_nodup (c : List Int) : (sortK c).Nodup := (sortK_perm c).nodup_iff.2 List.nodup_range
theorem map_inj_of {k : Nat → Int} {p : Nat → Prop} (hk : ∀ i j, p i → p j → k i = k j → i = j) : ∀ {s t : List Nat}, (∀ i ∈ s, p i) → (∀ i ∈ t, p i) → s.map k = t.map k → s = t
  | [], [], _, _, _ => rfl
  | [], y :: t, _, _, h => by simp at h
  | x :: s, [], _, _, h => by simp at h
  | x :: s, y :: t, hs, ht, h => by
    simp only [List.map_cons, List.cons.injEq] at h
    rw [hk x y (hs x List.mem_cons_self) (ht y List.mem_cons_self) h.1, map_inj_of hk (fun i hi => hs i (List.mem_cons_of_mem _ hi)) (fun i hi => ht i (List.mem_cons_of_mem _ hi)) h.2]
theorem sortK_of {c : List Int} {s : List Nat} (hc : c.length ≤ 8) (hp : s.Perm (List.range c.length)) (hd : s.Pairwise fun i j => keyF c j ≤ keyF c i) : s = sortK c := by
  refine map_inj_of (k := keyF c) (p := fun i => i < c.length) (fun i j hi hj h => keyF_inj (by omega) (by omega) h) (fun i hi => by rw [hp.mem_iff, List.mem_range] at hi; exact hi) (fun i hi => sortK_mem.1 hi) ?_
  exact desc_unique ((hp.trans (sortK_perm c).symm).map _) (List.pairwise_map.2 hd) (List.pairwise_map.2 (sortK_desc c))
/-- The row whose n black cells stand in the first columns of the order. -/
def topF (c : List Int) (n x : Nat) : Int := if x ∈ (sortK c).take n then 1 else 0
def topRow (c : List Int) (n : Nat) : List Int := tabL c.length (topF c n)
theorem topRow_len (c : List Int) (n : Nat) : (topRow c n).length = c.length := tabL_len _ _
theorem topF_zero (c : List Int) (x : Nat) : topF c 0 x = 0 := by rw [topF, if_neg (by simp)]
theorem topF_succ {c : List Int} {n : Nat} (h : n < (sortK c).length) (x : Nat) : topF c (n + 1) x = if x = (sortK c)[n] then 1 else topF c n x := by
  unfold topF
  rw [List.take_succ_eq_append_getElem h]
  by_cases e : x = (sortK c)[n]
  · rw [if_pos e, if_pos (by rw [List.mem_append]; right; simp [e])]
  · rw [if_neg e]
    by_cases e2 : x ∈ (sortK c).take n
    · rw [if_pos e2, if_pos (List.mem_append_left _ e2)]
    · rw [if_neg e2, if_neg (by rw [List.mem_append]; rintro (h | h); exact e2 h; exact e (by simpa using h))]
theorem topF_next {c : List Int} {n : Nat} (h : n < (sortK c).length) : topF c n (sortK c)[n] = 0 := by
  rw [topF, if_neg]
  intro hm
  obtain ⟨i, hi, he⟩ := List.getElem_of_mem hm
  rw [List.length_take] at hi
  rw [List.getElem_take] at he
  have := (List.nodup_iff_pairwise_ne.1 (sortK_nodup c))
  have := List.pairwise_iff_getElem.1 this i n (by omega) h (by omega)
  exact this he
/-- The next column is the first one of those that are white yet. -/
theorem next_of {c : List Int} {n b : Nat} (hc : c.length ≤ 8) (h : n < (sortK c).length) (hb : b < c.length) (hw : topF c n b = 0) (hall : ∀ t, t < c.length → topF c n t = 0 → keyF c t ≤ keyF c b) : b = (sortK c)[n] := by
  have hn : (sortK c)[n] < c.length := sortK_mem.1 (List.getElem_mem h)
  have h1 := hall _ hn (topF_next h)
  obtain ⟨i, hi, he⟩ := List.getElem_of_mem (sortK_mem.2 hb)
  have hni : n ≤ i := by
    rcases Nat.lt_or_ge i n with h2 | h2
    · exfalso
      rw [topF, if_pos] at hw
      · cases hw
      · rw [← he]
        refine List.mem_of_getElem (i := i) (h := by rw [List.length_take]; omega) ?_
        rw [List.getElem_take]
    · exact h2
  by_cases e : n = i
  · subst e; exact he.symm
  · have h2 := List.pairwise_iff_getElem.1 (sortK_desc c) n i h hi (by omega)
    rw [he] at h2
    exact keyF_inj (c := c) (by omega) (by omega) (by omega)

open Go.Sort in
theorem insInner_congr {α : Type} [Inhabited α] (lt lt' : α → α → Bool) (a : Nat) : ∀ (j : Nat) (d : Array α), j < d.size → (∀ k, k < j → lt d[j]! d[k]! = lt' d[j]! d[k]!) → insInner lt a j d = insInner lt' a j d
  | 0, _, _, _ => rfl
  | j + 1, d, hj, h => by
    unfold insInner
    rw [h j (Nat.lt_succ_self _)]
    have ih := insInner_congr lt lt' a j (swp d (j + 1) j) (by rw [swp_size]; omega) (fun k hk => by
      rw [swp_get d hj (by omega), swp_get d hj (by omega), if_pos rfl, if_neg (by omega), if_neg (by omega)]
      exact h k (by omega))
    rw [ih]
open Go.Sort in
theorem insInner_keeps {α : Type} [Inhabited α] (lt : α → α → Bool) (a : Nat) (p : α → Prop) (i : Nat) : ∀ (j : Nat) (d : Array α), j ≤ i → i < d.size → (∀ k, k ≤ i → p d[k]!) →
    (insInner lt a j d).size = d.size ∧ (∀ k, k ≤ i → p (insInner lt a j d)[k]!) ∧ ∀ k, i < k → (insInner lt a j d)[k]! = d[k]!
  | 0, d, _, _, h => ⟨rfl, h, fun _ _ => rfl⟩
  | j + 1, d, hj, hi, h => by
    unfold insInner
    split
    · obtain ⟨h1, h2, h3⟩ := insInner_keeps lt a p i j (swp d (j + 1) j) (by omega) (by rw [swp_size]; exact hi) (fun k hk => by
        rw [swp_get d (by omega) (by omega)]
        split
        · exact h _ (by omega)
        · split
          · exact h _ (by omega)
          · exact h _ hk)
      refine ⟨by rw [h1, swp_size], h2, fun k hk => ?_⟩
      rw [h3 k hk, swp_get d (by omega) (by omega), if_neg (by omega), if_neg (by omega)]
    · exact ⟨rfl, h, fun _ _ => rfl⟩
/-- Two orders that agree wherever the left one came in later sort alike. -/
theorem insOuter_congr {C : Nat} [Inhabited (Fin C)] (lt lt' : Fin C → Fin C → Bool) (h : ∀ x y : Fin C, y.val < x.val → lt x y = lt' x y) : ∀ (m i : Nat) (d : Array (Fin C)), C - i = m → i ≤ C → d.size = C → (∀ k, k < i → (d[k]!).val < i) → (∀ k, i ≤ k → k < C → (d[k]!).val = k) →
    Go.Sort.insOuter lt 0 C i d = Go.Sort.insOuter lt' 0 C i d
  | 0, i, d, hm, hi, hs, _, _ => by
    rw [Go.Sort.insOuter, if_neg (by omega), Go.Sort.insOuter, if_neg (by omega)]
  | m + 1, i, d, hm, hi, hs, hlo, hhi => by
    have hlt : i < C := by omega
    rw [Go.Sort.insOuter, if_pos hlt]
    conv => rhs; rw [Go.Sort.insOuter, if_pos hlt]
    have e : Go.Sort.insInner lt 0 i d = Go.Sort.insInner lt' 0 i d := insInner_congr lt lt' 0 i d (by omega) fun k hk => h _ _ (by rw [hhi i (Nat.le_refl _) hlt]; exact hlo k hk)
    rw [e]
    obtain ⟨h1, h2, h3⟩ := insInner_keeps lt' 0 (fun x => x.val < i + 1) i i d (Nat.le_refl _) (by omega) (fun k hk => by
      by_cases e : k = i
      · subst e; rw [hhi k (Nat.le_refl _) hlt]; omega
      · have := hlo k (by omega); omega)
    exact insOuter_congr lt lt' h m (i + 1) _ (by omega) (by omega) (by rw [h1]; exact hs) (fun k hk => h2 k (by omega)) (fun k hk1 hk2 => by rw [h3 k (by omega)]; exact hhi k (by omega) hk2)

theorem extract_all {α : Type} (r : Array α) (n : Nat) (h : r.size = n) : r.extract 0 n = r := by subst h; simp
def finsL (C : Nat) : Array (Fin C) := Array.ofFn fun i => i
/-- What the library's stable sort of the columns leaves. -/
theorem insertion_top {c : List Int} [Inhabited (Fin c.length)] (hc : c.length ≤ 8) (lt : Fin c.length → Fin c.length → Bool) (hlt : ∀ x y, lt x y = decide (c.getD y.val 0 < c.getD x.val 0)) :
    (Go.Sort.insertionSort lt (finsL c.length) 0 c.length).toList.map (·.val) = sortK c := by
  have hsz : (finsL c.length).size = c.length := by simp [finsL]
  have hget : ∀ k, k < c.length → ((finsL c.length)[k]!).val = k := fun k hk => by
    rw [getElem!_pos (finsL c.length) k (by rw [hsz]; exact hk)]; simp [finsL]
  let lt' : Fin c.length → Fin c.length → Bool := fun x y => decide (keyF c y.val < keyF c x.val)
  have hcong : Go.Sort.insertionSort lt (finsL c.length) 0 c.length = Go.Sort.insertionSort lt' (finsL c.length) 0 c.length := by
    unfold Go.Sort.insertionSort
    by_cases h0 : c.length = 0
    · rw [Go.Sort.insOuter, if_neg (by omega), Go.Sort.insOuter, if_neg (by omega)]
    · refine insOuter_congr lt lt' (fun x y hxy => ?_) _ 1 _ rfl (by omega) hsz (fun k hk => by rw [hget k (by omega)]; exact hk) (fun k _ hk => hget k hk)
      have hx := x.isLt; have hy := y.isLt
      rw [hlt x y]
      show decide _ = decide (keyF c y.val < keyF c x.val)
      unfold keyF
      by_cases h : c.getD y.val 0 < c.getD x.val 0
      · rw [decide_eq_true h, decide_eq_true (by omega)]
      · rw [decide_eq_false h, decide_eq_false (by omega)]
  rw [hcong]
  have hswo : Go.Sort.SWO lt' := ⟨fun x => by simp [lt'], fun x y z h1 h2 => by simp [lt'] at *; omega, fun x y z h1 h2 => by simp [lt'] at *; omega⟩
  obtain ⟨⟨p1, -, p3⟩, s⟩ := Go.Sort.insertionSort_holds hswo (finsL c.length) 0 c.length (Nat.zero_le _) (by rw [hsz]; exact Nat.le_refl _)
  generalize Go.Sort.insertionSort lt' (finsL c.length) 0 c.length = r at p1 p3 s
  have hr : r.size = c.length := by rw [p1, hsz]
  rw [extract_all r _ hr, extract_all (finsL c.length) _ hsz] at p3
  refine sortK_of hc ?_ ?_
  · have := p3.map (·.val)
    refine this.trans (List.Perm.of_eq ?_)
    apply List.ext_getElem
    · simp [finsL]
    · intro i h1 h2; simp [finsL]
  · refine List.pairwise_map.2 (List.pairwise_iff_getElem.2 fun i j hi hj hij => ?_)
    have hi' : i < r.size := by simpa using hi
    have hj' : j < r.size := by simpa using hj
    have := s i j (Nat.zero_le _) hij (by omega)
    rw [getElem!_pos r i hi', getElem!_pos r j hj'] at this
    simp only [lt', decide_eq_false_iff_not] at this
    simp only [Array.getElem_toList]
    omega
end Go.Proofs.Ytecfigjkcpbggaa
