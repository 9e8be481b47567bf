/-
  Texts of this claim, one behind the other: SortL, Top, Fill, Bits, Need.
-/
import Derived.Test.YtjgkblgilnfpfaaPackD
import Derived.Sort.LotA
import Derived.Test.YtjgkblgilnfpfaaPackB
import Derived.Test.YtjgkblgilnfpfaaPackC
/-
  Lists of integers in descending order, and SortedDown of the model.
-/
namespace Go.Proofs.Ytjgkblgilnfpfaa
open Go.RowKit

def Desc (l : List Int) : Prop := l.Pairwise fun x y => y ≤ x
theorem desc_unique : ∀ {a b : List Int}, a.Perm b → Desc a → Desc b → a = b := by
  intro a
  induction a with
  | nil => intro b hp _ _; exact hp.nil_eq
  | cons x a ih =>
    intro b hp ha hb
    cases b with
    | nil => exact absurd hp.symm.nil_eq (by simp)
    | cons y b =>
      have hxy : x = y := by
        have h1 : x ∈ y :: b := hp.subset (List.mem_cons_self ..)
        have h2 : y ∈ x :: a := hp.symm.subset (List.mem_cons_self ..)
        rw [List.mem_cons] at h1 h2
        rcases h1 with h1 | h1
        · exact h1
        · rcases h2 with h2 | h2
          · exact h2.symm
          · have h3 := (List.pairwise_cons.1 hb).1 x h1
            have h4 := (List.pairwise_cons.1 ha).1 y h2
            omega
      subst hxy
      rw [ih hp.cons_inv (List.pairwise_cons.1 ha).2 (List.pairwise_cons.1 hb).2]
/-- What SortedDown returns. -/
def sortD (l : List Int) : List Int := l.mergeSort fun x y => decide (y ≤ x)
theorem sortD_perm (l : List Int) : (sortD l).Perm l := List.mergeSort_perm l _
theorem sortD_desc (l : List Int) : Desc (sortD l) := by
  have h := List.pairwise_mergeSort (le := fun x y : Int => decide (y ≤ x)) (by simp; omega) (by simp; omega) l
  exact h.imp fun h => by simpa using h
theorem sortD_of {l s : List Int} (hp : s.Perm l) (hs : Desc s) : s = sortD l := desc_unique (hp.trans (sortD_perm l).symm) hs (sortD_desc l)
theorem sortD_len (l : List Int) : (sortD l).length = l.length := (sortD_perm l).length_eq

/-- x among s, at q. -/
def bub (s : List Int) (x : Int) (q : Nat) : List Int := s.take q ++ x :: s.drop q
theorem bub_len {s : List Int} {x : Int} {q : Nat} (h : q ≤ s.length) : (bub s x q).length = s.length + 1 := by simp [bub]; omega
theorem bub_end (s : List Int) (x : Int) : bub s x s.length = s ++ [x] := by simp [bub]
theorem bub_self {s : List Int} {x : Int} {q : Nat} (h : q ≤ s.length) : (ints (bub s x q)).getD q undef = .int .i64 x := by
  rw [List.getD_eq_getElem?_getD, ints_at _ _ (by rw [bub_len h]; omega)]
  simp only [bub, Option.getD_some, Value.int.injEq, true_and]
  rw [List.getElem_append_right (by simp; omega)]
  simp [Nat.min_eq_left h]
theorem bub_eq {s : List Int} {x : Int} {p : Nat} (h : p < s.length) : bub s x (p + 1) = s.take p ++ s[p] :: x :: s.drop (p + 1) := by
  rw [bub, List.take_succ_eq_append_getElem h, List.append_assoc]; rfl
theorem bub_prev {s : List Int} {x : Int} {p : Nat} (h : p < s.length) : (ints (bub s x (p + 1))).getD p undef = .int .i64 s[p] := by
  rw [List.getD_eq_getElem?_getD, ints_at _ _ (by rw [bub_len (by omega)]; omega)]
  simp only [bub_eq h, Option.getD_some, Value.int.injEq, true_and]
  rw [List.getElem_append_right (by simp; omega)]
  simp [Nat.min_eq_left (Nat.le_of_lt h)]
theorem bub_step {s : List Int} {x : Int} {p : Nat} (h : p < s.length) : ((bub s x (p + 1)).set (p + 1) s[p]).set p x = bub s x p := by
  have hl : (s.take p).length = p := by rw [List.length_take]; omega
  rw [bub_eq h, List.set_append_right _ _ (by omega), hl, show p + 1 - p = 0 + 1 by omega, List.set_cons_succ, List.set_cons_zero, List.set_append_right _ _ (by omega), hl, Nat.sub_self, List.set_cons_zero, bub, List.drop_eq_getElem_cons h]
theorem bub_perm (s : List Int) (x : Int) (q : Nat) : (bub s x q).Perm (x :: s) := by
  have h : (bub s x q).Perm (x :: (s.take q ++ s.drop q)) := List.perm_middle
  rwa [List.take_append_drop] at h
theorem bub_desc {s : List Int} {x : Int} {q : Nat} (hq : q ≤ s.length) (hs : Desc s) (h1 : ∀ y ∈ s.drop q, y < x) (h2 : ∀ p, (h : p < s.length) → p + 1 = q → x ≤ s[p]) : Desc (bub s x q) := by
  have hs' := hs
  unfold Desc at hs
  rw [← List.take_append_drop q s, List.pairwise_append] at hs
  obtain ⟨a1, a2, a3⟩ := hs
  have hx : ∀ a ∈ s.take q, x ≤ a := fun a ha => by
    obtain ⟨i, hi, rfl⟩ := List.getElem_of_mem ha
    rw [List.length_take] at hi
    rw [List.getElem_take]
    have h3 := h2 (q - 1) (by omega) (by omega)
    by_cases e : i = q - 1
    · subst e; exact h3
    · have := List.pairwise_iff_getElem.1 hs' i (q - 1) (by omega) (by omega) (by omega)
      omega
  refine List.pairwise_append.2 ⟨a1, List.pairwise_cons.2 ⟨fun y hy => by have := h1 y hy; omega, a2⟩, fun a ha b hb => ?_⟩
  rcases List.mem_cons.1 hb with rfl | hb
  · exact hx a ha
  · exact a3 a ha b hb

set_option maxHeartbeats 2000000 in
theorem specSortedDown_any (v : Value) (l : List Int) (w : World) (hin : InRow w v l) (hl : l.length ≤ 1048576) :
    Calls Try.prog 118 #[v] w (IntsRes (sortD l) w) := by
  obtain ⟨a, c, rfl, hm, hp⟩ := hin
  unfold maxLen at hm
  have HP := hide fun h : l.length ≠ 0 => hp.resolve_left h
  obtain ⟨L, hL⟩ : ∃ L, L = l.length := ⟨_, rfl⟩
  have HL := hide hL
  rw [← hL] at hm hl ⊢
  clear hp hL
  have HO0 : Hid ((w.alloc (.cells #[] 3)).ownsRow w.heap.size 3 1 (.slice (some ⟨w.heap.size, 0, none⟩) 0 0) 0 []) := hide (World.ownsRow_made (base := w.heap.size) w #[] 0 (Nat.le_refl _) (Nat.zero_le _) rfl)
  have HB0 := hide ((Below.refl w.heap.size w).alloc (Nat.le_refl _) (.cells #[] 3))
  go_enter Try.func118, Try.ntmps118
  go_wp2
  go_loopw [3, 11] (fun o i wr => ∃ k : Nat, k ≤ L ∧ i = .int .i64 k ∧ (∃ s : List Int, s.length = k ∧ s.Perm (l.take k) ∧ Desc s ∧ wr.ownsRow w.heap.size 3 1 o k (ints s)) ∧ Below w.heap.size w wr) (fun _ i _ => L - (intOf i).toNat)
  case atStart => exact ⟨0, Nat.zero_le _, rfl, ⟨[], rfl, by simp, List.Pairwise.nil, HO0.out⟩, HB0.out⟩
  case round =>
    clear HO0 HB0
    obtain ⟨k, hk, rfl, ⟨s, hsl, hsp, hsd, hown⟩, hb⟩ := hrel
    have HO := hide hown; have HB := hide hb; have HSL := hide hsl; have HSP := hide hsp; have HSD := hide hsd
    obtain ⟨sa, sc, rfl⟩ := own_slice hown
    have hsz := hb.size
    clear hown hb hsl hsp hsd
    by_cases hlt : k < L
    · obtain ⟨g, o, rfl, hg, hc⟩ := HP.out (by have := HL.out; omega)
      have hk' : k < l.length := by rw [← HL.out]; exact hlt
      have hx := below_cell HB.out hg (hc k hk')
      have HXX := hide (show l.take (k + 1) = l.take k ++ [l[k]] from List.take_succ_eq_append_getElem hk')
      obtain ⟨x, hxx⟩ : ∃ x, x = l[k] := ⟨_, rfl⟩
      rw [← hxx] at hx HXX
      clear hxx hc
      go_wp2_with (at_builtin; refine wpList_push HO.out (.int .i64 x) (.int .i64 0) rfl _ _ rfl Try.underlying24 Try.infoInt rfl (by decide) rfl rfl rfl (by omega) (by omega) ?_; intro v' w6 hown1 hb1 hg1; obtain ⟨g1, cap1, rfl, hbg1, hg1', hc1', hm1, -, -⟩ := own_some hown1 (by omega); unfold maxLen at hm1; have HO1 := hide hown1; have HB1 := hide (HB.out.trans hb1); clear hown1 hb1 hg1)
      have HE0 : Hid (ints s ++ [Value.int .i64 x] = ints (bub s x k)) := hide (by rw [← HSL.out, bub_end]; simp [ints])
      rw [HE0.out] at HO1
      clear HE0 HO hx
      go_loopw [6] (fun i w2 => ∃ q : Nat, q ≤ k ∧ i = .int .i64 q ∧ w2.ownsRow w.heap.size 3 1 (.slice (some ⟨g1, 0, none⟩) (k + 1) cap1) (k + 1) (ints (bub s x q)) ∧ (∀ y ∈ s.drop q, y < x) ∧ Below w.heap.size w w2) (fun i _ => (intOf i).toNat)
      case atStart => exact ⟨k, Nat.le_refl _, by go_num, HO1.out, by rw [List.drop_of_length_le (by have := HSL.out; omega)]; simp, HB1.out⟩
      case round =>
        clear HO1 HB1
        obtain ⟨q, hq, rfl, hown, hall, hb⟩ := hrel
        have HO := hide hown; have HA := hide hall; have HB1 := hide hb
        clear hown hall hb
        have HFIN : Hid ((∀ p, (h : p < s.length) → p + 1 = q → x ≤ s[p]) → (bub s x q).Perm (l.take (k + 1)) ∧ Desc (bub s x q)) := hide fun h => by
          refine ⟨(bub_perm s x q).trans ?_, bub_desc (by have := HSL.out; omega) HSD.out HA.out h⟩
          rw [HXX.out]
          exact ((List.Perm.cons x HSP.out).trans (List.perm_append_singleton x _).symm)
        by_cases h0 : q = 0
        · subst h0
          have HF := hide (HFIN.out fun p _ e => by omega)
          clear HFIN
          go_wp2
          go_quiet (fail)
          go_wp2
          have HE1 : Hid ((bub s x 0).length = k + 1) := hide (by rw [bub_len (Nat.zero_le _), HSL.out])
          go_roundw
          case rel => exact ⟨k + 1, by omega, by go_num, ⟨bub s x 0, HE1.out, HF.out.1, HF.out.2, HO.out⟩, below_draws HB1.out _⟩
          case measure => simp [intOf]; omega
        · obtain ⟨p, rfl⟩ : ∃ p, q = p + 1 := ⟨q - 1, by omega⟩
          have hps : p < s.length := by have := HSL.out; omega
          have hc1 := cell_held HO.out (show p < k + 1 by omega)
          have hc2 := cell_held HO.out (show p + 1 < k + 1 by omega)
          rw [bub_prev hps] at hc1
          rw [bub_self (by have := HSL.out; omega)] at hc2
          by_cases hlq : s[p] < x
          · have hf1 := HO.out.frozenAt p
            have hf2 := HO.out.frozenAt (p + 1)
            have HS := hide fun n : Nat => by
              have HS2 := ((own_draws HO.out n).stored (p + 1) (.int .i64 s[p])).1.stored p (.int .i64 x)
              rw [ints_set, ints_set, bub_step hps] at HS2
              exact HS2.1
            have HALL : Hid (∀ y ∈ s.drop p, y < x) := hide fun y hy => by
              rw [List.drop_eq_getElem_cons hps] at hy
              rcases List.mem_cons.1 hy with rfl | hy
              · exact hlq
              · exact HA.out y hy
            have HBS := hide fun n : Nat => (((below_draws HB1.out n).setCell (p := ⟨g1, p + 1, none⟩) hbg1 (.int .i64 s[p])).setCell (p := ⟨g1, p, none⟩) hbg1 (.int .i64 x))
            obtain ⟨z, hz⟩ : ∃ z, z = s[p] := ⟨_, rfl⟩
            rw [← hz] at hc1 hlq HS HBS
            clear hz HFIN
            go_wp2
            go_quiet (fail)
            go_wp2
            go_roundw
            case rel => exact ⟨p, by omega, by go_num, HS.out _, HALL.out, HBS.out _⟩
            case measure => simp [intOf]
          · have HF := hide (HFIN.out fun p' h e => by obtain rfl : p' = p := by omega
                                                       omega)
            have HE1 : Hid ((bub s x (p + 1)).length = k + 1) := hide (by rw [bub_len (by omega), HSL.out])
            obtain ⟨z, hz⟩ : ∃ z, z = s[p] := ⟨_, rfl⟩
            rw [← hz] at hc1 hlq
            clear hz HFIN
            go_wp2
            go_quiet (fail)
            go_wp2
            go_roundw
            case rel => exact ⟨k + 1, by omega, by go_num, ⟨bub s x (p + 1), HE1.out, HF.out.1, HF.out.2, HO.out⟩, below_draws HB1.out _⟩
            case measure => simp [intOf]; omega
    · have HE : Hid (l.take k = l) := hide (List.take_of_length_le (by have := HL.out; omega))
      have HR : Hid (s = sortD l) := hide (sortD_of (by have := HSP.out; rwa [HE.out] at this) HSD.out)
      obtain rfl : k = L := by omega
      go_wp2
      go_ret
      exact ⟨_, rfl, by rw [← HR.out, HSL.out]; exact HO.out, HB.out⟩
end Go.Proofs.Ytjgkblgilnfpfaa
/-
  The columns by their sums: the greatest first, of equal ones those further to the left.
-/
namespace Go.Proofs.Ytjgkblgilnfpfaa
open Go.RowKit

/-- A column's place in the order, as a number: the greater the earlier. -/
def keyF (c : List Int) (i : Nat) : Int := c.getD i 0 * 8 + (7 - (i : Int))
theorem keyF_inj {c : List Int} {i j : Nat} (hi : i < 8) (hj : j < 8) (h : keyF c i = keyF c j) : i = j := by unfold keyF at h; omega
/-- The order of the columns. -/
def sortK (c : List Int) : List Nat := (List.range c.length).mergeSort fun i j => decide (keyF c j ≤ keyF c i)
theorem sortK_perm (c : List Int) : (sortK c).Perm (List.range c.length) := List.mergeSort_perm _ _
theorem sortK_len (c : List Int) : (sortK c).length = c.length := by rw [(sortK_perm c).length_eq, List.length_range]
theorem sortK_desc (c : List Int) : (sortK c).Pairwise fun i j => keyF c j ≤ keyF c i := by
  have h := List.pairwise_mergeSort (le := fun i j : Nat => decide (keyF c j ≤ keyF c i)) (by simp; omega) (by simp; omega) (List.range c.length)
  exact h.imp fun h => by simpa using h
theorem sortK_mem {c : List Int} {i : Nat} : i ∈ sortK c ↔ i < c.length := by rw [(sortK_perm c).mem_iff, List.mem_range]
theorem sortK_nodup (c : List Int) : (sortK c).Nodup := (sortK_perm c).nodup_iff.2 List.nodup_range
theorem map_inj_of {k : Nat → Int} {p : Nat → Prop} (hk : ∀ i j, p i → p j → k i = k j → i = j) : ∀ {s t : List Nat}, (∀ i ∈ s, p i) → (∀ i ∈ t, p i) → s.map k = t.map k → s = t
  | [], [], _, _, _ => rfl
  | [], y :: t, _, _, h => by simp at h
  | x :: s, [], _, _, h => by simp at h
  | x :: s, y :: t, hs, ht, h => by
    simp only [List.map_cons, List.cons.injEq] at h
    rw [hk x y (hs x List.mem_cons_self) (ht y List.mem_cons_self) h.1, map_inj_of hk (fun i hi => hs i (List.mem_cons_of_mem _ hi)) (fun i hi => ht i (List.mem_cons_of_mem _ hi)) h.2]
theorem sortK_of {c : List Int} {s : List Nat} (hc : c.length ≤ 8) (hp : s.Perm (List.range c.length)) (hd : s.Pairwise fun i j => keyF c j ≤ keyF c i) : s = sortK c := by
  refine map_inj_of (k := keyF c) (p := fun i => i < c.length) (fun i j hi hj h => keyF_inj (by omega) (by omega) h) (fun i hi => by rw [hp.mem_iff, List.mem_range] at hi; exact hi) (fun i hi => sortK_mem.1 hi) ?_
  exact desc_unique ((hp.trans (sortK_perm c).symm).map _) (List.pairwise_map.2 hd) (List.pairwise_map.2 (sortK_desc c))
/-- The row whose n black cells stand in the first columns of the order. -/
def topF (c : List Int) (n x : Nat) : Int := if x ∈ (sortK c).take n then 1 else 0
def topRow (c : List Int) (n : Nat) : List Int := tabL c.length (topF c n)
theorem topRow_len (c : List Int) (n : Nat) : (topRow c n).length = c.length := tabL_len _ _
theorem topF_zero (c : List Int) (x : Nat) : topF c 0 x = 0 := by rw [topF, if_neg (by simp)]
theorem topF_succ {c : List Int} {n : Nat} (h : n < (sortK c).length) (x : Nat) : topF c (n + 1) x = if x = (sortK c)[n] then 1 else topF c n x := by
  unfold topF
  rw [List.take_succ_eq_append_getElem h]
  by_cases e : x = (sortK c)[n]
  · rw [if_pos e, if_pos (by rw [List.mem_append]; right; simp [e])]
  · rw [if_neg e]
    by_cases e2 : x ∈ (sortK c).take n
    · rw [if_pos e2, if_pos (List.mem_append_left _ e2)]
    · rw [if_neg e2, if_neg (by rw [List.mem_append]; rintro (h | h); exact e2 h; exact e (by simpa using h))]
theorem topF_next {c : List Int} {n : Nat} (h : n < (sortK c).length) : topF c n (sortK c)[n] = 0 := by
  rw [topF, if_neg]
  intro hm
  obtain ⟨i, hi, he⟩ := List.getElem_of_mem hm
  rw [List.length_take] at hi
  rw [List.getElem_take] at he
  have := (List.nodup_iff_pairwise_ne.1 (sortK_nodup c))
  have := List.pairwise_iff_getElem.1 this i n (by omega) h (by omega)
  exact this he
/-- The next column is the first one of those that are white yet. -/
theorem next_of {c : List Int} {n b : Nat} (hc : c.length ≤ 8) (h : n < (sortK c).length) (hb : b < c.length) (hw : topF c n b = 0) (hall : ∀ t, t < c.length → topF c n t = 0 → keyF c t ≤ keyF c b) : b = (sortK c)[n] := by
  have hn : (sortK c)[n] < c.length := sortK_mem.1 (List.getElem_mem h)
  have h1 := hall _ hn (topF_next h)
  obtain ⟨i, hi, he⟩ := List.getElem_of_mem (sortK_mem.2 hb)
  have hni : n ≤ i := by
    rcases Nat.lt_or_ge i n with h2 | h2
    · exfalso
      rw [topF, if_pos] at hw
      · cases hw
      · rw [← he]
        refine List.mem_of_getElem (i := i) (h := by rw [List.length_take]; omega) ?_
        rw [List.getElem_take]
    · exact h2
  by_cases e : n = i
  · subst e; exact he.symm
  · have h2 := List.pairwise_iff_getElem.1 (sortK_desc c) n i h hi (by omega)
    rw [he] at h2
    exact keyF_inj (c := c) (by omega) (by omega) (by omega)

open Go.Sort in
theorem insInner_congr {α : Type} [Inhabited α] (lt lt' : α → α → Bool) (a : Nat) : ∀ (j : Nat) (d : Array α), j < d.size → (∀ k, k < j → lt d[j]! d[k]! = lt' d[j]! d[k]!) → insInner lt a j d = insInner lt' a j d
  | 0, _, _, _ => rfl
  | j + 1, d, hj, h => by
    unfold insInner
    rw [h j (Nat.lt_succ_self _)]
    have ih := insInner_congr lt lt' a j (swp d (j + 1) j) (by rw [swp_size]; omega) (fun k hk => by
      rw [swp_get d hj (by omega), swp_get d hj (by omega), if_pos rfl, if_neg (by omega), if_neg (by omega)]
      exact h k (by omega))
    rw [ih]
open Go.Sort in
theorem insInner_keeps {α : Type} [Inhabited α] (lt : α → α → Bool) (a : Nat) (p : α → Prop) (i : Nat) : ∀ (j : Nat) (d : Array α), j ≤ i → i < d.size → (∀ k, k ≤ i → p d[k]!) →
    (insInner lt a j d).size = d.size ∧ (∀ k, k ≤ i → p (insInner lt a j d)[k]!) ∧ ∀ k, i < k → (insInner lt a j d)[k]! = d[k]!
  | 0, d, _, _, h => ⟨rfl, h, fun _ _ => rfl⟩
  | j + 1, d, hj, hi, h => by
    unfold insInner
    split
    · obtain ⟨h1, h2, h3⟩ := insInner_keeps lt a p i j (swp d (j + 1) j) (by omega) (by rw [swp_size]; exact hi) (fun k hk => by
        rw [swp_get d (by omega) (by omega)]
        split
        · exact h _ (by omega)
        · split
          · exact h _ (by omega)
          · exact h _ hk)
      refine ⟨by rw [h1, swp_size], h2, fun k hk => ?_⟩
      rw [h3 k hk, swp_get d (by omega) (by omega), if_neg (by omega), if_neg (by omega)]
    · exact ⟨rfl, h, fun _ _ => rfl⟩
/-- Two orders that agree wherever the left one came in later sort alike. -/
theorem insOuter_congr {C : Nat} [Inhabited (Fin C)] (lt lt' : Fin C → Fin C → Bool) (h : ∀ x y : Fin C, y.val < x.val → lt x y = lt' x y) : ∀ (m i : Nat) (d : Array (Fin C)), C - i = m → i ≤ C → d.size = C → (∀ k, k < i → (d[k]!).val < i) → (∀ k, i ≤ k → k < C → (d[k]!).val = k) →
    Go.Sort.insOuter lt 0 C i d = Go.Sort.insOuter lt' 0 C i d
  | 0, i, d, hm, hi, hs, _, _ => by
    rw [Go.Sort.insOuter, if_neg (by omega), Go.Sort.insOuter, if_neg (by omega)]
  | m + 1, i, d, hm, hi, hs, hlo, hhi => by
    have hlt : i < C := by omega
    rw [Go.Sort.insOuter, if_pos hlt]
    conv => rhs; rw [Go.Sort.insOuter, if_pos hlt]
    have e : Go.Sort.insInner lt 0 i d = Go.Sort.insInner lt' 0 i d := insInner_congr lt lt' 0 i d (by omega) fun k hk => h _ _ (by rw [hhi i (Nat.le_refl _) hlt]; exact hlo k hk)
    rw [e]
    obtain ⟨h1, h2, h3⟩ := insInner_keeps lt' 0 (fun x => x.val < i + 1) i i d (Nat.le_refl _) (by omega) (fun k hk => by
      by_cases e : k = i
      · subst e; rw [hhi k (Nat.le_refl _) hlt]; omega
      · have := hlo k (by omega); omega)
    exact insOuter_congr lt lt' h m (i + 1) _ (by omega) (by omega) (by rw [h1]; exact hs) (fun k hk => h2 k (by omega)) (fun k hk1 hk2 => by rw [h3 k (by omega)]; exact hhi k (by omega) hk2)

theorem extract_all {α : Type} (r : Array α) (n : Nat) (h : r.size = n) : r.extract 0 n = r := by subst h; simp
def finsL (C : Nat) : Array (Fin C) := Array.ofFn fun i => i
/-- What the library's stable sort of the columns leaves. -/
theorem insertion_top {c : List Int} [Inhabited (Fin c.length)] (hc : c.length ≤ 8) (lt : Fin c.length → Fin c.length → Bool) (hlt : ∀ x y, lt x y = decide (c.getD y.val 0 < c.getD x.val 0)) :
    (Go.Sort.insertionSort lt (finsL c.length) 0 c.length).toList.map (·.val) = sortK c := by
  have hsz : (finsL c.length).size = c.length := by simp [finsL]
  have hget : ∀ k, k < c.length → ((finsL c.length)[k]!).val = k := fun k hk => by
    rw [getElem!_pos (finsL c.length) k (by rw [hsz]; exact hk)]; simp [finsL]
  let lt' : Fin c.length → Fin c.length → Bool := fun x y => decide (keyF c y.val < keyF c x.val)
  have hcong : Go.Sort.insertionSort lt (finsL c.length) 0 c.length = Go.Sort.insertionSort lt' (finsL c.length) 0 c.length := by
    unfold Go.Sort.insertionSort
    by_cases h0 : c.length = 0
    · rw [Go.Sort.insOuter, if_neg (by omega), Go.Sort.insOuter, if_neg (by omega)]
    · refine insOuter_congr lt lt' (fun x y hxy => ?_) _ 1 _ rfl (by omega) hsz (fun k hk => by rw [hget k (by omega)]; exact hk) (fun k _ hk => hget k hk)
      have hx := x.isLt; have hy := y.isLt
      rw [hlt x y]
      show decide _ = decide (keyF c y.val < keyF c x.val)
      unfold keyF
      by_cases h : c.getD y.val 0 < c.getD x.val 0
      · rw [decide_eq_true h, decide_eq_true (by omega)]
      · rw [decide_eq_false h, decide_eq_false (by omega)]
  rw [hcong]
  have hswo : Go.Sort.SWO lt' := ⟨fun x => by simp [lt'], fun x y z h1 h2 => by simp [lt'] at *; omega, fun x y z h1 h2 => by simp [lt'] at *; omega⟩
  obtain ⟨⟨p1, -, p3⟩, s⟩ := Go.Sort.insertionSort_holds hswo (finsL c.length) 0 c.length (Nat.zero_le _) (by rw [hsz]; exact Nat.le_refl _)
  generalize Go.Sort.insertionSort lt' (finsL c.length) 0 c.length = r at p1 p3 s
  have hr : r.size = c.length := by rw [p1, hsz]
  rw [extract_all r _ hr, extract_all (finsL c.length) _ hsz] at p3
  refine sortK_of hc ?_ ?_
  · have := p3.map (·.val)
    refine this.trans (List.Perm.of_eq ?_)
    apply List.ext_getElem
    · simp [finsL]
    · intro i h1 h2; simp [finsL]
  · refine List.pairwise_map.2 (List.pairwise_iff_getElem.2 fun i j hi hj hij => ?_)
    have hi' : i < r.size := by simpa using hi
    have hj' : j < r.size := by simpa using hj
    have := s i j (Nat.zero_le _) hij (by omega)
    rw [getElem!_pos r i hi', getElem!_pos r j hj'] at this
    simp only [lt', decide_eq_false_iff_not] at this
    simp only [Array.getElem_toList]
    omega
end Go.Proofs.Ytjgkblgilnfpfaa
/-
  l05Fill of the model.
-/
namespace Go.Proofs.Ytjgkblgilnfpfaa
open Go.RowKit

theorem tabL_self (c : List Int) : tabL c.length (fun x => c.getD x 0) = c := by
  apply List.ext_getElem
  · rw [tabL_len]
  · intro i h1 h2
    rw [tabL_at, List.getD_eq_getElem?_getD, List.getElem?_eq_getElem h2]; rfl
/-- What a row leaves of the column sums. -/
def subL (c row : List Int) : List Int := tabL c.length fun x => c.getD x 0 - row.getD x 0
theorem subL_len (c row : List Int) : (subL c row).length = c.length := tabL_len _ _
theorem tabL_getD {n : Nat} {g : Nat → Int} {x : Nat} (h : x < n) : (tabL n g).getD x 0 = g x := by
  rw [List.getD_eq_getElem?_getD, List.getElem?_eq_getElem (by rw [tabL_len]; exact h), tabL_at]; rfl
theorem subL_top (c : List Int) (n : Nat) : subL c (topRow c n) = tabL c.length fun x => c.getD x 0 - topF c n x :=
  tabL_congr fun i hi => by rw [topRow, tabL_getD hi]
theorem top01 (c : List Int) (n x : Nat) : topF c n x = 0 ∨ topF c n x = 1 := by
  unfold topF
  split
  · exact .inr rfl
  · exact .inl rfl
/-- Numbers that are small enough to be reckoned with. -/
def Mid100 (m : Int) (c : List Int) : Prop := c.length ≤ 5 ∧ ∀ x, x < c.length → -m ≤ c.getD x 0 ∧ c.getD x 0 ≤ 100
/-- The image whose rows are chosen one after the other. -/
def imgL (ch : List Int → List Int → List Int) : List Int → List Int → List (List Int)
  | [], _ => []
  | a :: r, c => ch (a :: r) c :: imgL ch r (subL c (ch (a :: r) c))
def greedyCh (r c : List Int) : List Int := topRow c (r.headD 0).toNat
theorem imgL_len (ch : List Int → List Int → List Int) : ∀ (r c : List Int), (imgL ch r c).length = r.length
  | [], _ => rfl
  | a :: r, c => by rw [imgL, List.length_cons, imgL_len ch r, List.length_cons]
/-- What l05Fill returns. -/
def FillRes (c : List Int) (n : Nat) (w : World) (e : Ending) (w' : World) : Prop :=
  ∃ u v, e = .returned (.tuple #[u, v]) ∧ w'.ownsRow w.heap.size 3 1 u c.length (ints (topRow c n)) ∧ w'.ownsRow w.heap.size 3 1 v c.length (ints (subL c (topRow c n))) ∧ Below w.heap.size w w'
/-- The best of the first x columns that are white yet. -/
def BestOf (c : List Int) (n x : Nat) (b : Int) : Prop :=
  (b = -1 ∧ ∀ t, t < x → topF c n t = 1) ∨ ∃ k : Nat, b = k ∧ k < x ∧ topF c n k = 0 ∧ ∀ t, t < x → topF c n t = 0 → keyF c t ≤ keyF c k
theorem best_skip {c : List Int} {n x : Nat} {b : Int} (h : BestOf c n x b) (hx : topF c n x = 1) : BestOf c n (x + 1) b := by
  rcases h with ⟨h1, h2⟩ | ⟨k, h1, h2, h3, h4⟩
  · refine .inl ⟨h1, fun t ht => ?_⟩
    by_cases e : t = x
    · rw [e]; exact hx
    · exact h2 t (by omega)
  · refine .inr ⟨k, h1, by omega, h3, fun t ht h0 => ?_⟩
    by_cases e : t = x
    · rw [e, hx] at h0; cases h0
    · exact h4 t (by omega) h0
theorem best_first {c : List Int} {n x : Nat} (h : BestOf c n x (-1)) (hx : topF c n x = 0) : BestOf c n (x + 1) x := by
  rcases h with ⟨-, h2⟩ | ⟨k, h1, -⟩
  · refine .inr ⟨x, rfl, Nat.lt_succ_self _, hx, fun t ht h0 => ?_⟩
    by_cases e : t = x
    · rw [e]; exact Int.le_refl _
    · rw [h2 t (by omega)] at h0; cases h0
  · omega
theorem best_take {c : List Int} {n x k : Nat} (h : BestOf c n x k) (hx8 : x < 8) (hx : topF c n x = 0) (hgt : c.getD k 0 < c.getD x 0) : BestOf c n (x + 1) x := by
  rcases h with ⟨h1, -⟩ | ⟨k', h1, h2, h3, h4⟩
  · omega
  · obtain rfl : k = k' := by omega
    refine .inr ⟨x, rfl, Nat.lt_succ_self _, hx, fun t ht h0 => ?_⟩
    by_cases e : t = x
    · rw [e]; exact Int.le_refl _
    · have := h4 t (by omega) h0
      unfold keyF at this ⊢
      omega
theorem best_keep {c : List Int} {n x k : Nat} (h : BestOf c n x k) (hgt : ¬ c.getD k 0 < c.getD x 0) : BestOf c n (x + 1) k := by
  rcases h with ⟨h1, -⟩ | ⟨k', h1, h2, h3, h4⟩
  · omega
  · obtain rfl : k = k' := by omega
    refine .inr ⟨k, rfl, by omega, h3, fun t ht h0 => ?_⟩
    by_cases e : t = x
    · subst e; unfold keyF; omega
    · exact h4 t (by omega) h0
theorem best_end {c : List Int} {n : Nat} {b : Int} (hc : c.length ≤ 8) (hn : n < (sortK c).length) (h : BestOf c n c.length b) : b = ((sortK c)[n] : Nat) := by
  rcases h with ⟨-, h2⟩ | ⟨k, h1, h2, h3, h4⟩
  · have := h2 _ (sortK_mem.1 (List.getElem_mem hn))
    rw [topF_next hn] at this; cases this
  · rw [h1, next_of hc hn h2 h3 fun t ht h0 => h4 t ht h0]
theorem next_ex {c : List Int} {n : Nat} (hc : c.length ≤ 8) (hn : n < (sortK c).length) :
    ∃ b, b < c.length ∧ (∀ t, topF c (n + 1) t = if t = b then 1 else topF c n t) ∧ topF c n b = 0 ∧ ∀ q, BestOf c n c.length q → q = (b : Nat) :=
  ⟨(sortK c)[n], sortK_mem.1 (List.getElem_mem hn), fun t => topF_succ hn t, topF_next hn, fun _ h => best_end hc hn h⟩

end Go.Proofs.Ytjgkblgilnfpfaa
/-
  Rows as bits: OnesCount, rowOfBits, rowsWith.
-/
namespace Go.Proofs.Ytjgkblgilnfpfaa
open Go.RowKit

/-- How many bits of n are set, of the lowest five. -/
def pop5 (n : Nat) : Nat := n % 2 + n / 2 % 2 + n / 4 % 2 + n / 8 % 2 + n / 16 % 2
set_option maxHeartbeats 4000000 in
theorem ones64_any (n : Nat) (w : World) (h : n < 32) : Calls Try.prog 130 #[.int .u64 n] w fun e w' => e = .returned (.int .i64 (pop5 n : Nat)) ∧ w = w' := by
  go_enter Try.func130, Try.ntmps130
  go_wp2
  go_ret
  refine ⟨?_, rfl⟩
  simp only [Array.getD_eq_getD_getElem?]
  refine ret_int ?_
  revert n
  decide +kernel
theorem ones_any (n : Nat) (w : World) (h : n < 32) : Calls Try.prog 122 #[.int .u64 n] w fun e w' => e = .returned (.int .i64 (pop5 n : Nat)) ∧ w = w' := by
  go_enter Try.func122, Try.ntmps122
  go_wp2_with ((with_reducible refine (ones64_any n _ h).mono ?_); rintro e w' ⟨rfl, rfl⟩)
  go_ret
  exact ⟨rfl, rfl⟩
/-- The bits of n, the highest of C first. -/
def bitsRow (C n : Nat) : List Int := tabL C fun x => ((n / 2 ^ (C - 1 - x) % 2 : Nat) : Int)
theorem bit_at : ∀ n : Nat, n < 32 → ∀ e : Nat, e < 5 → wrap64 (bits BinOp.and IntKind.u64 ((n : Int) / 2 ^ e) 1) = ((n / 2 ^ e % 2 : Nat) : Int) := by decide +kernel
set_option maxHeartbeats 400000 in
theorem rowOfBits_any (n C : Nat) (w : World) (hC : 1 ≤ C ∧ C ≤ 5) (h : n < 32) :
    Calls Try.prog 123 #[.int .u64 n, .int .i64 C] w (IntsRes (bitsRow C n) w) := by
  obtain ⟨hC1, hC2⟩ := hC
  have HBI := hide fun (e : Nat) (he : e < 5) => bit_at n h e he
  go_enter Try.func123, Try.ntmps123
  go_wp2_with (at_make; refine wpList_new w.heap.size C (.int .i64 0) rfl _ _ rfl Try.underlying24 Try.infoInt rfl (by decide) rfl rfl (by omega) (Nat.le_refl _) ?_; intro w1 hown1 hb1 hg1)
  have HO := hide hown1; have HB := hide hb1
  clear hown1 hb1 hg1
  go_wp2
  go_loopw [11] (fun i w' => ∃ k : Nat, k ≤ C ∧ i = .int .i64 k ∧ w'.ownsRow w.heap.size 3 1 (.slice (some ⟨w.heap.size, 0, none⟩) C C) C (ints (tabL C fun x => if x < k then ((n / 2 ^ (C - 1 - x) % 2 : Nat) : Int) else 0)) ∧ Below w.heap.size w w') (fun i _ => C - (intOf i).toNat)
  case atStart => exact ⟨0, Nat.zero_le _, rfl, by rw [tabL_zero] at HO; exact HO.out, HB.out⟩
  case round =>
    clear HO HB
    obtain ⟨k, hk, rfl, hown, hb⟩ := hrel
    have HO := hide hown; have HB := hide hb
    clear hown hb
    by_cases hlt : k < C
    · have hc1 := cell_held HO.out hlt
      rw [tabL_held hlt, if_neg (Nat.lt_irrefl k)] at hc1
      have hf := HO.out.frozenAt k
      have HS := HO.out.stored k (.int .i64 (n / 2 ^ (C - 1 - k) % 2 : Nat))
      rw [ints_set, tabL_set] at HS
      rw [show (tabL C fun t => if t = k then ((n / 2 ^ (C - 1 - k) % 2 : Nat) : Int) else if t < k then ((n / 2 ^ (C - 1 - t) % 2 : Nat) : Int) else 0) = tabL C fun x => if x < k + 1 then ((n / 2 ^ (C - 1 - x) % 2 : Nat) : Int) else 0 from tabL_congr fun i _ => by
        by_cases e : i = k
        · subst e; rw [if_pos rfl, if_pos (Nat.lt_succ_self _)]
        · rw [if_neg e]
          by_cases e' : i < k
          · rw [if_pos e', if_pos (by omega)]
          · rw [if_neg e', if_neg (by omega)], ← HBI.out (C - 1 - k) (by omega)] at HS
      have HS := hide HS
      go_wp2
      go_roundw
      case rel => exact ⟨k + 1, by omega, by go_num, HS.out.1, HB.out.setCell (Nat.le_refl _) _⟩
      case measure => simp [intOf]; omega
    · obtain rfl : k = C := by omega
      have e3 : (tabL k fun x => if x < k then ((n / 2 ^ (k - 1 - x) % 2 : Nat) : Int) else 0) = bitsRow k n := tabL_congr fun i hi => by rw [if_pos hi]
      rw [e3] at HO
      go_wp2
      go_ret
      exact ⟨_, rfl, by rw [bitsRow, tabL_len]; exact HO.out, HB.out⟩
/-- The rows among the first N numbers. -/
def bitRows (C : Nat) (s : Int) (N : Nat) : List (List Int) := ((List.range N).filter fun n => decide (((pop5 n : Nat) : Int) = s)).map (bitsRow C)
theorem bitRows_succ (C : Nat) (s : Int) (N : Nat) : bitRows C s (N + 1) = bitRows C s N ++ if ((pop5 N : Nat) : Int) = s then [bitsRow C N] else [] := by
  unfold bitRows
  rw [List.range_succ, List.filter_append, List.map_append]
  congr 1
  by_cases h : ((pop5 N : Nat) : Int) = s
  · rw [if_pos h]; simp [h]
  · rw [if_neg h]; simp [h]
theorem bitRows_len (C : Nat) (s : Int) (N : Nat) : (bitRows C s N).length ≤ N := by
  unfold bitRows
  rw [List.length_map]
  exact Nat.le_trans (List.length_filter_le _ _) (by simp)
theorem bitRows_yes {C : Nat} {s : Int} {N : Nat} (h : ((pop5 N : Nat) : Int) = s) : bitRows C s (N + 1) = bitRows C s N ++ [bitsRow C N] := by rw [bitRows_succ, if_pos h]
theorem bitRows_no {C : Nat} {s : Int} {N : Nat} (h : ¬ ((pop5 N : Nat) : Int) = s) : bitRows C s (N + 1) = bitRows C s N := by rw [bitRows_succ, if_neg h, List.append_nil]
theorem bitsRow_len (C n : Nat) : (bitsRow C n).length = C := tabL_len _ _
set_option maxHeartbeats 1000000 in
theorem rowsWith_any (s : Int) (C : Nat) (w : World) (hC : 1 ≤ C ∧ C ≤ 5) :
    Calls Try.prog 113 #[.int .i64 s, .int .i64 C] w (MatRes (bitRows C s (2 ^ C)) w) := by
  obtain ⟨hC1, hC2⟩ := hC
  obtain ⟨N, hN⟩ : ∃ N, N = 2 ^ C := ⟨_, rfl⟩
  have hN5 : N ≤ 32 := by rw [hN]; exact Nat.le_trans (Nat.pow_le_pow_right (by decide) hC2) (by decide)
  have hW : IntKind.u64.wrap (2 ^ C) = (N : Int) := by
    rw [show ((2 : Int) ^ C) = ((2 ^ C : Nat) : Int) by simp, ← hN]
    have : ∀ n : Nat, n ≤ 32 → IntKind.u64.wrap (n : Int) = n := by decide
    exact this N hN5
  rw [← hN]
  have HN := hide hN; have HN5 := hide hN5
  have HC := hide (And.intro hC1 hC2)
  clear hN
  go_enter Try.func113, Try.ntmps113
  go_wp2
  go_loopw [5, 9] (fun u i w' => ∃ (k : Nat) (v : Value), k ≤ N ∧ i = .int .u64 k ∧ v = u ∧ OwnMat w' w.heap.size w'.heap.size v (bitRows C s k) ∧ Below w.heap.size w w') (fun _ i _ => N - (intOf i).toNat)
  case atStart => exact ⟨0, _, Nat.zero_le _, rfl, rfl, ownMat_nil _ _ _, Below.refl _ _⟩
  case round =>
    obtain ⟨k, v, hk, rfl, rfl, hown, hb⟩ := hrel
    have HO := hide hown; have HB := hide hb
    clear hown hb hW
    by_cases hlt : k < N
    · have hk32 : k < 32 := by have := HN5.out; omega
      have hsz := HB.out.size
      have HY := hide (fun h => bitRows_yes (C := C) (s := s) (N := k) h)
      have HZ := hide (fun h => bitRows_no (C := C) (s := s) (N := k) h)
      have HONE := hide (ones_any k wr hk32)
      obtain ⟨q, hq⟩ : ∃ q, q = ((pop5 k : Nat) : Int) := ⟨_, rfl⟩
      rw [← hq] at HY HZ HONE
      clear hq
      by_cases hqs : q = s
      · subst hqs
        have HY2 := hide (HY.out rfl)
        have HLEN := hide (bitRows_len C q k)
        clear HY HZ
        have hlen := HLEN.out
        obtain ⟨vs, hv, hvh, hvr, hva⟩ := HO.out
        have HV := hide hv; have HVR := hide hvr; have HVA := hide hva
        clear hv hvh hvr hva
        go_wp2_with (first | (go_at_call 122; refine HONE.out.mono ?_; rintro e w4 ⟨rfl, rfl⟩) | (go_at_call 123; refine (rowOfBits_any k C _ HC.out hk32).mono ?_; rintro e w5 ⟨ur, rfl, hur, hb5⟩; rw [bitsRow_len] at hur; obtain ⟨ra, rc, rfl⟩ := own_slice hur; have HU := hide hur; have HB5 := hide hb5; have hs5 := hb5.size; have HV5 := hide (own_below HV.out hb5); clear hur hb5) | (at_builtin; refine wpList_push HV5.out (.slice ra C rc) (.slice none 0 0) rfl _ _ rfl Try.underlying23 Try.infoInts rfl (by decide) rfl rfl rfl (by omega) (by omega) ?_; intro v' w6 hown1 hb1 hg1))
        go_roundw
        case rel =>
          have hs6 := hb1.size
          have hp := ownMat_push (w := w5) (r := bitsRow C k) (hi := wr.heap.size) (hi' := w6.heap.size) (fun i h => ⟨own_below (HVR.out i h).1 HB5.out, (HVR.out i h).2⟩) HVA.out HV5.out (by rw [bitsRow_len]; exact HU.out) hsz (by omega) (by omega) hg1 hown1 (fun k e => (hown1.lt k e).2)
          rw [← HY2.out] at hp
          exact ⟨k + 1, _, by omega, by go_num, rfl, hp, (HB.out.trans (HB5.out.mono hsz)).trans (hb1.mono (by have := HB5.out.size; omega))⟩
        case measure => simp [intOf]; omega
      · have HZ2 := hide (HZ.out hqs)
        clear HY HZ
        go_wp2_with (go_at_call 122; refine HONE.out.mono ?_; rintro e w4 ⟨rfl, rfl⟩)
        go_roundw
        case rel => exact ⟨k + 1, _, by omega, by go_num, rfl, by rw [HZ2.out]; exact HO.out, HB.out⟩
        case measure => simp [intOf]; omega
    · obtain rfl : k = N := by omega
      go_wp2
      go_ret
      exact ⟨_, rfl, HO.out, HB.out⟩
end Go.Proofs.Ytjgkblgilnfpfaa
/-
  A region that draws its order, whose operations may write: each must keep only what an operation that may still come up reads.
-/
namespace Go.Proofs.Ytjgkblgilnfpfaa
open Go.RowKit

/-- Operation i waits, at some remove, for operation k. -/
def anc (l : List Oper) : Nat → Nat → Nat → Bool
  | 0, _, _ => false
  | f + 1, i, k => match l[i]? with
    | none => false
    | some o => (List.range i).any fun e => depT o e && (e == k || anc l f e k)
/-- Operation o reads what j has left. -/
def datT (o : Oper) (j : Nat) : Bool := o.after.any fun e => e.on == j && Region.binds .any e && (match e.ground with | .data => true | .guard => true | _ => false)
def dataOnly (o : Oper) : Bool := o.after.toList.all fun e => !Region.binds .any e || datT o e.on
/-- Some operation that may come up behind i reads what j has left. -/
def needB (l : List Oper) (i j : Nat) : Bool :=
  j != i && (List.range l.length).any fun k => k != i && !anc l l.length i k && (match l[k]? with | none => false | some o => datT o j)
theorem needB_of {l : List Oper} {i j k : Nat} {o : Oper} (hij : j ≠ i) (hk : l[k]? = some o) (hi : k ≠ i) (ha : anc l l.length i k = false) (hd : datT o j = true) : needB l i j = true := by
  unfold needB
  rw [Bool.and_eq_true, List.any_eq_true]
  refine ⟨by simpa using hij, k, List.mem_range.2 (List.getElem?_eq_some_iff.1 hk).1, ?_⟩
  simp [hk, hi, ha, hd]
/-- All that needB can say of i. -/
def needL (l : List Oper) (i : Nat) : List Nat :=
  ((List.range l.length).flatMap fun k => if k != i && !anc l l.length i k then (match l[k]? with | none => [] | some o => o.after.toList.map (·.on)) else []).filter fun j => j != i && needB l i j
theorem needL_of {l : List Oper} {i j : Nat} (h : needB l i j = true) : j ∈ needL l i := by
  have h0 := h
  unfold needB at h
  rw [Bool.and_eq_true, List.any_eq_true] at h
  obtain ⟨hj, k, hk, h⟩ := h
  unfold needL
  rw [List.mem_filter]
  refine ⟨List.mem_flatMap.2 ⟨k, hk, ?_⟩, by rw [hj, h0]; rfl⟩
  rw [Bool.and_eq_true] at h
  obtain ⟨h1, h2⟩ := h
  rw [if_pos h1]
  cases hl : l[k]? with
  | none => rw [hl] at h2; cases h2
  | some o =>
    rw [hl] at h2
    have h2' : datT o j = true := h2
    unfold datT at h2'
    rw [Array.any_eq_true] at h2'
    obtain ⟨n, hn, h3⟩ := h2'
    simp only [Bool.and_eq_true, beq_iff_eq] at h3
    exact List.mem_map.2 ⟨_, Array.getElem_mem_toList hn, h3.1.1⟩

section
variable {P : Program} {ops : Array Oper} {Q : Exit → Act → World → Prop}

theorem depT_iff {o : Oper} {j : Nat} : depT o j = true ↔ ∃ e ∈ o.after, e.on = j ∧ Region.binds .any e = true := by
  unfold depT
  rw [Array.any_eq_true]
  constructor
  · rintro ⟨n, hn, h⟩
    simp only [Bool.and_eq_true, beq_iff_eq] at h
    exact ⟨_, Array.getElem_mem hn, h⟩
  · rintro ⟨e, he, h1, h2⟩
    obtain ⟨n, hn, rfl⟩ := Array.getElem_of_mem he
    exact ⟨n, hn, by simp [h1, h2]⟩
theorem datT_dep {o : Oper} {j : Nat} (h : datT o j = true) : depT o j = true := by
  unfold datT at h
  rw [Array.any_eq_true] at h
  obtain ⟨n, hn, h⟩ := h
  simp only [Bool.and_eq_true, beq_iff_eq] at h
  exact depT_iff.2 ⟨_, Array.getElem_mem hn, h.1.1, h.1.2⟩
theorem dat_of {o : Oper} (h : dataOnly o = true) {j : Nat} (hd : depT o j = true) : datT o j = true := by
  obtain ⟨e, he, rfl, hb⟩ := depT_iff.1 hd
  unfold dataOnly at h
  rw [List.all_eq_true] at h
  have := h e (by simpa using he)
  rw [hb] at this
  simpa using this
theorem anc_listed {listed : Array Bool} (hc : Closed .any ops listed) : ∀ (f i k : Nat) (o : Oper), ops[i]? = some o → (∀ e ∈ o.after, Region.binds .any e = true → listed.getD e.on false = true) → anc ops.toList f i k = true → listed.getD k false = true
  | 0, _, _, _, _, _, h => by cases h
  | f + 1, i, k, o, hi, hall, h => by
    unfold anc at h
    have hi' : ops.toList[i]? = some o := by simpa using hi
    rw [hi'] at h
    simp only [List.any_eq_true, Bool.and_eq_true, Bool.or_eq_true, beq_iff_eq] at h
    obtain ⟨e, -, hd, h⟩ := h
    obtain ⟨x, hx, rfl, hb⟩ := depT_iff.1 hd
    have hl := hall x hx hb
    rcases h with h | h
    · rw [← h]; exact hl
    · cases hx' : ops[x.on]? with
      | none =>
        exfalso
        cases f with
        | zero => cases h
        | succ f =>
          unfold anc at h
          have : ops.toList[x.on]? = none := by simpa using hx'
          rw [this] at h; cases h
      | some ox => exact anc_listed hc f x.on k ox hx' (fun e he hbe => hc x.on ox hx' hl e he hbe) h

/-- The frame and the world while the region runs: what is listed and still read holds in its slot. -/
structure MidN (ops : Array Oper) (a0 : Act) (S : World → Prop) (F : Nat → Value → World → Prop) (listed : Array Bool) (a : Act) (w : World) : Prop where
  size : listed.size = ops.size
  tmps : a.tmps.size = a0.tmps.size
  defers : a.defers = a0.defers
  out : ∀ t, outside ops t = true → a.tmps.getD t undef = a0.tmps.getD t undef
  world : S w
  held : ∀ (i : Nat) (o : Oper) (d : Tmp), ops[i]? = some o → o.dst = some d → listed.getD i false = true → (∃ k ok, ops[k]? = some ok ∧ listed.getD k true = false ∧ datT ok i = true) → F i (a.tmps.getD d undef) w

def EachN (P : Program) (ops : Array Oper) (Q : Exit → Act → World → Prop) (a0 : Act) (S : World → Prop) (F : Nat → Value → World → Prop) (i : Nat) (o : Oper) : Prop :=
  ∀ (a : Act) (w : World), a.tmps.size = a0.tmps.size → a.defers = a0.defers → (∀ t, outside ops t = true → a.tmps.getD t undef = a0.tmps.getD t undef) → S w →
    (∀ (j : Nat) (oe : Oper) (d : Tmp), datT o j = true → ops[j]? = some oe → oe.dst = some d → F j (a.tmps.getD d undef) w) →
    ∀ K : Act → World → Prop, (∀ v w', S w' → (∀ j, needB ops.toList i j = true → ∀ u, F j u w → F j u w') → F i v w' → K (a.put o.dst v) w') → wpOp P ops Q i K a w

theorem wpAny_need {a0 : Act} {S : World → Prop} {F : Nat → Value → World → Prop} {last : Oper} (ho : orderly .any a0.tmps.size 0 [] ops.toList = true) (ht : tails .any ops.toList = true) (hl : ops[ops.size - 1]? = some last)
    (hop : ∀ (i : Nat) (o : Oper), ops[i]? = some o → i < ops.size - 1 → EachN P ops Q a0 S F i o)
    (hlast : ∀ (a : Act) (w : World), a.tmps.size = a0.tmps.size → a.defers = a0.defers → (∀ t, outside ops t = true → a.tmps.getD t undef = a0.tmps.getD t undef) → S w →
      (∀ (i : Nat) (o : Oper) (d : Tmp), ops[i]? = some o → i < ops.size - 1 → o.dst = some d → datT last i = true → F i (a.tmps.getD d undef) w) → ∀ K : Act → World → Prop, (∀ a' w', Q .normal a' w' → K a' w') → wpOp P ops Q (ops.size - 1) K a w) :
    ∀ (fuel : Nat) (listed : Array Bool) (a : Act) (w : World), MidN ops a0 S F listed a w → Closed .any ops listed → listed.getD (ops.size - 1) true = false → unl listed ops.size ≤ fuel → wpAny P .any ops Q fuel listed a w := by
  have hlt0 : ops.size - 1 < ops.size := (Array.getElem?_eq_some_iff.1 hl).1
  have hon : ∀ (i : Nat) (o : Oper), ops[i]? = some o → ∀ e ∈ o.after, Region.binds .any e = true → e.on < i := fun i o hi e he hbd => by
    have := orderly_on ops.toList 0 [] ho i o (by simpa using hi) e he hbd; omega
  have hdst : ∀ (i : Nat) (o : Oper) (d : Tmp), ops[i]? = some o → o.dst = some d → d < a0.tmps.size := fun i o d hi hd => (orderly_dst ops.toList 0 [] ho i o d (by simpa using hi) hd).1
  have hone : ∀ (i : Nat) (o : Oper) (d : Tmp), ops[i]? = some o → o.dst = some d → ∀ (j : Nat) (o' : Oper), ops[j]? = some o' → i ≠ j → o'.dst ≠ some d := fun i o d hi hd j o' hj hij e => by
    rcases Nat.lt_or_gt_of_ne hij with h | h
    · exact (orderly_dst ops.toList 0 [] ho i o d (by simpa using hi) hd).2.2 j o' (by simpa using hj) h e
    · exact (orderly_dst ops.toList 0 [] ho j o' d (by simpa using hj) e).2.2 i o (by simpa using hi) h hd
  intro fuel
  induction fuel with
  | zero =>
    intro listed a w hm hcl hul hf
    exfalso
    have := unl_set listed _ hul ops.size
    rw [if_pos hlt0] at this
    omega
  | succ fuel ih =>
    intro listed a w hm hcl hul hf
    refine ⟨fun hr => ?_, fun i hi => ?_⟩
    · exfalso
      have h1 := ready_none hm.size hon hr _ hlt0
      have hlt : ops.size - 1 < listed.size := by have := hm.size; omega
      simp [hlt] at hul h1
      rw [h1] at hul; cases hul
    obtain ⟨hul2, o, ho', hall⟩ := mem_ready.1 hi
    have hlt : i < ops.size := (Array.getElem?_eq_some_iff.1 ho').1
    by_cases e : i = ops.size - 1
    · subst e
      rw [hl] at ho'
      obtain rfl := Option.some.inj ho'
      have hab := fun j hj => all_before ht hcl hl hall _ j (Nat.le_refl _) hj
      refine hlast a w hm.tmps hm.defers hm.out hm.world (fun j oj d hj hjl hd hdep => hm.held j oj d hj hd (hab j hjl) ⟨_, _, hl, hul2, hdep⟩) _ fun a' w' hq => ?_
      have hrd : Region.ready .any ops (listed.setIfInBounds (ops.size - 1) true) = [] := by
        rw [List.eq_nil_iff_forall_not_mem]
        intro j hj
        obtain ⟨hl', o', ho'', -⟩ := mem_ready.1 hj
        have hj' : j < ops.size := (Array.getElem?_eq_some_iff.1 ho'').1
        have hls : ops.size - 1 < listed.size := by have := hm.size; omega
        by_cases ej : ops.size - 1 = j
        · subst ej; simp [hls] at hl'
        · rw [getD_set_ne true ej] at hl'
          have h1 := hab j (by omega)
          have hjs : j < listed.size := by have := hm.size; omega
          simp [hjs] at hl' h1
          rw [h1] at hl'; cases hl'
      cases fuel with
      | zero => exact ⟨hrd, hq⟩
      | succ fuel => exact ⟨fun _ => hq, fun j hj => by rw [hrd] at hj; cases hj⟩
    · refine hop i o ho' (by omega) a w hm.tmps hm.defers hm.out hm.world (fun j oe d hdj hoe hd => by
        obtain ⟨e, he, rfl, hb⟩ := depT_iff.1 (datT_dep hdj)
        exact hm.held e.on oe d hoe hd (hall e he hb) ⟨i, o, ho', hul2, hdj⟩) _ fun v w' hS hst hF => ?_
      have hls : listed.size = ops.size := hm.size
      refine ih _ _ _ ⟨by simp [hm.size], ?_, ?_, fun t ht => ?_, hS, fun j oj d hj hd hlj hcons => ?_⟩ (fun k ok hk hlk e' he' hb' => ?_) ?_ ?_
      · cases o.dst <;> simp [Act.put, hm.tmps]
      · cases o.dst <;> simp [Act.put, hm.defers]
      · rw [← hm.out t ht]
        cases hd : o.dst with
        | none => rfl
        | some d =>
          have hne : d ≠ t := by
            intro e; subst e
            unfold outside at ht
            rw [Array.all_eq_true_iff_forall_mem] at ht
            have := ht o (Array.mem_of_getElem? ho')
            rw [hd] at this; simp at this
          simp [Act.put, Array.getElem?_setIfInBounds_ne hne]
      · by_cases e : i = j
        · subst e
          rw [ho'] at hj
          obtain rfl := Option.some.inj hj
          have hdl : d < a.tmps.size := by rw [hm.tmps]; exact hdst i o d ho' hd
          have : (a.put o.dst v).tmps.getD d undef = v := by rw [hd]; simp [Act.put, hdl]
          rw [this]; exact hF
        · have h1 : listed.getD j false = true := by rw [getD_set_ne false e] at hlj; exact hlj
          obtain ⟨k, ok, hk, huk, hdk⟩ := hcons
          have hki : i ≠ k := by
            intro e'; subst e'
            simp [show i < listed.size by omega] at huk
          have huk' : listed.getD k true = false := by rw [getD_set_ne true hki] at huk; exact huk
          have hanc : anc ops.toList ops.toList.length i k = false := by
            cases h : anc ops.toList ops.toList.length i k with
            | false => rfl
            | true =>
              have := anc_listed hcl _ i k o ho' hall h
              have hks : k < listed.size := by rw [hls]; exact (Array.getElem?_eq_some_iff.1 hk).1
              simp [hks] at this huk'
              rw [this] at huk'; cases huk'
          have h2 := hm.held j oj d hj hd h1 ⟨k, ok, hk, huk', hdk⟩
          have h3 : (a.put o.dst v).tmps.getD d undef = a.tmps.getD d undef := by
            cases hd' : o.dst with
            | none => rfl
            | some d' =>
              have hne : d' ≠ d := fun e' => hone j oj d hj hd i o ho' (Ne.symm e) (by rw [hd', e'])
              simp [Act.put, Array.getElem?_setIfInBounds_ne hne]
          rw [h3]; exact hst j (needB_of (Ne.symm e) (by simpa using hk) (Ne.symm hki) hanc hdk) _ h2
      · by_cases ek : i = k
        · subst ek
          rw [ho'] at hk
          obtain rfl := Option.some.inj hk
          have h1 := hall e' he' hb'
          have h2 : i ≠ e'.on := by have := hon i o ho' e' he' hb'; omega
          rw [getD_set_ne false h2]; exact h1
        · rw [getD_set_ne false ek] at hlk
          have h1 := hcl k ok hk hlk e' he' hb'
          by_cases e2 : i = e'.on
          · rw [← e2]; simp [show i < listed.size by omega]
          · rw [getD_set_ne false e2]; exact h1
      · rw [getD_set_ne true e]; exact hul
      · have := unl_set listed i hul2 ops.size
        rw [if_pos hlt] at this; omega

/-- What is asked of one operation: it keeps what may still be read. -/
def Obn (P : Program) (Q : Exit → Act → World → Prop) (l : List Oper) (base : List (Tmp × Value)) (dsts : List (Option Tmp)) (S : World → Prop) (fs : List FactP) (i : Nat) (o : Oper) : Prop :=
  ∀ (a : Act) (w : World), S w → (∀ t v, base.lookup t = some v → a.tmps.getD t undef = v) →
    (∀ j d, dsts[j]? = some (some d) → datT o j = true → factP fs j (a.tmps.getD d undef) w) →
    ∀ K : Act → World → Prop, (∀ v w', S w' → (∀ j, needB l i j = true → ∀ u, factP fs j u w → factP fs j u w') → factP fs i v w' → K (a.put o.dst v) w') →
      (o.guard = none ∨ ∃ j d, o.guard = some (j, true) ∧ dsts[j]? = some (some d) ∧ a.tmps.getD d undef = .bool true) ∧ o.wp P a w K Q
theorem obn_of {l : List Oper} {base : List (Tmp × Value)} {dsts : List (Option Tmp)} {S : World → Prop} {fs : List FactP} {i : Nat} {o : Oper} (hd : dataOnly o = true) (h : Obt P Q base dsts S fs i o) : Obn P Q l base dsts S fs i o :=
  fun a w h1 h2 h3 K hK => h a w h1 h2 (fun j d hj hdj => h3 j d hj (dat_of hd hdj)) K fun v w' g1 g2 g3 => hK v w' g1 (fun j _ u => g2 j u) g3

theorem wp_region_need {id : Nat} {a : Act} {w : World} {S : World → Prop} (fs : List FactP) (base : List (Tmp × Value)) (dsts : List (Option Tmp)) (last : Oper) (k : Nat)
    (hm : P.follows .mixedOrders = true) (hk : ops.size = k + 1) (hlk : ops[k]? = some last) (ho : orderly .any a.tmps.size 0 [] ops.toList = true) (ht : tails .any ops.toList = true) (hd : ops.toList.map (·.dst) = dsts)
    (hbo : base.all (fun p => outside ops p.1) = true) (hb : ∀ t v, base.lookup t = some v → a.tmps.getD t undef = v)
    (hS : S w.drew) (hob : AllOps (Obn P Q ops.toList base dsts S fs) 0 ops.toList.dropLast) (hgl : last.guard = none)
    (hlast : ∀ (a' : Act) (w' : World), a'.tmps.size = a.tmps.size → a'.defers = a.defers → (∀ t, outside ops t = true → a'.tmps.getD t undef = a.tmps.getD t undef) → S w' →
      (∀ j d, dsts[j]? = some (some d) → j < k → datT last j = true → factP fs j (a'.tmps.getD d undef) w') → ∀ K : Act → World → Prop, (∀ v w2, Q .normal (a'.put last.dst v) w2 → K (a'.put last.dst v) w2) → last.wp P a' w' K Q) :
    (Code.region id ops true).wp P Q a w := by
  have hl : ops[ops.size - 1]? = some last := by rw [hk]; exact hlk
  have hdst' : ∀ (j : Nat) (d : Tmp), dsts[j]? = some (some d) → ∃ o, ops[j]? = some o ∧ o.dst = some d := fun j d h => by
    rw [← hd, List.getElem?_map] at h
    cases hj : ops.toList[j]? with
    | none => rw [hj] at h; simp at h
    | some o =>
      rw [hj] at h
      exact ⟨o, by simpa using hj, by simpa using h⟩
  have hmem : ∀ (t : Tmp) (v : Value) (l : List (Tmp × Value)), l.lookup t = some v → ∃ p ∈ l, p.1 = t := fun t v l => by
    induction l with
    | nil => intro h; simp at h
    | cons x r ih =>
      intro h
      rw [List.lookup_cons] at h
      by_cases e : t == x.1
      · exact ⟨x, List.mem_cons_self, (by simpa using e : t = x.1).symm⟩
      · have e' : (t == x.1) = false := by simpa using e
        rw [e'] at h
        obtain ⟨p, hp, hpt⟩ := ih h
        exact ⟨p, List.mem_cons_of_mem _ hp, hpt⟩
  have hstart : ∀ k, k ≤ ops.size → unl (Array.replicate ops.size false) k = k := by
    intro k
    induction k with
    | zero => intro _; rfl
    | succ k ih =>
      intro hk
      rw [unl, ih (by omega)]
      have : (Array.replicate ops.size false).getD k true = false := by simp [show k < ops.size by omega]
      rw [this]; rfl
  refine wp_region_any hm (wpAny_need (F := fun i u w => factP fs i u w) ho ht hl (fun i o hi hil a' w' hts hds hout hSw hdep K hK => ?_) (fun a' w' h1 h2 h3 h4 h5 K hK => ?_) _ _ _ _ ⟨by simp, rfl, rfl, fun _ _ => rfl, hS, fun i o d hi _ hl _ => ?_⟩ (fun k o hk hlk => ?_) ?_ ?_)
  · have hbase : ∀ t v, base.lookup t = some v → a'.tmps.getD t undef = v := fun t v h => by
      obtain ⟨p, hp, rfl⟩ := hmem t v base h
      rw [List.all_eq_true] at hbo
      rw [hout p.1 (hbo p hp)]; exact hb p.1 v h
    have hdep' : ∀ j d, dsts[j]? = some (some d) → datT o j = true → factP fs j (a'.tmps.getD d undef) w' := fun j d h he => by
      obtain ⟨oe, hoe, hde⟩ := hdst' j d h
      exact hdep j oe d he hoe hde
    have hip : ops.toList.dropLast[i]? = some o := by
      have : ops.toList[i]? = some o := by simpa using hi
      rw [List.getElem?_dropLast, if_pos (by simpa using hil)]; exact this
    have hobi := allOps_at _ 0 hob i o hip
    rw [Nat.zero_add] at hobi
    obtain ⟨hg, hwp⟩ := hobi a' w' hSw hbase hdep' K hK
    have hwant : Region.wanted o (yielded ops a'.tmps) = true := by
      rcases hg with hg | ⟨j, d, hg, hj, hv⟩
      · simp [Region.wanted, hg]
      · obtain ⟨oj, hoj, hdj⟩ := hdst' j d hj
        have h1 : a'.tmps[d]? = some (.bool true) := by
          cases h : a'.tmps[d]? with
          | none => simp [h] at hv; cases hv
          | some u => simp [h] at hv; rw [hv]
        simp [Region.wanted, hg, yielded, hoj, hdj, h1]
    unfold wpOp
    simp only [hi, hwant, if_true]
    exact .inl hwp
  · have hw := hlast a' w' h1 h2 h3 h4 (fun j d h hj hdep => by
      obtain ⟨o, ho', hd'⟩ := hdst' j d h
      exact h5 j o d ho' (by omega) hd' hdep) K fun v w2 hq => hK _ _ hq
    unfold wpOp
    have hwant : Region.wanted last (yielded ops a'.tmps) = true := by simp [Region.wanted, hgl]
    simp only [hl, hwant, if_true]
    exact .inl hw
  · exfalso
    have hlt : i < ops.size := (Array.getElem?_eq_some_iff.1 hi).1
    simp [hlt] at hl
  · exfalso
    have hlt : k < ops.size := (Array.getElem?_eq_some_iff.1 hk).1
    simp [hlt] at hlk
  · have hlt : ops.size - 1 < ops.size := by omega
    simp [hlt]
  · rw [hstart _ (Nat.le_refl _)]; exact Nat.le_refl _
end
end Go.Proofs.Ytjgkblgilnfpfaa
