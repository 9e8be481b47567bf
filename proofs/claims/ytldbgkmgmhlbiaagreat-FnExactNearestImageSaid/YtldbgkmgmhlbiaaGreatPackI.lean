/-
  Texts of this claim, one behind the other: Dfs, RowsS, ShSl, Subs, ImgBy, ExistS, BuildS.
-/
import Derived.Test.YtldbgkmgmhlbiaaGreatPackH
import Derived.Test.YtldbgkmgmhlbiaaGreatPackG
import Derived.Shelf.Slices.Clone
import Derived.Ground.Names2Prog
import Derived.Test.YtldbgkmgmhlbiaaGreatProg
import Derived.Test.YtldbgkmgmhlbiaaGreatPackD
import Derived.Test.YtldbgkmgmhlbiaaGreatPackC
import Derived.Test.YtldbgkmgmhlbiaaGreatPackE
import Derived.Laws.OwnMore
import Derived.Great.BuildSlice
import Derived.Shelf.Abstract
/-
  All images with given sums, row by row; the least one; what a row of one can be.
-/
namespace Go.Proofs.YtldbgkmgmhlbiaaGreat
open Go.RowKit Mx

/-- All rows of so many cells with so many black ones, in order. -/
def rowsLn : Nat → Int → List (List Int)
  | 0, k => if k = 0 then [[]] else []
  | n + 1, k => (if 0 ≤ k then (rowsLn n k).map (0 :: ·) else []) ++ if 1 ≤ k then (rowsLn n (k - 1)).map (1 :: ·) else []
/-- A row of n cells, a of them black. -/
def RowOf (n : Nat) (a : Int) (row : List Int) : Prop := row.length = n ∧ (∀ x ∈ row, x = 0 ∨ x = 1) ∧ row.sum = a
theorem sum_nonneg01 : ∀ (l : List Int), (∀ x ∈ l, x = 0 ∨ x = 1) → 0 ≤ l.sum
  | [], _ => Int.le_refl _
  | x :: l, h => by
    have := sum_nonneg01 l fun y hy => h y (List.mem_cons_of_mem _ hy)
    have := h x List.mem_cons_self
    rw [List.sum_cons]; omega
theorem mem_rowsL : ∀ (n : Nat) (k : Int) (row : List Int), row ∈ rowsLn n k ↔ RowOf n k row
  | 0, k, row => by
    unfold rowsLn RowOf
    by_cases h : k = 0
    · rw [if_pos h, List.mem_singleton]
      constructor
      · rintro rfl; exact ⟨rfl, by simp, by simp [h]⟩
      · rintro ⟨h1, -, -⟩; exact List.eq_nil_of_length_eq_zero h1
    · rw [if_neg h]
      constructor
      · intro h'; simp at h'
      · rintro ⟨h1, -, h3⟩
        rw [List.eq_nil_of_length_eq_zero h1] at h3; exact absurd h3.symm h
  | n + 1, k, row => by
    unfold rowsLn
    rw [List.mem_append]
    constructor
    · rintro (h | h)
      · by_cases h0 : 0 ≤ k
        · rw [if_pos h0, List.mem_map] at h
          obtain ⟨r, hr, rfl⟩ := h
          obtain ⟨h1, h2, h3⟩ := (mem_rowsL n k r).1 hr
          exact ⟨by simp [h1], fun x hx => by rcases List.mem_cons.1 hx with rfl | hx; exact .inl rfl; exact h2 x hx, by simp [h3]⟩
        · rw [if_neg h0] at h; simp at h
      · by_cases h0 : 1 ≤ k
        · rw [if_pos h0, List.mem_map] at h
          obtain ⟨r, hr, rfl⟩ := h
          obtain ⟨h1, h2, h3⟩ := (mem_rowsL n (k - 1) r).1 hr
          exact ⟨by simp [h1], fun x hx => by rcases List.mem_cons.1 hx with rfl | hx; exact .inr rfl; exact h2 x hx, by simp [h3]; omega⟩
        · rw [if_neg h0] at h; simp at h
    · rintro ⟨h1, h2, h3⟩
      cases row with
      | nil => simp at h1
      | cons x r =>
        have hr : ∀ y ∈ r, y = 0 ∨ y = 1 := fun y hy => h2 y (List.mem_cons_of_mem _ hy)
        have hn := sum_nonneg01 r hr
        rw [List.sum_cons] at h3
        rcases h2 x List.mem_cons_self with rfl | rfl
        · left
          rw [if_pos (by omega), List.mem_map]
          exact ⟨r, (mem_rowsL n k r).2 ⟨by simpa using h1, hr, by omega⟩, rfl⟩
        · right
          rw [if_pos (by omega), List.mem_map]
          exact ⟨r, (mem_rowsL n (k - 1) r).2 ⟨by simpa using h1, hr, by omega⟩, rfl⟩
theorem rowOf_cell {n : Nat} {a : Int} {row : List Int} (h : RowOf n a row) {x : Nat} (hx : x < n) : row.getD x 0 = 0 ∨ row.getD x 0 = 1 := by
  rw [List.getD_eq_getElem?_getD, List.getElem?_eq_getElem (by rw [h.1]; exact hx), Option.getD_some]
  exact h.2.1 _ (List.getElem_mem _)
theorem rowOf_tab {n : Nat} {f : Nat → Int} (h : ∀ x, x < n → f x = 0 ∨ f x = 1) : RowOf n (S n f) (tabL n f) := by
  refine ⟨tabL_len _ _, fun x hx => ?_, ?_⟩
  · obtain ⟨i, hi, rfl⟩ := List.getElem_of_mem hx
    rw [tabL_at]; exact h i (by rw [tabL_len] at hi; exact hi)
  · rw [sum_S, tabL_len]; exact S_congr _ fun i hi => tabL_getD hi
theorem rowOf_self {n : Nat} {a : Int} {row : List Int} (h : RowOf n a row) : row = tabL n fun x => row.getD x 0 := by
  rw [← h.1]; exact (tabL_self row).symm

/-- There is an image for the rows that are left, of which there may be none. -/
def restB (r c : List Int) : Bool := if r = [] then !c.any (badB 0) else existsOf r c
theorem img_nil (c : List Int) : HasImg [] c ↔ ∀ x, x < c.length → c.getD x 0 = 0 := by
  constructor
  · rintro ⟨m, hm⟩ x hx; exact (hm.col x hx).symm
  · intro h; exact ⟨fun _ _ => 0, fun y x hy => absurd hy (Nat.not_lt_zero _), fun y hy => absurd hy (Nat.not_lt_zero _), fun x hx => (h x hx).symm⟩
theorem restB_iff {r c : List Int} (hr : r.length ≤ 5) (hc : 1 ≤ c.length ∧ c.length ≤ 5) : restB r c = true ↔ HasImg r c := by
  unfold restB
  by_cases h : r = []
  · rw [if_pos h, h, img_nil]
    simp only [Bool.not_eq_true', List.any_eq_false]
    constructor
    · intro h1 x hx
      rw [List.getD_eq_getElem?_getD, List.getElem?_eq_getElem hx, Option.getD_some]
      have := h1 _ (List.getElem_mem hx)
      simp only [badB, Bool.or_eq_true, decide_eq_true_eq, not_or] at this
      omega
    · intro h1 x hx
      obtain ⟨i, hi, rfl⟩ := List.getElem_of_mem hx
      have := h1 i hi
      rw [List.getD_eq_getElem?_getD, List.getElem?_eq_getElem hi, Option.getD_some] at this
      simp [badB, this]
  · rw [if_neg h]
    have : 1 ≤ r.length := by cases r with
      | nil => exact absurd rfl h
      | cons x l => simp
    exact ⟨img_of_exists, exists_of_img ⟨this, hr⟩ hc⟩
theorem subL_getD {c row : List Int} {x : Nat} (h : x < c.length) : (subL c row).getD x 0 = c.getD x 0 - row.getD x 0 := tabL_getD h
/-- The first row taken off, and put back. -/
theorem img_cons (a : Int) (r c : List Int) (m : Nat → Nat → Int) : ImgF (a :: r) c m ↔ RowOf c.length a (tabL c.length (m 0)) ∧ ImgF r (subL c (tabL c.length (m 0))) fun y => m (y + 1) := by
  constructor
  · intro h
    have h0 : ∀ x, x < c.length → m 0 x = 0 ∨ m 0 x = 1 := fun x hx => h.cell 0 x (by simp) hx
    have h1 := h.row 0 (by simp)
    refine ⟨?_, fun y x hy hx => ?_, fun y hy => ?_, fun x hx => ?_⟩
    · have := rowOf_tab h0
      rw [h1] at this; simpa using this
    · rw [subL_len] at hx; exact h.cell (y + 1) x (by simpa using hy) hx
    · rw [subL_len]; have := h.row (y + 1) (by simpa using hy); simpa using this
    · rw [subL_len] at hx
      have := h.col x hx
      rw [List.length_cons, S_cons] at this
      rw [subL_getD hx, tabL_getD hx]; omega
  · rintro ⟨h0, h1⟩
    refine ⟨fun y x hy hx => ?_, fun y hy => ?_, fun x hx => ?_⟩
    · cases y with
      | zero => have := rowOf_cell h0 hx; rwa [tabL_getD hx] at this
      | succ y => exact h1.cell y x (by simpa using hy) (by rw [subL_len]; exact hx)
    · cases y with
      | zero =>
        have := h0.2.2
        rw [sum_S, tabL_len] at this
        rw [S_congr c.length (g := fun x => (tabL c.length (m 0)).getD x 0) (fun x hx => (tabL_getD hx).symm), this]; rfl
      | succ y => have := h1.row y (by simpa using hy); rw [subL_len] at this; simpa using this
    · have := h1.col x (by rw [subL_len]; exact hx)
      rw [subL_getD hx, tabL_getD hx] at this
      rw [List.length_cons, S_cons]; omega
theorem hasImg_cons (a : Int) (r c : List Int) : HasImg (a :: r) c ↔ ∃ row, RowOf c.length a row ∧ HasImg r (subL c row) := by
  constructor
  · rintro ⟨m, hm⟩
    obtain ⟨h1, h2⟩ := (img_cons a r c m).1 hm
    exact ⟨_, h1, _, h2⟩
  · rintro ⟨row, h1, m, hm⟩
    refine ⟨fun y x => match y with | 0 => row.getD x 0 | y + 1 => m y x, (img_cons a r c _).2 ⟨?_, ?_⟩⟩
    · rw [← rowOf_self h1]; exact h1
    · rw [← rowOf_self h1]; exact hm

/-- The rows that can stand first. -/
def firstRows (a : Int) (r c : List Int) : List (List Int) := (rowsLn c.length a).filter fun row => restB r (subL c row)
theorem firstRows_ne {a : Int} {r c : List Int} (hr : r.length ≤ 5) (hc : 1 ≤ c.length ∧ c.length ≤ 5) (h : HasImg (a :: r) c) : firstRows a r c ≠ [] := by
  obtain ⟨row, h1, h2⟩ := (hasImg_cons a r c).1 h
  have : row ∈ firstRows a r c := List.mem_filter.2 ⟨(mem_rowsL _ _ _).2 h1, (restB_iff hr (by rw [subL_len]; exact hc)).2 h2⟩
  intro e; rw [e] at this; simp at this
/-- The least row that can stand first. -/
def leastCh : List Int → List Int → List Int
  | [], _ => []
  | a :: r, c => (firstRows a r c).headD []
theorem leastCh_mem {a : Int} {r c : List Int} (hr : r.length ≤ 5) (hc : 1 ≤ c.length ∧ c.length ≤ 5) (h : HasImg (a :: r) c) : leastCh (a :: r) c ∈ firstRows a r c := by
  have := firstRows_ne hr hc h
  show (firstRows a r c).headD [] ∈ firstRows a r c
  cases e : firstRows a r c with
  | nil => exact absurd e this
  | cons x l => exact List.mem_cons_self
theorem leastCh_spec {a : Int} {r c : List Int} (hr : r.length ≤ 5) (hc : 1 ≤ c.length ∧ c.length ≤ 5) (h : HasImg (a :: r) c) : RowOf c.length a (leastCh (a :: r) c) ∧ HasImg r (subL c (leastCh (a :: r) c)) := by
  obtain ⟨h1, h2⟩ := List.mem_filter.1 (leastCh_mem hr hc h)
  exact ⟨(mem_rowsL _ _ _).1 h1, (restB_iff hr (by rw [subL_len]; exact hc)).1 h2⟩

/-- All images with these sums, in order. -/
def allL : List Int → List Int → List (List (List Int))
  | [], _ => [[]]
  | a :: r, c => (rowsLn c.length a).flatMap fun row => if restB r (subL c row) then (allL r (subL c row)).map (row :: ·) else []
theorem flat_first {α β : Type} (p : α → Bool) (f : α → List β) (hf : ∀ x, p x = false → f x = []) : ∀ (l : List α), (l.filter p).headD = (l.filter p).headD ∧ ∀ x r, l.filter p = x :: r → ∃ l', l.flatMap f = f x ++ l'
  | [] => ⟨rfl, fun x r h => by simp at h⟩
  | y :: l => by
    refine ⟨rfl, fun x r h => ?_⟩
    rw [List.filter_cons] at h
    cases hp : p y with
    | true =>
      rw [hp, if_pos rfl] at h
      simp only [List.cons.injEq] at h
      exact ⟨l.flatMap f, by rw [List.flatMap_cons, h.1]⟩
    | false =>
      rw [hp, if_neg (by decide)] at h
      obtain ⟨l', hl⟩ := (flat_first p f hf l).2 x r h
      exact ⟨l', by rw [List.flatMap_cons, hf y hp, List.nil_append, hl]⟩
/-- The first one of all is the one whose rows are the least. -/
theorem all_first : ∀ (r c : List Int), r.length ≤ 5 → (1 ≤ c.length ∧ c.length ≤ 5) → HasImg r c → ∃ l, allL r c = imgL leastCh r c :: l
  | [], c, _, _, _ => ⟨[], rfl⟩
  | a :: r, c, hr, hc, h => by
    rw [List.length_cons] at hr
    have hm := leastCh_mem (by omega) hc h
    obtain ⟨-, h2⟩ := leastCh_spec (by omega) hc h
    obtain ⟨l, hl⟩ := all_first r (subL c (leastCh (a :: r) c)) (by omega) (by rw [subL_len]; exact hc) h2
    have hcons : ∃ q, firstRows a r c = leastCh (a :: r) c :: q := by
      show ∃ q, firstRows a r c = (firstRows a r c).headD [] :: q
      cases e : firstRows a r c with
      | nil => exact absurd e (firstRows_ne (by omega) hc h)
      | cons x q => exact ⟨q, rfl⟩
    obtain ⟨q, hq⟩ := hcons
    obtain ⟨l', hl'⟩ := (flat_first (fun row => restB r (subL c row)) (fun row => if restB r (subL c row) then (allL r (subL c row)).map (row :: ·) else []) (fun x hx => by rw [hx]; simp) (rowsLn c.length a)).2 _ q hq
    have hrest : restB r (subL c (leastCh (a :: r) c)) = true := (List.mem_filter.1 hm).2
    refine ⟨l.map (leastCh (a :: r) c :: ·) ++ l', ?_⟩
    rw [allL, hl', if_pos hrest, hl, imgL]; simp
/-- The rows of an image that is given by its cells. -/
def listF (n C : Nat) (m : Nat → Nat → Int) : List (List Int) := (List.range n).map fun y => tabL C (m y)
theorem listF_succ (n C : Nat) (m : Nat → Nat → Int) : listF (n + 1) C m = tabL C (m 0) :: listF n C fun y => m (y + 1) := by
  unfold listF
  rw [List.range_succ_eq_map, List.map_cons, List.map_map]; rfl
theorem all_complete : ∀ (r c : List Int), r.length ≤ 5 → (1 ≤ c.length ∧ c.length ≤ 5) → ∀ m, ImgF r c m → listF r.length c.length m ∈ allL r c
  | [], c, _, _, m, _ => by simp [listF, allL]
  | a :: r, c, hr, hc, m, h => by
    rw [List.length_cons] at hr
    obtain ⟨h1, h2⟩ := (img_cons a r c m).1 h
    have ih := all_complete r _ (by omega) (by rw [subL_len]; exact hc) _ h2
    rw [subL_len] at ih
    rw [List.length_cons, listF_succ, allL, List.mem_flatMap]
    refine ⟨_, (mem_rowsL _ _ _).2 h1, ?_⟩
    rw [if_pos ((restB_iff (by omega) (by rw [subL_len]; exact hc)).2 ⟨_, h2⟩)]
    exact List.mem_map.2 ⟨_, ih, rfl⟩
theorem all_sound : ∀ (r c : List Int), r.length ≤ 5 → (1 ≤ c.length ∧ c.length ≤ 5) → HasImg r c → ∀ l ∈ allL r c, l.length = r.length ∧ (∀ q ∈ l, q.length = c.length) ∧ ImgF r c fun y x => (l.getD y []).getD x 0
  | [], c, _, _, h, l, hl => by
    simp only [allL, List.mem_singleton] at hl
    subst hl
    exact ⟨rfl, by simp, fun y x hy => absurd hy (Nat.not_lt_zero _), fun y hy => absurd hy (Nat.not_lt_zero _), fun x hx => ((img_nil c).1 h x hx).symm⟩
  | a :: r, c, hr, hc, h, l, hl => by
    rw [List.length_cons] at hr
    rw [allL, List.mem_flatMap] at hl
    obtain ⟨row, hrow, hl⟩ := hl
    have hR := (mem_rowsL _ _ _).1 hrow
    by_cases hb : restB r (subL c row) = true
    · rw [if_pos hb, List.mem_map] at hl
      obtain ⟨l', hl', rfl⟩ := hl
      have hc' : 1 ≤ (subL c row).length ∧ (subL c row).length ≤ 5 := by rw [subL_len]; exact hc
      obtain ⟨h1, h2, h3⟩ := all_sound r _ (by omega) hc' ((restB_iff (by omega) hc').1 hb) l' hl'
      refine ⟨by simp [h1], fun q hq => ?_, (img_cons a r c _).2 ⟨?_, ?_⟩⟩
      · rcases List.mem_cons.1 hq with rfl | hq
        · exact hR.1
        · rw [h2 q hq, subL_len]
      · rw [show tabL c.length (fun x => ((row :: l').getD 0 []).getD x 0) = row from (rowOf_self hR).symm]; exact hR
      · rw [show tabL c.length (fun x => ((row :: l').getD 0 []).getD x 0) = row from (rowOf_self hR).symm]; exact h3
    · rw [if_neg hb] at hl; simp at hl

/-- Row y left out. -/
def delF {α : Type} (m : Nat → α) (y i : Nat) : α := if i < y then m i else m (i + 1)
theorem S_del (f : Nat → Int) (y : Nat) : ∀ n, y ≤ n → S (n + 1) f = S n (delF f y) + f y
  | 0, h => by obtain rfl : y = 0 := by omega
               rw [S, S, S]
  | n + 1, h => by
    by_cases e : y = n + 1
    · subst e
      rw [S, S_congr (n + 1) (f := f) (g := delF f (n + 1)) (fun i hi => by rw [delF, if_pos hi])]
    · rw [S, S_del f y n (by omega), S, delF, if_neg (by omega)]; omega
theorem erase_getD (r : List Int) (y i : Nat) : (r.eraseIdx y).getD i 0 = delF (fun i => r.getD i 0) y i := by
  unfold delF
  simp only [List.getD_eq_getElem?_getD, List.getElem?_eraseIdx]
  split <;> rfl
/-- An image without its row y. -/
theorem img_del {r c : List Int} {m : Nat → Nat → Int} {y : Nat} (hy : y < r.length) : ImgF r c m ↔ RowOf c.length (r.getD y 0) (tabL c.length (m y)) ∧ ImgF (r.eraseIdx y) (subL c (tabL c.length (m y))) (delF m y) := by
  have hl : (r.eraseIdx y).length = r.length - 1 := List.length_eraseIdx_of_lt hy
  obtain ⟨n, hn⟩ : ∃ n, r.length = n + 1 := ⟨r.length - 1, by omega⟩
  have hcol : ∀ x, S r.length (fun i => m i x) = S n (fun i => delF m y i x) + m y x := fun x => by
    rw [hn, S_del (fun i => m i x) y n (by omega)]
    congr 1
    exact S_congr _ fun i _ => by unfold delF; split <;> rfl
  constructor
  · intro h
    refine ⟨?_, fun i x hi hx => ?_, fun i hi => ?_, fun x hx => ?_⟩
    · have := rowOf_tab (n := c.length) (f := m y) fun x hx => h.cell y x hy hx
      rw [h.row y hy] at this; exact this
    · rw [subL_len] at hx
      unfold delF
      split
      · exact h.cell i x (by omega) hx
      · exact h.cell (i + 1) x (by omega) hx
    · rw [subL_len, erase_getD]
      unfold delF
      split
      · exact h.row i (by omega)
      · exact h.row (i + 1) (by omega)
    · rw [subL_len] at hx
      have := h.col x hx
      rw [hcol] at this
      rw [subL_getD hx, tabL_getD hx, hl, hn, Nat.add_sub_cancel]; omega
  · rintro ⟨h0, h1⟩
    have hcell : ∀ i, i < r.length → i ≠ y → ∃ j, j < (r.eraseIdx y).length ∧ m i = delF m y j ∧ r.getD i 0 = (r.eraseIdx y).getD j 0 := fun i hi hne => by
      by_cases e : i < y
      · exact ⟨i, by omega, by rw [delF, if_pos e], by rw [erase_getD, delF, if_pos e]⟩
      · refine ⟨i - 1, by omega, by rw [delF, if_neg (by omega), show i - 1 + 1 = i by omega], by rw [erase_getD, delF, if_neg (by omega), show i - 1 + 1 = i by omega]⟩
    refine ⟨fun i x hi hx => ?_, fun i hi => ?_, fun x hx => ?_⟩
    · by_cases e : i = y
      · subst e; have := rowOf_cell h0 hx; rwa [tabL_getD hx] at this
      · obtain ⟨j, hj, hm, -⟩ := hcell i hi e
        rw [hm]; exact h1.cell j x hj (by rw [subL_len]; exact hx)
    · by_cases e : i = y
      · subst e
        have := h0.2.2
        rw [sum_S, tabL_len] at this
        rw [← this]; exact S_congr _ fun x hx => (tabL_getD hx).symm
      · obtain ⟨j, hj, hm, hrj⟩ := hcell i hi e
        have := h1.row j hj
        rw [subL_len] at this
        rw [hm, hrj]; exact this
    · have := h1.col x (by rw [subL_len]; exact hx)
      rw [subL_getD hx, tabL_getD hx, hl, hn, Nat.add_sub_cancel] at this
      rw [hcol]; omega
/-- What can stand in row y. -/
def rowsAtL (r c : List Int) (y : Nat) : List (List Int) := (rowsLn c.length (r.getD y 0)).filter fun row => restB (r.eraseIdx y) (subL c row)
theorem rowsAt_zero (a : Int) (r c : List Int) : rowsAtL (a :: r) c 0 = firstRows a r c := rfl
/-- A cell is so in one of the images exactly if it is so in one of the rows. -/
theorem place_iff {r c : List Int} {y x : Nat} (v : Int) (hr : r.length ≤ 5) (hc : 1 ≤ c.length ∧ c.length ≤ 5) (hy : y < r.length) (h : HasImg r c) :
    ((allL r c).any fun m => (m.getD y []).getD x 0 == v) = (rowsAtL r c y).any fun row => row.getD x 0 == v := by
  have hc' : ∀ row, 1 ≤ (subL c row).length ∧ (subL c row).length ≤ 5 := fun row => by rw [subL_len]; exact hc
  have hl : (r.eraseIdx y).length ≤ 5 := by rw [List.length_eraseIdx_of_lt hy]; omega
  rw [Bool.eq_iff_iff, List.any_eq_true, List.any_eq_true]
  constructor
  · rintro ⟨m, hm, hv⟩
    obtain ⟨h1, h2, h3⟩ := all_sound r c hr hc h m hm
    obtain ⟨g1, g2⟩ := (img_del hy).1 h3
    have he : m.getD y [] = tabL c.length fun x => (m.getD y []).getD x 0 := by
      have : (m.getD y []).length = c.length := h2 _ (by rw [List.getD_eq_getElem?_getD, List.getElem?_eq_getElem (by omega), Option.getD_some]; exact List.getElem_mem _)
      rw [← this]; exact (tabL_self _).symm
    refine ⟨m.getD y [], List.mem_filter.2 ⟨(mem_rowsL _ _ _).2 (by rw [he]; exact g1), (restB_iff hl (hc' _)).2 ?_⟩, hv⟩
    rw [he]; exact ⟨_, g2⟩
  · rintro ⟨row, hrow, hv⟩
    obtain ⟨g1, g2⟩ := List.mem_filter.1 hrow
    have hR := (mem_rowsL _ _ _).1 g1
    obtain ⟨m', hm'⟩ := (restB_iff hl (hc' _)).1 g2
    let m : Nat → Nat → Int := fun i x => if i < y then m' i x else if i = y then row.getD x 0 else m' (i - 1) x
    have e1 : tabL c.length (m y) = row := by
      rw [show m y = fun x => row.getD x 0 from funext fun x => by simp [m]]
      exact (rowOf_self hR).symm
    have e2 : ∀ i, delF m y i = m' i := fun i => by
      unfold delF
      funext x
      split
      · rename_i hi; simp [m, hi]
      · rename_i hi; simp only [m]; rw [if_neg (by omega), if_neg (by omega), Nat.add_sub_cancel]
    have hI : ImgF r c m := (img_del hy).2 ⟨by rw [e1]; exact hR, by rw [e1, show delF m y = m' from funext e2]; exact hm'⟩
    refine ⟨listF r.length c.length m, all_complete r c hr hc m hI, ?_⟩
    have : (listF r.length c.length m).getD y [] = row := by
      rw [List.getD_eq_getElem?_getD]
      simp only [listF, List.getElem?_map, List.getElem?_range hy, Option.map_some, Option.getD_some, e1]
    rw [this]; exact hv
end Go.Proofs.YtldbgkmgmhlbiaaGreat
/-
  l05Rows of the model: all rows of so many cells with so many black ones.
-/
namespace Go.Proofs.YtldbgkmgmhlbiaaGreat
open Go.RowKit

/-- The rows whose first cell is k, .. is less than k. -/
def rowsPart (n : Nat) (s : Int) (k : Nat) : List (List Int) := if (k : Int) ≤ s then (rowsLn n (s - k)).map ((k : Int) :: ·) else []
def rowsParts (n : Nat) (s : Int) : Nat → List (List Int)
  | 0 => []
  | k + 1 => rowsParts n s k ++ rowsPart n s k
theorem rowsParts_two (n : Nat) (s : Int) : rowsParts n s 2 = rowsLn (n + 1) s := by
  simp only [rowsParts, rowsPart, rowsLn, List.nil_append]
  simp
theorem rowsL_len : ∀ (n : Nat) (s : Int), (rowsLn n s).length ≤ 2 ^ n
  | 0, s => by unfold rowsLn; split <;> simp
  | n + 1, s => by
    unfold rowsLn
    have h1 := rowsL_len n s
    have h2 := rowsL_len n (s - 1)
    rw [List.length_append, Nat.pow_succ]
    split <;> split <;> simp <;> omega
theorem rowsL_small (n : Nat) (s : Int) (hn : n ≤ 5) : (rowsLn n s).length ≤ 32 :=
  Nat.le_trans (rowsL_len n s) (Nat.le_trans (Nat.pow_le_pow_right (by decide) hn) (by decide))
theorem rowsParts_len (n : Nat) (s : Int) (hn : n ≤ 5) : ∀ k, (rowsParts n s k).length ≤ 32 * k
  | 0 => Nat.le_refl _
  | k + 1 => by
    rw [rowsParts, List.length_append]
    have h1 := rowsParts_len n s hn k
    have h2 : (rowsPart n s k).length ≤ 32 := by
      unfold rowsPart
      split
      · rw [List.length_map]; exact rowsL_small n _ hn
      · simp
    omega
theorem map_take_succ {α β : Type} (f : α → β) (l : List α) (j : Nat) (h : j < l.length) (P : List β) : P ++ (l.take (j + 1)).map f = (P ++ (l.take j).map f) ++ [f l[j]] := by
  rw [List.take_succ_eq_append_getElem h, List.map_append, List.append_assoc]; rfl

set_option maxHeartbeats 400000 in
theorem specRows_zero (s : Int) (w : World) : Calls Tryz.prog 90 #[.int .i64 0, .int .i64 s] w (MatRes (rowsLn 0 s) w) := by
  unfold rowsLn
  by_cases h : s = 0
  · subst h
    rw [if_pos rfl]
    go_enter Tryz.func90, Tryz.ntmps90
    go_wp2
    go_ret
    have h1 := (Below.refl w.heap.size w).alloc (Nat.le_refl _) (.cells #[] 3)
    have h2 : ((w.alloc (.cells #[] 3)).alloc (.cells #[.slice (some ⟨w.heap.size, 0, none⟩) 0 0] 27)).ownsRow w.heap.size 27 1 (.slice (some ⟨w.heap.size + 1, 0, none⟩) 1 1) 1 [.slice (some ⟨w.heap.size, 0, none⟩) 0 0] := by
      have := World.ownsRow_lit (e := 27) (size := 1) (base := w.heap.size) (w.alloc (.cells #[] 3)) #[.slice (some ⟨w.heap.size, 0, none⟩) 0 0] 1 (by simp) (by decide) rfl
      rwa [World.size_alloc] at this
    refine ⟨_, rfl, ⟨[.slice (some ⟨w.heap.size, 0, none⟩) 0 0], h2, ?_, fun i hi => ?_, fun i j hij hj => ?_⟩, h1.alloc (by simp) _⟩
    · intro k e
      simp [Value.ownBlock] at e
      simp; omega
    · obtain rfl : i = 0 := by simp at hi; exact hi
      refine ⟨own_below (World.ownsRow_made (base := w.heap.size) w #[] 0 (Nat.le_refl _) (Nat.zero_le _) rfl) ((Below.refl _ _).alloc (Nat.le_refl _) _), fun k e => ?_⟩
      simp [Value.ownBlock] at e
      simp; omega
    · simp at hj; omega
  · rw [if_neg h]
    have hs : (s == 0) = false := beq_eq_false_iff_ne.2 h
    go_enter Tryz.func90, Tryz.ntmps90
    go_wp2
    go_ret
    exact matRes_nil (Below.refl _ _)
set_option maxRecDepth 100000 in
set_option maxHeartbeats 4000000 in
theorem specRows_succ (n : Nat) (s : Int) (w : World) (hn : n + 1 ≤ 5) (hs : -1000 ≤ s ∧ s ≤ 1000)
    (ih : ∀ (s : Int) (w : World), (-1000 ≤ s ∧ s ≤ 1000) → Calls Tryz.prog 90 #[.int .i64 n, .int .i64 s] w (MatRes (rowsLn n s) w)) :
    Calls Tryz.prog 90 #[.int .i64 (n + 1 : Nat), .int .i64 s] w (MatRes (rowsLn (n + 1) s) w) := by
  rw [← rowsParts_two]
  have HIH : Hid (∀ (k : Nat) (w : World), (k : Int) ≤ s → k < 2 → Calls Tryz.prog 90 #[.int .i64 (((n + 1 : Nat) : Int) - 1), .int .i64 (s - k)] w (MatRes (rowsLn n (s - k)) w)) := hide fun k w h1 h2 => by
    rw [show (((n + 1 : Nat) : Int) - 1) = (n : Int) by omega]
    exact ih (s - k) w (by omega)
  have HPL := hide fun k => rowsParts_len n s (by omega) k
  have HSM := hide fun s => rowsL_small n s (by omega)
  have HP : Hid (∀ k : Nat, (k : Int) ≤ s → rowsParts n s k ++ (rowsLn n (s - k)).map ((k : Int) :: ·) = rowsParts n s (k + 1)) := hide fun k h => by rw [rowsParts, rowsPart, if_pos h]
  have HQ : Hid (∀ k : Nat, ¬ (k : Int) ≤ s → rowsParts n s (k + 1) = rowsParts n s k) := hide fun k h => by rw [rowsParts, rowsPart, if_neg h, List.append_nil]
  have HRL : Hid (∀ (s : Int) (r : List Int), r ∈ rowsLn n s → r.length = n) := hide fun s r h => ((mem_rowsL _ _ _).1 h).1
  obtain ⟨N, hN⟩ : ∃ N, N = n + 1 := ⟨_, rfl⟩
  have hN1 : 1 ≤ N := by omega
  have hN5 : N ≤ 5 := by omega
  have hN0 : ((N : Int) == 0) = false := beq_eq_false_iff_ne.2 (by omega)
  rw [← hN] at HIH ⊢
  obtain ⟨hs1, hs2⟩ := hs
  have HNN : Hid (n ≤ 5) := hide (by omega)
  clear ih hN hn
  go_enter Tryz.func90, Tryz.ntmps90
  go_wp2
  go_loopw [5, 6] (fun o x w' => ∃ (k : Nat) (v : Value), k ≤ 2 ∧ x = .int .i64 k ∧ v = o ∧ OwnMat w' w.heap.size w'.heap.size v (rowsParts n s k) ∧ Below w.heap.size w w') (fun _ x _ => 2 - (intOf x).toNat)
  case atStart => exact ⟨0, _, Nat.zero_le _, rfl, rfl, ⟨[], World.ownsRow_made (base := w.heap.size) w #[] 0 (Nat.le_refl _) (Nat.zero_le _) rfl, (fun k e => by simp [Value.ownBlock] at e; subst e; simp), (fun i h => absurd h (Nat.not_lt_zero _)), fun i j _ h => absurd h (Nat.not_lt_zero _)⟩, (Below.refl _ _).alloc (Nat.le_refl _) _⟩
  case round =>
    obtain ⟨k, v, hk, rfl, rfl, hown, hb⟩ := hrel
    have HO := hide hown; have HB := hide hb
    clear hown hb
    by_cases hlt : k < 2
    · have hltI : (k : Int) < 2 := by omega
      by_cases hge : (k : Int) ≤ s
      · have hsz := HB.out.size
        have HREC := hide (HIH.out k wr hge hlt)
        have HPK := hide (HP.out k hge)
        have HLL := hide (HSM.out (s - k))
        have HRLK := hide (HRL.out (s - k))
        have HPL2 := hide (HPL.out k)
        obtain ⟨L, hL⟩ : ∃ L, L = rowsLn n (s - k) := ⟨_, rfl⟩
        rw [← hL] at HREC HPK HLL HRLK
        obtain ⟨B1, hB1⟩ : ∃ B1, B1 = wr.heap.size := ⟨_, rfl⟩
        have HB1 := hide hB1
        clear hL
        go_wp2_with fail
        refine HREC.out.mono ?_
        rintro e w4 ⟨u, rfl, hu, hb4⟩
        rw [← hB1] at hu hsz
        obtain ⟨xu, cu, rfl⟩ : ∃ a c, u = .slice a L.length c := by obtain ⟨a, c, rfl, -⟩ := inMat_own hu; exact ⟨a, c, rfl⟩
        have HU := hide hu
        have HO4 := hide (ownMat_mono (ownMat_below HO.out hb4) (Nat.le_refl _) hb4.size)
        have HB4 := hide (HB.out.trans (hb4.mono (by omega)))
        have HV4 : Hid (∀ q, v.ownBlock = some q → q < B1 ∨ w4.heap.size ≤ q) := hide fun q hq => by
          obtain ⟨vs, -, hh, -⟩ := HO.out
          have := hh q hq; omega
        have hs4 := hb4.size
        rw [← hB1] at hs4
        obtain ⟨B2, hB2⟩ : ∃ B2, B2 = w4.heap.size := ⟨_, rfl⟩
        rw [← hB2] at HU HV4 hs4
        have HOL : Hid (OwnMat w4 w.heap.size w4.heap.size v (rowsParts n s k ++ (L.take 0).map ((k : Int) :: ·))) := hide (by simpa using HO4.out)
        obtain ⟨LL, hLL⟩ : ∃ LL, LL = L.length := ⟨_, rfl⟩
        have HLE := hide hLL
        rw [← hLL] at HU HLL ⊢
        have HS4 := hide hs4
        have HB2 := hide (Nat.le_of_eq hB2)
        clear hu hb4 hB1 hB2 hLL HO HO4 HREC HB hs4
        go_wp2
        go_loopw [5, 30] (fun o i w' => ∃ (j : Nat) (v : Value), j ≤ LL ∧ i = .int .i64 j ∧ v = o ∧ OwnMat w' w.heap.size w'.heap.size v (rowsParts n s k ++ (L.take j).map ((k : Int) :: ·)) ∧ OwnMat w' B1 B2 (.slice xu LL cu) L ∧ (∀ q, v.ownBlock = some q → q < B1 ∨ B2 ≤ q) ∧ B2 ≤ w'.heap.size ∧ Below w.heap.size w w') (fun _ i _ => LL - (intOf i).toNat)
        case atStart => exact ⟨0, _, Nat.zero_le _, rfl, rfl, HOL.out, HU.out, HV4.out, HB2.out, HB4.out⟩
        case round =>
          clear HOL HU HV4 HB4 HB2
          obtain ⟨j, v, hj, rfl, rfl, hown, hol, hvq, hb2, hb⟩ := hrel
          have HO := hide hown; have HOL := hide hol; have HVQ := hide hvq; have HB2 := hide hb2; have HB := hide hb
          clear hown hvq hb2 hb
          by_cases hltj : j < LL
          · have hjl : j < L.length := by rw [← HLE.out]; exact hltj
            have hltI2 : (j : Int) < LL := by omega
            have hLL32 : LL ≤ 32 := HLL.out
            have HSTEP := hide (map_take_succ (fun x => (k : Int) :: x) L j hjl (rowsParts n s k))
            have HRN := hide (HRLK.out L[j] (List.getElem_mem hjl))
            obtain ⟨M, hM⟩ : ∃ M, M = rowsParts n s k ++ (L.take j).map ((k : Int) :: ·) := ⟨_, rfl⟩
            have HML : Hid (M.length ≤ 1000) := hide (by
              rw [hM, List.length_append, List.length_map, List.length_take]
              have := HPL2.out; have := HLL.out; omega)
            rw [← hM] at HO HSTEP
            obtain ⟨vs, hv, -, hr, -⟩ := hol
            rw [← HLE.out] at hv
            obtain ⟨gu, cu', he, -, -, -, -, -, -⟩ := own_some hv (by omega)
            cases he
            have hx := cell_held hv hltj
            have hrow := hr j hjl
            obtain ⟨row, hrw⟩ : ∃ row, row = L[j] := ⟨_, rfl⟩
            obtain ⟨uj, huj⟩ : ∃ uj, uj = vs.getD j undef := ⟨_, rfl⟩
            rw [← hrw] at HSTEP HRN hrow
            rw [← huj] at hx hrow
            obtain ⟨xr, cr, he⟩ := own_slice hrow.1
            rw [HRN.out] at he
            have HROW := hide hrow.1
            have hML := HML.out; have hNN := HNN.out
            have hsz := HB.out.size
            have hbb := HB2.out
            clear hv hr hrw huj hM hrow
            subst he
            have HX : Hid ((wr.alloc (.cells #[.int .i64 k] 3)).ownsRow wr.heap.size 3 1 (.slice (some ⟨wr.heap.size, 0, none⟩) 1 1) 1 [.int .i64 k]) := hide (World.ownsRow_lit (e := 3) (size := 1) (base := wr.heap.size) wr #[.int .i64 k] 1 (Nat.le_refl _) (by decide) rfl)
            have HAL := hide ((Below.refl wr.heap.size wr).alloc (Nat.le_refl _) (.cells #[.int .i64 k] 3))
            have HSA : Hid ((wr.alloc (.cells #[.int .i64 k] 3)).heap.size = wr.heap.size + 1) := hide (by simp)
            have HROWA := hide (own_below HROW.out HAL.out)
            have HOA := hide (ownMat_below HO.out HAL.out); have HLA := hide (ownMat_below HOL.out HAL.out)
            go_wp2_with (first | (refine wpList_appendOwn 38 rfl HX.out row HROWA.out (.int .i64 0) rfl _ _ rfl Tryz.underlying27 Tryz.infoInt rfl (by decide) rfl rfl (by rw [HRN.out]; omega) (by rw [HSA.out]; omega) ?_; intro u2 w2 hu2 hb2 hg2; rw [Nat.add_comm 1 row.length] at hu2; obtain ⟨ua, uc, rfl⟩ := own_slice hu2; have HU2 := hide hu2; have O2 := hide (ownMat_grown HOA.out hg2 fun q e => by simp [Value.ownBlock] at e; omega); have L2 := hide (ownMat_grown HLA.out hg2 fun q e => by simp [Value.ownBlock] at e; omega); have B2' := hide ((HB.out.trans (HAL.out.mono hsz)).trans (hb2.mono hsz)); have hs2 := hb2.size; rw [HSA.out] at hs2; clear hu2 hb2 hg2; obtain ⟨vs, hv, hvh, hvr, hva⟩ := O2.out; have HV := hide hv; have HVR := hide hvr; have HVA := hide hva; clear hv hvh hvr hva) | (at_builtin; refine wpList_pushl HV.out (.slice ua (row.length + 1) uc) (.slice none 0 0) rfl _ _ rfl Tryz.underlying23 Tryz.infoInts rfl (by decide) rfl rfl rfl (by omega) (by omega) ?_; intro g1 cap1 w6 hown1 hb1 hg1 hat1))
            go_roundw
            case rel =>
              have hs6 := hb1.size
              have hints : ([Value.int .i64 k] ++ ints row) = ints ((k : Int) :: row) := rfl
              have hp := ownMat_push (w := w2) (r := (k : Int) :: row) (hi := wr.heap.size) (hi' := w6.heap.size) HVR.out HVA.out HV.out (by rw [List.length_cons, ← hints]; exact HU2.out) hsz (by omega) (by omega) hg1 hown1 (fun q e => (hown1.lt q e).2)
              rw [← HSTEP.out] at hp
              refine ⟨j + 1, _, by omega, by go_num, rfl, hp, ownMat_grown L2.out hg1 HVQ.out, fun q e => ?_, by omega, B2'.out.trans (hb1.mono (by omega))⟩
              rcases hat1 with h1 | h1
              · simp [Value.ownBlock] at e
                subst e
                exact HVQ.out _ h1
              · simp [Value.ownBlock] at e; omega
            case measure => simp [intOf]; omega
          · obtain rfl : j = LL := by omega
            have HFIN : Hid (rowsParts n s k ++ (L.take j).map ((k : Int) :: ·) = rowsParts n s (k + 1)) := hide (by rw [HLE.out, List.take_length]; exact HPK.out)
            rw [HFIN.out] at HO
            clear hol
            go_wp2
            go_roundw
            case rel => exact ⟨k + 1, _, by omega, by go_num, rfl, HO.out, HB.out⟩
            case measure => simp [intOf]; omega
      · have HQK := hide (HQ.out k (by omega))
        go_wp2
        go_roundw
        case rel => exact ⟨k + 1, _, by omega, by go_num, rfl, by rw [HQK.out]; exact HO.out, HB.out⟩
        case measure => simp [intOf]; omega
    · obtain rfl : k = 2 := by omega
      go_wp2
      go_ret
      exact ⟨_, rfl, HO.out, HB.out⟩
theorem specRows_any : ∀ (n : Nat) (s : Int) (w : World), n ≤ 5 → (-1000 ≤ s ∧ s ≤ 1000) → Calls Tryz.prog 90 #[.int .i64 n, .int .i64 s] w (MatRes (rowsLn n s) w)
  | 0, s, w, _, _ => specRows_zero s w
  | n + 1, s, w, hn, hs => specRows_succ n s w hn hs fun s w h => specRows_any n s w (by omega) h
end Go.Proofs.YtldbgkmgmhlbiaaGreat
/-
  Contracts of the library, at this translation: laid by the shelf, in plain declarations.
-/
namespace Go.Proofs
open Go.Shelf Go.RowKit Go.Lib
def Tryz.laysNm215_ren : Go.Shelf.Ren := ⟨fun | 15 => 103 | n => n, fun | 22 => 27 | 3 => 3 | 4 => 4 | n => n, fun | n => n⟩
theorem Tryz.laysNm215 : Go.Proofs.Lays2.n15 Tryz.prog Tryz.laysNm215_ren := {
  mixed := by kernel_rfl
  f15 := Tryz.func103.trans (congrArg some (by kernel_rfl))
  t3 := Tryz.underlying3
  a3 := Tryz.isAgg3
  z3 := Tryz.sizeOf3
  v3 := Tryz.zeroValue3
  t4 := Tryz.underlying4
  a4 := Tryz.isAgg4
  z4 := Tryz.sizeOf4
  v4 := Tryz.zeroValue4
  t22 := Tryz.underlying27
  a22 := Tryz.isAgg27
  z22 := Tryz.sizeOf27
  v22 := Tryz.zeroValue27
  i3 := by kernel_rfl }
theorem Tryz.slices_Clone_int (b off n c : Nat) (zs : List Int) (w : World) (hz : n ≤ zs.length) (hbig : n * 8 ≤ 140737488355328) (hc : ∀ j, j < zs.length → w.cell? ⟨b, off + j, none⟩ = some (.int .i64 (zs.getD j 0))) :
    Calls Tryz.prog 103 #[.slice (some ⟨b, off, none⟩) n c] w fun e w' => ∃ v', e = .returned v' ∧ w'.ownsRow w.heap.size 3 1 v' n ((zs.take n).map (Value.int .i64)) ∧ v' ≠ .slice none 0 0 ∧ Below w.heap.size w w' := Any.slices_Clone_int Tryz.laysNm215 b off n c zs w hz hbig hc
theorem Tryz.slices_Clone_int_nil (n c : Nat) (w : World) :
    Calls Tryz.prog 103 #[.slice none n c] w fun e w' => e = .returned (.slice none 0 0) ∧ w' = w := Any.slices_Clone_int_nil Tryz.laysNm215 n c w
theorem Tryz.slices_Clone_int_zero (a : Addr) (c : Nat) (w : World) :
    Calls Tryz.prog 103 #[.slice (some a) 0 c] w fun e w' => ∃ v', e = .returned v' ∧ w'.ownsRow w.heap.size 3 1 v' 0 [] ∧ v' ≠ .slice none 0 0 ∧ Below w.heap.size w w' := Any.slices_Clone_int_zero Tryz.laysNm215 a c w
end Go.Proofs
/-
  slices.Clone at integers; sumsWithout of the program; slices with their capacity.
-/
namespace Go.Proofs.YtldbgkmgmhlbiaaGreat
open Go.RowKit

theorem clone_any (v : Value) (r : List Int) (w : World) (hin : InRow w v r) (hn : r.length ≤ 2000000) :
    Calls Tryz.prog 103 #[v] w (IntsRes r w) := by
  obtain ⟨a, c, rfl, hm, hp⟩ := hin
  by_cases h0 : r.length = 0
  · obtain rfl : r = [] := List.eq_nil_of_length_eq_zero h0
    cases a with
    | none =>
      refine (Tryz.slices_Clone_int_nil 0 c w).mono ?_
      rintro e w' ⟨rfl, rfl⟩
      exact intsRes_nil (Below.refl _ _)
    | some x =>
      refine (Tryz.slices_Clone_int_zero x c w).mono ?_
      rintro e w' ⟨v', rfl, ho, -, hb⟩
      exact ⟨v', rfl, ho, hb⟩
  · obtain ⟨g, o, rfl, -, hc⟩ := hp.resolve_left h0
    refine (Tryz.slices_Clone_int g o r.length c r w (Nat.le_refl _) (by omega) (fun j hj => ?_)).mono ?_
    · rw [hc j hj, List.getD_eq_getElem?_getD, List.getElem?_eq_getElem hj]; rfl
    rintro e w' ⟨v', rfl, ho, -, hb⟩
    rw [List.take_length] at ho
    exact ⟨v', rfl, ho, hb⟩
/-- What has been left behind k cells of the row. -/
def subF (c row : List Int) (k x : Nat) : Int := c.getD x 0 - if x < k then row.getD x 0 else 0
theorem subF_zero (c row : List Int) : tabL c.length (subF c row 0) = c := by
  rw [show tabL c.length (subF c row 0) = tabL c.length (fun x => c.getD x 0) from tabL_congr fun i _ => by rw [subF, if_neg (Nat.not_lt_zero _)]; simp]
  exact tabL_self c
theorem subF_all (c row : List Int) (k : Nat) (h : c.length ≤ k) : tabL c.length (subF c row k) = subL c row :=
  tabL_congr fun i hi => by rw [subF, if_pos (by omega)]
set_option maxHeartbeats 1000000 in
theorem sumsWithout_any (vc vr : Value) (c row : List Int) (w : World) (hc : InRow w vc c) (hr : InRow w vr row) (hl : row.length = c.length) (hn : c.length ≤ 5) (hM : ∀ x, x < c.length → -1000 ≤ c.getD x 0 ∧ c.getD x 0 ≤ 1000) (hR : ∀ x, x < c.length → -1000 ≤ row.getD x 0 ∧ row.getD x 0 ≤ 1000) :
    Calls Tryz.prog 114 #[vc, vr] w (IntsRes (subL c row) w) := by
  have HCL := hide (clone_any vc c w hc (by omega))
  have HM := hide hM; have HRR := hide hR
  obtain ⟨a, ca, rfl, hm, hp⟩ := hr
  unfold maxLen at hm
  have HP := hide fun h : row.length ≠ 0 => hp.resolve_left h
  have HZ := hide (subF_zero c row); have HA := hide (subF_all c row)
  have HX : Hid (∀ x, (h : x < row.length) → row.getD x 0 = row[x]) := hide fun x h => by rw [List.getD_eq_getElem?_getD, List.getElem?_eq_getElem h]; rfl
  rw [hl] at hm ⊢
  have HLL : Hid (row.length = c.length) := hide hl
  obtain ⟨C, hC⟩ : ∃ C, C = c.length := ⟨_, rfl⟩
  have HC := hide hC
  rw [← hC] at HZ HA hm hn HM HRR HLL ⊢
  clear hc hM hR hp hC hl
  go_enter Tryz.func114, Tryz.ntmps114
  go_wp2_with fail
  refine HCL.out.mono ?_
  rintro e w1 ⟨v1, rfl, ho, hb⟩
  rw [← HC.out] at ho
  obtain ⟨xa, xc, rfl⟩ := own_slice ho
  have HO := hide ho; have HB := hide hb
  clear ho hb
  go_wp2
  go_loopw [12] (fun i w' => ∃ k : Nat, k ≤ C ∧ i = .int .i64 k ∧ w'.ownsRow w.heap.size 3 1 (.slice xa C xc) C (ints (tabL C (subF c row k))) ∧ Below w.heap.size w w') (fun i _ => C - (intOf i).toNat)
  case atStart => exact ⟨0, Nat.zero_le _, rfl, by rw [HZ.out]; exact HO.out, HB.out⟩
  case round =>
    clear HO HB
    obtain ⟨k, hk, rfl, hown, hb⟩ := hrel
    have HO := hide hown; have HB := hide hb
    clear hb
    by_cases hlt : k < C
    · have hkr : k < row.length := by rw [HLL.out]; exact hlt
      obtain ⟨g, o, rfl, hg, hcell⟩ := HP.out (by omega)
      obtain ⟨g1, c1, he, hb1, -, -, -, -, -⟩ := own_some hown (by omega)
      cases he
      have hx := below_cell HB.out hg (hcell k hkr)
      rw [← HX.out k hkr] at hx
      have hc1 := cell_held HO.out hlt
      rw [tabL_held hlt, subF, if_neg (Nat.lt_irrefl k), Int.sub_zero] at hc1
      have hf := HO.out.frozenAt k
      have hm1 := HM.out k hlt
      have hm2 := HRR.out k hlt
      have HS := HO.out.stored k (.int .i64 (c.getD k 0 - row.getD k 0))
      rw [ints_set, tabL_set] at HS
      rw [show (tabL C fun t => if t = k then c.getD k 0 - row.getD k 0 else subF c row k t) = tabL C (subF c row (k + 1)) from tabL_congr fun i _ => by
        unfold subF
        by_cases e : i = k
        · subst e; rw [if_pos rfl, if_pos (Nat.lt_succ_self _)]
        · rw [if_neg e]
          by_cases e' : i < k
          · rw [if_pos e', if_pos (by omega)]
          · rw [if_neg e', if_neg (by omega)]] at HS
      have HS := hide HS
      obtain ⟨x1, hx1⟩ : ∃ x1, x1 = c.getD k 0 := ⟨_, rfl⟩
      obtain ⟨x2, hx2⟩ : ∃ x2, x2 = row.getD k 0 := ⟨_, rfl⟩
      rw [← hx1] at hc1 hm1 HS
      rw [← hx2] at hx hm2 HS
      obtain ⟨hm11, hm12⟩ := hm1
      obtain ⟨hm21, hm22⟩ := hm2
      clear hx1 hx2 hown hcell
      go_wp2
      go_roundw
      case rel => exact ⟨k + 1, by omega, by go_num, HS.out.1, HB.out.setCell hb1 _⟩
      case measure => simp [intOf]; omega
    · obtain rfl : k = C := by omega
      have HF := hide (HA.out k (Nat.le_refl _))
      rw [HF.out] at HO
      clear hown
      go_wp2
      go_ret
      exact ⟨_, rfl, by rw [subL_len, ← HC.out]; exact HO.out, HB.out⟩

/-- The slice reads as r, and its capacity is no less than its length. -/
def RowC (w : World) (v : Value) (r : List Int) : Prop := InRow w v r ∧ ∃ a c, v = .slice a r.length c ∧ r.length ≤ c ∧ c ≤ maxLen
theorem rowC_below {w w' : World} {v : Value} {r : List Int} (h : RowC w v r) (hb : Below w.heap.size w w') : RowC w' v r := ⟨inRow_below h.1 hb, h.2⟩
theorem rowC_own {w : World} {base : Nat} {v : Value} {r : List Int} (h : w.ownsRow base 3 1 v r.length (ints r)) : RowC w v r := by
  refine ⟨inRow_own h, ?_⟩
  rcases h.2 with ⟨rfl, h0⟩ | ⟨g, cap, cur, rfl, hbg, hg, hc, hm, _⟩
  · exact ⟨none, 0, by rw [h0], by omega, Nat.zero_le _⟩
  · exact ⟨_, _, rfl, hc, hm⟩
theorem rowC_tail {w : World} {g o n c : Nat} {x : Int} {r : List Int} (h : RowC w (.slice (some ⟨g, o, none⟩) n c) (x :: r)) : RowC w (.slice (if c = 1 then some ⟨g, o, none⟩ else some ⟨g, o + 1, none⟩) (n - 1) (c - 1)) r := by
  obtain ⟨⟨a, c', he, hm, hp⟩, a2, c2, he2, hl, hmx⟩ := h
  cases he; cases he2
  simp only [List.length_cons, Nat.add_sub_cancel] at hl hm ⊢
  refine ⟨⟨_, _, rfl, by omega, ?_⟩, _, _, rfl, by omega, by omega⟩
  obtain ⟨g', o', he', hg, hc⟩ := hp.resolve_left (by simp)
  cases he'
  by_cases h0 : r.length = 0
  · exact .inl h0
  · rw [if_neg (by omega)]
    refine .inr ⟨g, o + 1, rfl, hg, fun i hi => ?_⟩
    have := hc (i + 1) (by simp; omega)
    rw [List.getElem_cons_succ] at this
    rw [← this, show o + (i + 1) = o + 1 + i by omega]
end Go.Proofs.YtldbgkmgmhlbiaaGreat
/-
  imageBy of the program: rows continued by a function that calls itself through a variable.
-/
namespace Go.Proofs.YtldbgkmgmhlbiaaGreat
open Go.RowKit Go.Shelf

/-- A call of a function value that a slot holds. -/
theorem run_callv {P : Program} {Q : Exit → Act → World → Prop} {o : Oper} {a : Act} {w : World} {K : Act → World → Prop} {f : FuncId} {cb : Array Value} {x : Operand} {xs : Array Operand} {ts : Array TypeId} (ho : o.op = .call { callee := .value x, args := xs, argTypes := ts })
    (hx : a.eval x = .func (.func f) #[] cb) (eg : ∀ args w, (callFunc f args).run P w = .ok (.enter f args) w) (args : Array Value) (hxs : xs.map a.eval = args) (h : Calls P f (args ++ cb) w fun e w' => ∃ v, e = .returned v ∧ K (a.put o.dst v) w') : o.wp P a w K Q := by
  subst hxs
  unfold Oper.wp
  simp only [execOp, ho, resolve, hx, Deferred.ofValue]
  simp [invoke, eg, Oper.upon]
  refine Calls.mono h ?_
  rintro e w' ⟨v, rfl, hk⟩
  exact hk

/-- 'append([][]int{row}, rest...)'. -/
theorem exec_consMat {ρ : Operand → Value} {o : Oper} {w : World} {x y : Operand} {b lo0 hi0 lo hi : Nat} {v2 urow : Value} {row : List Int} {m2 : List (List Int)}
    (ho : o.op = .call { callee := .builtin .append, args := #[x, y], argTypes := #[23, 23] }) (hx : ρ x = .slice (some ⟨b, 0, none⟩) 1 1) (hy : ρ y = v2)
    (hown : w.ownsRow b 27 1 (.slice (some ⟨b, 0, none⟩) 1 1) 1 [urow]) (hrow : w.ownsRow lo0 3 1 urow row.length (ints row)) (hrk : ∀ k, urow.ownBlock = some k → k < hi0)
    (hm : OwnMat w lo hi v2 m2) (h1 : lo0 ≤ hi0) (h2 : hi0 ≤ lo) (h3 : hi0 ≤ b) (h4 : hi ≤ w.heap.size) (h5 : m2.length ≤ 1000) (h6 : b < w.heap.size) :
    ∃ v' w', (execOp ρ o).run Tryz.prog w = .ok (.value v') w' ∧ OwnMat w' lo0 w'.heap.size v' (row :: m2) ∧ w.grownBy w' (some b) := by
  obtain ⟨vs, hv, hvh, hvr, hva⟩ := hm
  have hvl : vs.length = m2.length := by have := hv.1; omega
  obtain ⟨i0, hi0', hz0, hz1, hz2⟩ := info_parts Tryz.infoInts
  have key : ∃ v' w', (Builtin.append_ #[23, 23] o.type #[.slice (some ⟨b, 0, none⟩) 1 1, v2]).run Tryz.prog w = .ok v' w' ∧ w'.ownsRow b 27 1 v' (1 + m2.length) ([urow] ++ vs) ∧ w.grownBy w' (some b) := by
    rcases hv.2 with ⟨rfl, h0⟩ | ⟨g, cap, cur, rfl, hbg, hg, hc, hmx, hcs, htk⟩
    · have hvs : vs = [] := List.eq_nil_of_length_eq_zero (by omega)
      refine ⟨_, w, run_append_owned_none (P := Tryz.prog) w b 23 o.type 27 i0 1 Tryz.underlying23 hi0' _ 1 [urow] hown, ?_, ⟨rfl, rfl, rfl, Nat.le_refl _, fun _ _ _ => rfl⟩⟩
      rw [hvs, h0]; exact hown
    · obtain ⟨v', w', hr, g1, g2, -⟩ := run_append_own (P := Tryz.prog) w b 23 o.type 27 i0 (.slice none 0 0) 1 24 Tryz.underlying23 hi0' hz0 hz1 hz2 rfl (by decide) _ 1 [urow] hown ⟨g, 0, none⟩ m2.length cap vs (by omega) (fun j u hj => by
          rw [addr_add, Nat.zero_add]
          have hj' : j < m2.length := by have := (List.getElem?_eq_some_iff.1 hj).1; omega
          rw [hv.cellAt j (by omega), hj]) (fun u hu => by
          obtain ⟨j, hj, rfl⟩ := List.getElem_of_mem hu
          obtain ⟨q1, -⟩ := hvr j (by omega)
          rw [List.getD_eq_getElem?_getD, List.getElem?_eq_getElem hj, Option.getD_some] at q1
          obtain ⟨a, c, e⟩ := own_slice q1
          rw [e]; rfl) (by unfold maxLen; omega) (by omega) (by omega)
      exact ⟨v', w', hr, g1, g2⟩
  obtain ⟨v', w', hr, g1, g2⟩ := key
  have hsz := g2.size
  have hkeep : ∀ {lo n : Nat} {u : Value} {xs : List Value}, w.ownsRow lo 3 1 u n xs → w'.ownsRow lo 3 1 u n xs := fun {lo n u xs} h => h.kept g2 (by
    have := own_types h hown (by decide)
    simpa [Value.ownBlock] using this)
  refine ⟨v', w', ?_, ⟨urow :: vs, ?_, fun k e => (g1.lt k e).2, fun i h => ?_, fun i j hij hj => ?_⟩, g2⟩
  · unfold execOp
    simp only [ho, resolve, invoke, builtin, Sem.run_bind, Sem.run_pure, Result.andThen_ok, List.map_toArray, List.map_cons, List.map_nil, hx, hy, hr]
  · have := own_base (base' := lo0) g1 (by omega)
    rw [List.length_cons, Nat.add_comm]; exact this
  · cases i with
    | zero => exact ⟨hkeep hrow, fun k hk => by have := hrk k hk; omega⟩
    | succ i =>
      have hi' : i < m2.length := by simpa using h
      obtain ⟨q1, q2⟩ := hvr i hi'
      exact ⟨own_base (hkeep q1) (by omega), fun k hk => by have := q2 k hk; omega⟩
  · cases j with
    | zero => omega
    | succ j =>
      have hj' : j < m2.length := by simpa using hj
      cases i with
      | zero =>
        show urow.ownBlock = none ∨ urow.ownBlock ≠ (vs.getD j undef).ownBlock
        cases hk : urow.ownBlock with
        | none => exact .inl rfl
        | some k =>
          refine .inr fun e => ?_
          have q1 := hrk k hk
          have q2 := ((hvr j hj').1.lt k e.symm).1
          omega
      | succ i => exact hva i j (by omega) hj'

/-- What is asked of the choice of the next row. -/
structure Choice (g : Nat) (ch : List Int → List Int → List Int) (Inv : List Int → List Int → Prop) : Prop where
  enters : ∀ args w, (callFunc g args).run Tryz.prog w = .ok (.enter g args) w
  calls : ∀ (a : Int) (r c : List Int) (vr vc : Value) (w : World), Inv (a :: r) c → RowC w vr (a :: r) → InRow w vc c → Calls Tryz.prog g #[vr, vc] w (IntsRes (ch (a :: r) c) w)
  next : ∀ (a : Int) (r c : List Int), Inv (a :: r) c → r.length ≤ 4 ∧ c.length ≤ 5 ∧ (ch (a :: r) c).length = c.length ∧ Inv r (subL c (ch (a :: r) c)) ∧ (∀ x, x < c.length → -1000 ≤ c.getD x 0 ∧ c.getD x 0 ≤ 1000) ∧ ∀ x, x < c.length → -1000 ≤ (ch (a :: r) c).getD x 0 ∧ (ch (a :: r) c).getD x 0 ≤ 1000

/-- A list of one row, made behind B. -/
def oneRow (B : Nat) (u0 : Value) : FactP := fun u w2 => ∃ b, u = .slice (some ⟨b, 0, none⟩) 1 1 ∧ B ≤ b ∧ b < w2.heap.size ∧ w2.ownsRow b 27 1 (.slice (some ⟨b, 0, none⟩) 1 1) 1 [u0]
theorem stable_oneRow (B : Nat) (u0 : Value) : StableP (oneRow B u0) := fun _ _ _ hb h => by
  obtain ⟨b, h1, h2, h3, h4⟩ := h
  exact ⟨b, h1, h2, Nat.lt_of_lt_of_le h3 hb.size, own_below h4 hb⟩
def ownI (B : Nat) (r : List Int) : FactP := fun u w2 => w2.ownsRow B 3 1 u r.length (ints r)
theorem stable_ownI (B : Nat) (r : List Int) : StableP (ownI B r) := fun _ _ _ hb h => own_below h hb
def ownM (B : Nat) (m : List (List Int)) : FactP := fun u w2 => ∃ lo hi, B ≤ lo ∧ hi ≤ w2.heap.size ∧ OwnMat w2 lo hi u m
theorem stable_ownM (B : Nat) (m : List (List Int)) : StableP (ownM B m) := fun _ _ _ hb h => by
  obtain ⟨lo, hi, h1, h2, h3⟩ := h
  exact ⟨lo, hi, h1, Nat.le_trans h2 hb.size, ownMat_below h3 hb⟩
theorem exec_build1 {ρ : Operand → Value} {o : Oper} {w : World} {x : Operand} {a : Option Addr} {n c : Nat} (ho : o.op = .buildSlice 23 1 #[(0, x)]) (hx : ρ x = .slice a n c) :
    (execOp ρ o).run Tryz.prog w = .ok (.value (.slice (some ⟨w.heap.size, 0, none⟩) 1 1)) (w.alloc (.cells #[.slice a n c] 27)) := by
  unfold execOp
  simp only [ho]
  go_simp

theorem setRow_size (w : World) (g : Nat) (cs : Array Value) : (w.setRow g cs).heap.size = w.heap.size := by simp [World.setRow]
theorem setRow_below (B : Nat) (w : World) (g : Nat) (cs : Array Value) (h : B ≤ g) : Below B w (w.setRow g cs) :=
  ⟨rfl, rfl, rfl, by rw [setRow_size]; exact Nat.le_refl _, fun k hk => setRow_other w g k cs (by omega)⟩
theorem cell_setRow_ne (w : World) (g k : Nat) (cs : Array Value) (h : k ≠ g) : (w.setRow g cs).cell? ⟨k, 0, none⟩ = w.cell? ⟨k, 0, none⟩ := by
  unfold World.cell?
  dsimp only
  rw [setRow_other w g k cs h]
end Go.Proofs.YtldbgkmgmhlbiaaGreat
/-
  l04Gap, WorstColumns, Exists, SlackOf of the model.
-/
namespace Go.Proofs.YtldbgkmgmhlbiaaGreat
open Go.RowKit

set_option maxHeartbeats 1000000 in
theorem gap_any (va vb : Value) (r c : List Int) (k : Nat) (w : World) (ha : InRow w va r) (hb : InRow w vb c) (h : sumsOk r c = true) (hk : k ≤ c.length) :
    Calls Tryz.prog 117 #[va, vb, .int .i64 k] w fun e w' => e = .returned (.int .i64 (((conjL r c.length).take k).sum - ((sortD c).take k).sum)) ∧ Below w.heap.size w w' := by
  obtain ⟨hr, hc, hrb, hcb, -⟩ := sumsOk_yes h
  have HA := hide ha; have HB := hide hb
  have HCJ := hide (conj_yes (l := r) hc hr.2 hrb)
  have HS1 := hide (small_perm (sortD_perm c) (small_of (m := r.length) hc.2 (by omega) hcb))
  have HS2 := hide (small_conj (n := c.length) hr.2 hc.2)
  have HL1 := hide (sortD_len c)
  have HL2 : Hid ((conjL r c.length).length = c.length) := hide (by rw [conjL, tabL_len])
  have HC5 := hide hc
  obtain ⟨b, cb, rfl, hmb, -⟩ := hb
  unfold maxLen at hmb
  obtain ⟨C, hC⟩ : ∃ C, C = c.length := ⟨_, rfl⟩
  have HC := hide hC
  rw [← hC] at HB HCJ HS2 HL1 HL2 HC5 hmb hk ⊢
  have hs1 := small_sum HS1.out k
  have hs2 := small_sum HS2.out k
  have HT1 := hide (small_take HS1.out k); have HT2 := hide (small_take HS2.out k)
  obtain ⟨X, hX⟩ : ∃ X, X = ((conjL r C).take k).sum := ⟨_, rfl⟩
  obtain ⟨Y, hY⟩ : ∃ Y, Y = ((sortD c).take k).sum := ⟨_, rfl⟩
  have HX := hide hX; have HY := hide hY
  rw [← hX] at hs2 ⊢
  rw [← hY] at hs1 ⊢
  obtain ⟨y1, y2⟩ := hs1
  obtain ⟨x1, x2⟩ := hs2
  clear ha h hr hc hrb hcb hC hX hY
  go_enter Tryz.func117, Tryz.ntmps117
  go_wp2_with fail
  refine (specConj_any va r (C : Int) _ HA.out).mono ?_
  rw [HCJ.out]
  rintro e w1 ⟨u1, rfl, ho, hb⟩
  obtain ⟨g1, c1, rfl, h1, h2, h3, -⟩ := rowAt_own ho (by rw [HL2.out]; exact HC5.out.1)
  have HR1 := hide (rowAt_take (rowAt_own ho (by rw [HL2.out]; exact HC5.out.1)) (show k ≤ (conjL r C).length by rw [HL2.out]; exact hk))
  have HB1 := hide hb
  rw [HL2.out] at h1 ⊢
  unfold maxLen at h2
  clear ho hb
  go_wp2_with fail
  refine (l03Total_any _ _ _ HR1.out HT2.out).mono ?_
  rw [← HX.out]
  rintro e w' ⟨rfl, rfl⟩
  go_wp2_with fail
  refine (specSortedDown_any _ c _ (inRow_below HB.out HB1.out) (by have := HC5.out; have := HC.out; omega)).mono ?_
  rintro e w2 ⟨u2, rfl, ho, hb⟩
  obtain ⟨g2, c2, rfl, h4, h5, h6, -⟩ := rowAt_own ho (by rw [HL1.out]; exact HC5.out.1)
  have HR2 := hide (rowAt_take (rowAt_own ho (by rw [HL1.out]; exact HC5.out.1)) (show k ≤ (sortD c).length by rw [HL1.out]; exact hk))
  have HB2 := hide (HB1.out.trans (hb.mono HB1.out.size))
  rw [HL1.out] at h4 ⊢
  unfold maxLen at h5
  clear ho hb
  go_wp2_with fail
  refine (l03Total_any _ _ _ HR2.out HT1.out).mono ?_
  rw [← HY.out]
  rintro e w' ⟨rfl, rfl⟩
  go_wp2
  go_ret
  exact ⟨rfl, HB2.out⟩

theorem boundsL_gap {r c : List Int} {i : Nat} (h : i < (boundsL r c).length) : ((conjL r c.length).take (i + 1)).sum - ((sortD c).take (i + 1)).sum = (boundsL r c)[i].2 - (boundsL r c)[i].1 := by
  have : (boundsL r c)[i] = _ := tabB_at h
  rw [this]
set_option maxHeartbeats 1000000 in
theorem specWorst_any (va vb : Value) (r c : List Int) (w : World) (ha : InRow w va r) (hb : InRow w vb c) :
    Calls Tryz.prog 106 #[va, vb] w fun e w' => e = .returned (.int .i64 (worstOf r c)) ∧ Below w.heap.size w w' := by
  have HA := hide ha; have HB := hide hb
  clear ha
  cases h : sumsOk r c with
  | false =>
    rw [worstOf, if_neg (by rw [h]; decide)]
    have H := hide h
    clear h hb
    go_enter Tryz.func106, Tryz.ntmps106
    go_wp2_with ((with_reducible refine (specSumsOk_any va vb r c _ HA.out HB.out).mono ?_); rw [H.out]; rintro e w1 ⟨rfl, b1⟩; have B1 := hide b1; clear b1)
    go_ret
    exact ⟨rfl, B1.out⟩
  | true =>
    rw [worstOf, if_pos h]
    have H := hide h
    have HBL := hide (boundsL_len r c)
    have HGAP := hide fun i hi => boundsL_gap (r := r) (c := c) (i := i) hi
    have HC5 := hide (sumsOk_yes h).2.1
    have HCALL := hide fun (k : Nat) (hk : k ≤ c.length) (w : World) (ha : InRow w va r) (hb : InRow w vb c) => gap_any va vb r c k w ha hb h hk
    obtain ⟨b, cb, rfl, hmb, -⟩ := hb
    unfold maxLen at hmb
    obtain ⟨C, hC⟩ : ∃ C, C = c.length := ⟨_, rfl⟩
    rw [← hC] at HB HBL HC5 HCALL hmb HGAP ⊢
    obtain ⟨bs, hbs⟩ : ∃ bs, bs = boundsL r c := ⟨_, rfl⟩
    rw [← hbs] at HBL HGAP ⊢
    obtain ⟨hc1, hc2⟩ := HC5.out
    clear h hC hbs
    go_enter Tryz.func106, Tryz.ntmps106
    go_wp2_with ((with_reducible refine (specSumsOk_any va _ r c _ HA.out HB.out).mono ?_); rw [H.out]; rintro e w1 ⟨rfl, b1⟩; have B1 := hide b1; clear b1)
    go_loopw [5] (fun i wr => ∃ k : Nat, k ≤ C ∧ i = .int .i64 ((k : Int) + 1) ∧ firstB bs 0 = firstB (bs.drop k) k ∧ Below w.heap.size w wr) (fun i _ => (C + 1 - intOf i).toNat)
    case atStart => exact ⟨0, Nat.zero_le _, rfl, rfl, B1.out⟩
    case round =>
      clear B1
      obtain ⟨k, hk, rfl, hf, hb⟩ := hrel
      have HF := hide hf; have B2 := hide hb
      clear hf hb
      by_cases hlt : k < C
      · have hk' : k < bs.length := by rw [HBL.out]; exact hlt
        have HD := hide (firstB_drop hk')
        have HG := hide (HGAP.out k hk')
        have HCL := hide (HCALL.out (k + 1) (by omega))
        rw [HG.out] at HCL
        obtain ⟨z, hz⟩ : ∃ z, z = bs[k].2 - bs[k].1 := ⟨_, rfl⟩
        rw [← hz] at HD HCL
        clear hz HG
        by_cases hbr : z < 0
        · have HR : Hid (firstB bs 0 = k) := hide (by rw [HF.out, HD.out, if_pos hbr])
          go_wp2_with (go_at_call 117; refine (HCL.out _ (inRow_below HA.out B2.out) (inRow_below HB.out B2.out)).mono ?_; rintro e w3 ⟨rfl, b3⟩; have B3 := hide (B2.out.trans (b3.mono B2.out.size)); clear b3)
          go_ret
          exact ⟨ret_int (by rw [HR.out]), B3.out⟩
        · have HR : Hid (firstB bs 0 = firstB (bs.drop (k + 1)) ((k + 1 : Nat) : Int)) := hide (by rw [HF.out, HD.out, if_neg hbr])
          go_wp2_with (go_at_call 117; refine (HCL.out _ (inRow_below HA.out B2.out) (inRow_below HB.out B2.out)).mono ?_; rintro e w3 ⟨rfl, b3⟩; have B3 := hide (B2.out.trans (b3.mono B2.out.size)); clear b3)
          go_roundw
          case rel => exact ⟨k + 1, by omega, by go_num, HR.out, B3.out⟩
          case measure => simp [intOf]; omega
      · have HR : Hid (firstB bs 0 = -1) := hide (by rw [HF.out, List.drop_of_length_le (by have := HBL.out; omega)]; rfl)
        go_wp2
        go_ret
        exact ⟨ret_int (by rw [HR.out]; rfl), B2.out⟩
set_option maxHeartbeats 400000 in
theorem specExists_any (va vb : Value) (r c : List Int) (w : World) (ha : InRow w va r) (hb : InRow w vb c) :
    Calls Tryz.prog 89 #[va, vb] w fun e w' => e = .returned (.bool (existsOf r c)) ∧ Below w.heap.size w w' := by
  have HA := hide ha; have HB := hide hb
  clear ha hb
  cases h : sumsOk r c with
  | false =>
    rw [existsOf, h]
    have H := hide h
    clear h
    go_enter Tryz.func89, Tryz.ntmps89
    go_wp2_with ((with_reducible refine (specSumsOk_any va vb r c _ HA.out HB.out).mono ?_); rw [H.out]; rintro e w1 ⟨rfl, b1⟩; have B1 := hide b1; clear b1)
    go_ret
    exact ⟨rfl, B1.out⟩
  | true =>
    rw [existsOf, h]
    have H := hide h
    obtain ⟨F, hF⟩ : ∃ F, F = worstOf r c := ⟨_, rfl⟩
    have HF := hide hF
    rw [← hF]
    clear h hF
    go_enter Tryz.func89, Tryz.ntmps89
    go_wp2_with (first | ((with_reducible refine (specSumsOk_any va vb r c _ HA.out HB.out).mono ?_); rw [H.out]; rintro e w1 ⟨rfl, b1⟩; have B1 := hide b1; clear b1) | ((with_reducible refine (specWorst_any va vb r c _ (inRow_below HA.out B1.out) (inRow_below HB.out B1.out)).mono ?_); rw [← HF.out]; rintro e w2 ⟨rfl, b2⟩; have B2 := hide (B1.out.trans (b2.mono B1.out.size)); clear b2))
    go_ret
    exact ⟨ret_bool (by by_cases e : F = 0 <;> simp [e]), B2.out⟩

end Go.Proofs.YtldbgkmgmhlbiaaGreat
/-
  BuildImage of the model.
-/
namespace Go.Proofs.YtldbgkmgmhlbiaaGreat
open Go.RowKit

theorem existsOf_sums {r c : List Int} (h : existsOf r c = true) : sumsOk r c = true := by
  rw [existsOf, Bool.and_eq_true] at h; exact h.1
theorem noBad_at {m : Int} {r : List Int} (h : r.any (badB m) = false) {k : Nat} (hk : k < r.length) : 0 ≤ r[k] ∧ r[k] ≤ m := by
  rw [List.any_eq_false] at h
  have := h _ (List.getElem_mem hk)
  simp only [badB, Bool.or_eq_true, decide_eq_true_eq, not_or] at this
  omega
theorem mid_start {r c : List Int} (h : sumsOk r c = true) : Mid100 0 c := by
  obtain ⟨hr, hc, -, hcb, -⟩ := sumsOk_yes h
  refine ⟨hc.2, fun x hx => ?_⟩
  rw [List.getD_eq_getElem?_getD, List.getElem?_eq_getElem hx, Option.getD_some]
  have := noBad_at hcb hx
  omega
theorem mid_sub {m : Int} {c : List Int} {n : Nat} (h : Mid100 m c) : Mid100 (m + 1) (subL c (topRow c n)) := by
  obtain ⟨h1, h2⟩ := h
  refine ⟨by rw [subL_len]; exact h1, fun x hx => ?_⟩
  rw [subL_len] at hx
  rw [subL_top, tabL_getD hx]
  have := h2 x hx
  rcases top01 c n x with e | e <;> rw [e] <;> omega
theorem mid_mono {m m' : Int} {c : List Int} (h : Mid100 m c) (hm : m ≤ m') : Mid100 m' c := ⟨h.1, fun x hx => by have := h.2 x hx; omega⟩
theorem greedy_step {r : List Int} {k : Nat} (hk : k < r.length) {s : Nat} (hs : r[k] = s) (l : List Int) : imgL greedyCh (r.drop k) l = topRow l s :: imgL greedyCh (r.drop (k + 1)) (subL l (topRow l s)) := by
  rw [List.drop_eq_getElem_cons hk, imgL, greedyCh, List.headD_cons, hs]; rfl

end Go.Proofs.YtldbgkmgmhlbiaaGreat
