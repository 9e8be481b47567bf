/-
  Texts of this claim, one behind the other: HcP, HcW, HcS.
-/
import Derived.Test.YtjgkblgilnfpfaaPackL
/-
  Conflicts: what lists ask of a mask; where none do, an image meets it.
-/
namespace Go.Proofs.Ytjgkblgilnfpfaa
open Go.RowKit Mx

/-- An element of an ascending list of numbers below n. -/
def ascP (n : Int) (l : List Int) (t : Nat) : Bool := decide (0 ≤ l.getD t 0 ∧ l.getD t 0 < n) && (t == 0 || decide (l.getD (t - 1) 0 < l.getD t 0))
def ascB (n : Int) (l : List Int) : Bool := (List.range l.length).all (ascP n l)
theorem asc_yes {n : Int} {l : List Int} (h : ∀ t, t < l.length → ascP n l t = true) : ascB n l = true := by
  rw [ascB, List.all_eq_true]
  exact fun t ht => h t (List.mem_range.1 ht)
theorem asc_at {n : Int} {l : List Int} (h : ascB n l = true) {t : Nat} (ht : t < l.length) : ascP n l t = true := List.all_eq_true.1 h t (List.mem_range.2 ht)
theorem asc_no {n : Int} {l : List Int} {t : Nat} (ht : t < l.length) (h : ascP n l t = false) : ascB n l = false := by
  cases e : ascB n l with
  | false => rfl
  | true => have := asc_at e ht; rw [h] at this; cases this
/-- In an ascending list the elements lie in their range, and there are no more of them than numbers. -/
theorem asc_range {n : Int} {l : List Int} (h : ascB n l = true) {t : Nat} (ht : t < l.length) : (t : Int) ≤ l.getD t 0 ∧ l.getD t 0 < n := by
  induction t with
  | zero =>
    have := asc_at h ht
    simp only [ascP, Bool.and_eq_true, decide_eq_true_eq] at this
    exact ⟨by simpa using this.1.1, this.1.2⟩
  | succ t ih =>
    have h1 := ih (by omega)
    have := asc_at h ht
    simp only [ascP, Bool.and_eq_true, decide_eq_true_eq, Bool.or_eq_true, beq_iff_eq, Nat.add_sub_cancel] at this
    obtain ⟨h2, h3 | h3⟩ := this
    · omega
    · exact ⟨by omega, h2.2⟩
theorem asc_len {n : Int} {l : List Int} (hn : 0 ≤ n) (h : ascB n l = true) : (l.length : Int) ≤ n := by
  by_cases h0 : l.length = 0
  · omega
  · have := asc_range h (t := l.length - 1) (by omega)
    omega

/-- What stands at these numbers, together. -/
def totalL (s l : List Int) : Int := (l.map fun i => s.getD i.toNat 0).sum
theorem totalL_snoc (s l : List Int) (t : Nat) (h : t < l.length) : totalL s (l.take (t + 1)) = totalL s (l.take t) + s.getD l[t].toNat 0 := by
  unfold totalL
  rw [List.take_succ_eq_append_getElem h, List.map_append, List.sum_append]; simp
theorem totalL_range (s l : List Int) (hs : ∀ x ∈ s, 0 ≤ x ∧ x ≤ 5) : 0 ≤ totalL s l ∧ totalL s l ≤ 5 * l.length := by
  unfold totalL
  induction l with
  | nil => simp
  | cons i l ih =>
    rw [List.map_cons, List.sum_cons, List.length_cons]
    have : 0 ≤ s.getD i.toNat 0 ∧ s.getD i.toNat 0 ≤ 5 := by
      rw [List.getD_eq_getElem?_getD]
      cases e : s[i.toNat]? with
      | none => simp
      | some x => exact hs x (List.mem_of_getElem? e)
    omega
/-- What a cell of a mask gives. -/
def cellC (a d : Bool) (v : Int) : Int := (if a && !d && !(v == 0) then 1 else 0) + if !a && d && v == 1 then -1 else 0
theorem cellC_range (a d : Bool) (v : Int) : -1 ≤ cellC a d v ∧ cellC a d v ≤ 1 := by
  unfold cellC
  cases a <;> cases d <;> simp <;> split <;> omega
def hasB (l : List Int) (y : Nat) : Bool := l.any fun x => x == (y : Int)
/-- What the first x cells of row y give. -/
def roomR (k : List (List Int)) (l o : List Int) (y x : Nat) : Int := S x fun i => cellC (hasB l y) (hasB o i) ((k.getD y []).getD i 0)
/-- What the first y rows give. -/
def roomP (k : List (List Int)) (l o : List Int) (C y : Nat) : Int := S y fun i => roomR k l o i C
theorem roomR_range (k : List (List Int)) (l o : List Int) (y : Nat) : ∀ x : Nat, -(x : Int) ≤ roomR k l o y x ∧ roomR k l o y x ≤ x
  | 0 => by simp [roomR, S]
  | x + 1 => by
    have h1 := roomR_range k l o y x
    have h2 := cellC_range (hasB l y) (hasB o x) ((k.getD y []).getD x 0)
    unfold roomR at h1 ⊢
    rw [S]; omega
theorem roomP_range (k : List (List Int)) (l o : List Int) (C : Nat) (hC : C ≤ 5) : ∀ y : Nat, -(5 * y : Int) ≤ roomP k l o C y ∧ roomP k l o C y ≤ 5 * y
  | 0 => by simp [roomP, S]
  | y + 1 => by
    have h1 := roomP_range k l o C hC y
    have h2 := roomR_range k l o y C
    unfold roomP at h1 ⊢
    rw [S]; omega
def confB (k : List (List Int)) (r c l o : List Int) : Bool := decide (roomP k l o c.length r.length < totalL r l - totalL c o)
def hasConfB (k : List (List Int)) (r c l o : List Int) : Bool := maskB k r c && ascB r.length l && ascB c.length o && confB k r c l o

/-- What must be, what may be. -/
def loK (k : List (List Int)) (y x : Nat) : Int := if (k.getD y []).getD x 0 == 1 then 1 else 0
def hiK (k : List (List Int)) (y x : Nat) : Int := if (k.getD y []).getD x 0 == 0 then 0 else 1
theorem cellC_kc (a d : Bool) (k : List (List Int)) (y x : Nat) : cellC a d ((k.getD y []).getD x 0) = kc a d (hiK k y x) (loK k y x) := by
  unfold cellC kc hiK loK
  generalize (k.getD y []).getD x 0 = v
  cases a <;> cases d <;> cases h0 : (v == 0) <;> cases h1 : (v == 1) <;> simp
theorem room_over (k : List (List Int)) (r c l o : List Int) (hl : ascB r.length l = true) (ho : ascB c.length o = true) :
    totalL r l - totalL c o - roomP k l o c.length r.length = over r.length c.length (fun y => r.getD y 0) (fun x => c.getD x 0) (loK k) (hiK k) (hasB l) (hasB o) := by
  unfold over
  rw [total_on r l hl, total_on c o ho]
  congr 1
  exact S_congr _ fun y _ => S_congr _ fun x _ => cellC_kc _ _ _ _ _
where
  total_on (s l : List Int) (h : ascB s.length l = true) : totalL s l = S s.length (on (hasB l) fun y => s.getD y 0) := by
    have hin : ∀ (m : List Int), (∀ i, (hi : i < m.length) → 0 ≤ m[i] ∧ m[i] < s.length) → (∀ i j, (hi : i < m.length) → (hj : j < m.length) → i < j → m[i] < m[j]) → totalL s m = S s.length (on (hasB m) fun y => s.getD y 0) := by
      intro m
      induction m with
      | nil =>
        intro _ _
        rw [S_congr _ (g := fun _ => 0) (fun i _ => by simp [on, hasB]), S_zero]
        rfl
      | cons a m ih =>
        intro h1 h2
        have ha := h1 0 (by simp)
        simp only [List.getElem_cons_zero] at ha
        have ih' := ih (fun i hi => h1 (i + 1) (by simpa using hi)) (fun i j hi hj hij => h2 (i + 1) (j + 1) (by simpa using hi) (by simpa using hj) (by omega))
        have hna : hasB m a.toNat = false := by
          unfold hasB
          rw [List.any_eq_false]
          intro x hx
          obtain ⟨i, hi, rfl⟩ := List.getElem_of_mem hx
          have := h2 0 (i + 1) (by simp) (by simpa using hi) (by omega)
          simp only [List.getElem_cons_zero, List.getElem_cons_succ] at this
          simp; omega
        have e : totalL s (a :: m) = s.getD a.toNat 0 + totalL s m := by simp [totalL]
        rw [e, ih', ← S_pick (show a.toNat < s.length by omega) (s.getD a.toNat 0), ← S_add]
        refine S_congr _ fun i _ => ?_
        unfold on
        have hh : hasB (a :: m) i = (a == (i : Int) || hasB m i) := by simp [hasB]
        by_cases e1 : i = a.toNat
        · subst e1
          rw [if_pos rfl, hna, hh, show (a == ((a.toNat : Nat) : Int)) = true from beq_iff_eq.2 (by omega)]; simp
        · rw [if_neg e1, hh, show (a == (i : Int)) = false from beq_eq_false_iff_ne.2 (by omega)]; simp
    refine hin l (fun i hi => ?_) (fun i j hi hj hij => ?_)
    · have := asc_range h hi
      rw [List.getD_eq_getElem?_getD, List.getElem?_eq_getElem hi, Option.getD_some] at this
      omega
    · induction j with
      | zero => omega
      | succ j ih =>
        have := asc_at h hj
        simp only [ascP, Bool.and_eq_true, decide_eq_true_eq, Bool.or_eq_true, beq_iff_eq, Nat.add_sub_cancel] at this
        have h3 : l[j] < l[j + 1] := by
          have h4 := this.2.resolve_left (by omega)
          rw [List.getD_eq_getElem?_getD, List.getElem?_eq_getElem (by omega), Option.getD_some, List.getD_eq_getElem?_getD, List.getElem?_eq_getElem hj, Option.getD_some] at h4
          exact h4
        by_cases e : i = j
        · subst e; exact h3
        · have := ih (by omega) (by omega); omega

theorem mask_parts {k : List (List Int)} {r c : List Int} (h : maskB k r c = true) : sumsOk r c = true ∧ k.length = r.length ∧ ∀ y, y < r.length → (k.getD y []).length = c.length ∧ ∀ x, x < c.length → (k.getD y []).getD x 0 = -1 ∨ (k.getD y []).getD x 0 = 0 ∨ (k.getD y []).getD x 0 = 1 := by
  unfold maskB at h
  simp only [Bool.and_eq_true, beq_iff_eq] at h
  refine ⟨h.1.1, h.1.2, fun y hy => ?_⟩
  have hyk : y < k.length := by rw [h.1.2]; exact hy
  have := List.all_eq_true.1 h.2 _ (List.getElem_mem hyk)
  unfold maskRowB at this
  simp only [Bool.and_eq_true, beq_iff_eq] at this
  rw [List.getD_eq_getElem?_getD, List.getElem?_eq_getElem hyk, Option.getD_some]
  refine ⟨this.1, fun x hx => ?_⟩
  have hxk : x < k[y].length := by rw [this.1]; exact hx
  have := List.all_eq_true.1 this.2 _ (List.getElem_mem hxk)
  rw [List.getD_eq_getElem?_getD, List.getElem?_eq_getElem hxk, Option.getD_some]
  unfold cellOk at this
  simpa using this
/-- There is an image that meets the mask exactly if no rows and columns ask for too much. -/
theorem masked_iff {k : List (List Int)} {r c : List Int} (h : maskB k r c = true) : maskedL k r c ≠ [] ↔ ∀ L O : Nat → Bool, over r.length c.length (fun y => r.getD y 0) (fun x => c.getD x 0) (loK k) (hiK k) L O ≤ 0 := by
  obtain ⟨hs, hkl, hk⟩ := mask_parts h
  obtain ⟨hr, hc, -, -, hsum⟩ := sumsOk_yes hs
  have ht : (S r.length fun y => r.getD y 0) = S c.length fun x => c.getD x 0 := by rw [← sum_S, ← sum_S]; exact hsum
  have hbox : ∀ y x, y < r.length → x < c.length → (loK k y x = 0 ∨ loK k y x = 1) ∧ (hiK k y x = 0 ∨ hiK k y x = 1) ∧ loK k y x ≤ hiK k y x := fun y x hy hx => by
    unfold loK hiK
    rcases (hk y hy).2 x hx with e | e | e <;> rw [e] <;> simp
  constructor
  · intro hne L O
    obtain ⟨m, hm⟩ := List.exists_mem_of_ne_nil _ hne
    obtain ⟨hm1, hm2⟩ := List.mem_filter.1 hm
    rw [allIm_sums hs] at hm1
    have hI : HasImg r c := by
      cases he : existsOf r c with
      | true => exact img_of_exists he
      | false => rw [allL_none hs he] at hm1; cases hm1
    obtain ⟨g1, g2, g3⟩ := all_sound r c hr.2 hc hI m hm1
    have hcell : ∀ y x, y < r.length → x < c.length → loK k y x ≤ (m.getD y []).getD x 0 ∧ (m.getD y []).getD x 0 ≤ hiK k y x := fun y x hy hx => by
      have hym : y < m.length := by omega
      have hyk : y < k.length := by omega
      have h1 : meetR m[y] k[y] = true := eqBy_at y hym hyk hm2
      have hxm : x < m[y].length := by rw [g2 _ (List.getElem_mem hym)]; exact hx
      have hxk : x < k[y].length := by rw [← eqBy_len h1]; exact hxm
      have h2 : meetC m[y][x] k[y][x] = true := eqBy_at x hxm hxk h1
      have h3 := g3.cell y x hy hx
      have e1 : (m.getD y []).getD x 0 = m[y][x] := by simp [List.getD_eq_getElem?_getD, hym, hxm]
      have e2 : (k.getD y []).getD x 0 = k[y][x] := by simp [List.getD_eq_getElem?_getD, hyk, hxk]
      have h4 := (hk y hy).2 x hx
      rw [e1] at h3 ⊢
      rw [e2] at h4
      unfold loK hiK
      rw [e2]
      unfold meetC at h2
      simp only [Bool.or_eq_true, beq_iff_eq] at h2
      rcases h4 with e | e | e <;> rw [e] at h2 ⊢ <;> simp <;> omega
    exact over_img (fun y => r.getD y 0) (fun x => c.getD x 0) (loK k) (hiK k) (fun y x => (m.getD y []).getD x 0) (fun y x hy hx => ⟨hcell y x hy hx, g3.cell y x hy hx⟩) g3.row g3.col L O
  · intro hov
    obtain ⟨m, h1, h2, h3⟩ := exists_between r.length c.length (fun y => r.getD y 0) (fun x => c.getD x 0) ht _ (loK k) (hiK k) (Nat.le_refl _) hbox hov
    have hI : ImgF r c m := ⟨fun y x hy hx => by
      have := h1 y x hy hx
      have := hbox y x hy hx
      omega, h2, h3⟩
    have hmem := all_complete r c hr.2 hc m hI
    refine List.ne_nil_of_mem (a := listF r.length c.length m) (List.mem_filter.2 ⟨by rw [allIm_sums hs]; exact hmem, eqBy_yes (by simp [listF, hkl]) fun y hy hyk => ?_⟩)
    have hy' : y < r.length := by omega
    have e : (listF r.length c.length m)[y] = tabL c.length (m y) := by simp [listF]
    rw [e]
    have hkr := (hk y hy').1
    rw [List.getD_eq_getElem?_getD, List.getElem?_eq_getElem hyk, Option.getD_some] at hkr
    refine eqBy_yes (by rw [tabL_len, hkr]) fun x hx hxk => ?_
    rw [tabL_len] at hx
    rw [tabL_at]
    have h5 := h1 y x hy' hx
    have h6 := (hk y hy').2 x hx
    have e2 : (k.getD y []).getD x 0 = k[y][x] := by simp [List.getD_eq_getElem?_getD, hyk, hxk]
    unfold loK hiK at h5
    rw [e2] at h5 h6
    unfold meetC
    rcases h6 with e | e | e <;> rw [e] at h5 ⊢ <;> simp at h5 ⊢ <;> omega
where
  over_img {R C : Nat} (r c : Nat → Int) (lo hi m : Nat → Nat → Int) (hm : ∀ y x, y < R → x < C → (lo y x ≤ m y x ∧ m y x ≤ hi y x) ∧ (m y x = 0 ∨ m y x = 1)) (hrow : ∀ y, y < R → S C (m y) = r y) (hcol : ∀ x, x < C → S R (fun y => m y x) = c x) (L O : Nat → Bool) : over R C r c lo hi L O ≤ 0 := by
    have e1 : S R (on L r) = S R fun y => S C fun x => if L y then m y x else 0 := S_congr R fun y hy => by
      unfold on
      cases L y with
      | true => simp only [if_true]; rw [← hrow y hy]
      | false => simp [S_zero]
    have e2 : S C (on O c) = S R fun y => S C fun x => if O x then m y x else 0 := by
      rw [S_swap]
      refine S_congr C fun x hx => ?_
      unfold on
      cases O x with
      | true => simp only [if_true]; rw [← hcol x hx]
      | false => simp [S_zero]
    unfold over
    rw [e1, e2, ← S_sub, ← S_sub]
    have := S_le (f := fun y => (S C fun x => if L y then m y x else 0) - (S C fun x => if O x then m y x else 0) - S C fun x => kc (L y) (O x) (hi y x) (lo y x)) (g := fun _ => 0) R (fun y hy => by
      rw [← S_sub, ← S_sub]
      have := S_le (f := fun x => (if L y then m y x else 0) - (if O x then m y x else 0) - kc (L y) (O x) (hi y x) (lo y x)) (g := fun _ => 0) C (fun x hx => by
        have := hm y x hy hx
        unfold kc
        cases L y <;> cases O x <;> simp <;> omega)
      rwa [S_zero] at this)
    rwa [S_zero] at this
end Go.Proofs.Ytjgkblgilnfpfaa
/-
  HasConflict, of the program.
-/
namespace Go.Proofs.Ytjgkblgilnfpfaa
open Go.RowKit Go.Shelf

theorem hasB_at {l : List Int} {y : Nat} (i : Nat) (h : i < l.length) (e : l[i] = y) : hasB l y = true := List.any_eq_true.2 ⟨_, List.getElem_mem h, by simp [e]⟩
theorem hasB_no {l : List Int} {y : Nat} (h : ∀ i, (hi : i < l.length) → l[i] ≠ y) : hasB l y = false := by
  unfold hasB
  rw [List.any_eq_false]
  intro x hx
  obtain ⟨i, hi, rfl⟩ := List.getElem_of_mem hx
  simpa using h i hi

set_option maxHeartbeats 1000000 in
theorem indexInt_any (v : Value) (l : List Int) (y : Nat) (w : World) (hin : InRow w v l) :
    Calls Try.prog 116 #[v, .int .i64 y] w (IdxRes (hasB l y) w) := by
  obtain ⟨a, c, rfl, hm, hp⟩ := hin
  unfold maxLen at hm
  by_cases h0 : l.length = 0
  · have hr : l = [] := List.eq_nil_of_length_eq_zero h0
    subst hr
    clear hp h0 hm
    go_enter Try.func116, Try.ntmps116
    go_wp2
    go_loop [8] (fun i => i = .int .i64 0) (fun _ => 0)
    case atStart => rfl
    case round =>
      obtain rfl := hrel
      go_wp2
      go_ret
      exact ⟨-1, rfl, by omega, rfl, rfl⟩
  · obtain ⟨gr, o, rfl, hg, hc⟩ := hp.resolve_left h0
    have HC := hide hc
    obtain ⟨n, hn⟩ : ∃ n, n = l.length := ⟨_, rfl⟩
    have HN := hide hn
    rw [← hn] at hm ⊢
    clear hp hc h0 hn
    go_enter Try.func116, Try.ntmps116
    go_wp2
    go_loop [8] (fun i => ∃ k : Nat, k ≤ n ∧ i = .int .i64 k ∧ ∀ t, (h : t < l.length) → t < k → l[t] ≠ y) (fun i => n - (intOf i).toNat)
    case atStart => exact ⟨0, Nat.zero_le _, rfl, fun t _ h => absurd h (Nat.not_lt_zero _)⟩
    case round =>
      obtain ⟨k, hk, rfl, hall⟩ := hrel
      have HA := hide hall
      clear hall
      by_cases hlt : k < n
      · have hk' : k < l.length := by rw [← HN.out]; exact hlt
        have hx := HC.out k hk'
        have HYES := hide (fun h => hasB_at (y := y) k hk' h)
        have HST : Hid (l[k] ≠ y → ∀ t, (h : t < l.length) → t < k + 1 → l[t] ≠ y) := hide fun h t h1 ht => by
          by_cases e : t = k
          · subst e; exact h
          · exact HA.out t h1 (by omega)
        obtain ⟨x, hxx⟩ : ∃ x, x = l[k] := ⟨_, rfl⟩
        rw [← hxx] at hx HYES HST
        clear hxx
        by_cases e : x = y
        · have HF := hide (HYES.out e)
          subst e
          clear HYES HST
          go_wp2
          go_ret
          exact ⟨k, rfl, by omega, by rw [HF.out]; simp, rfl⟩
        · have HS2 := hide (HST.out e)
          have hb : (y == x) = false := by simp; omega
          have hb2 : (x == y) = false := by simp [e]
          clear HYES HST e
          go_wp2
          go_round
          case rel => exact ⟨k + 1, by omega, by go_num, HS2.out⟩
          case measure => simp [intOf]; omega
      · have HY := hide (hasB_no fun t h => HA.out t h (by have := HN.out; omega))
        go_wp2
        go_ret
        exact ⟨-1, rfl, by omega, by rw [HY.out]; rfl, rfl⟩
theorem containsInt_any (v : Value) (l : List Int) (y : Nat) (w : World) (hin : InRow w v l) :
    Calls Try.prog 107 #[v, .int .i64 y] w fun e w' => e = .returned (.bool (hasB l y)) ∧ w = w' := by
  have HI := hide (indexInt_any v l y w hin)
  clear hin
  go_enter Try.func107, Try.ntmps107
  go_wp2_with fail
  refine HI.out.mono ?_
  rintro e w1 ⟨i, rfl, hi, hb, rfl⟩
  have HB := hide hb
  clear hb HI
  by_cases h : 0 ≤ i
  · go_wp2
    go_ret
    exact ⟨ret_bool (by rw [HB.out]; simp [h]), rfl⟩
  · go_wp2
    go_ret
    exact ⟨ret_bool (by rw [HB.out]), rfl⟩
set_option maxHeartbeats 1000000 in
theorem totalAt_any (vs vl : Value) (s l : List Int) (w : World) (hs : InRow w vs s) (hl : InRow w vl l) (h5 : s.length ≤ 5) (hx : ∀ x ∈ s, 0 ≤ x ∧ x ≤ 5) (ha : ascB s.length l = true) :
    Calls Try.prog 82 #[vs, vl] w fun e w' => e = .returned (.int .i64 (totalL s l)) ∧ w = w' := by
  have hll := asc_len (Int.natCast_nonneg _) ha
  have HR := hide fun t (ht : t < l.length) => asc_range ha ht
  have HT := hide fun t => totalL_range s (l.take t) hx
  have HSN := hide fun t (ht : t < l.length) => totalL_snoc s l t ht
  obtain ⟨a, ca, rfl, hma, hpa⟩ := hs
  obtain ⟨b, cb, rfl, hmb, hpb⟩ := hl
  unfold maxLen at hma hmb
  by_cases h0 : l.length = 0
  · have hr : l = [] := List.eq_nil_of_length_eq_zero h0
    subst hr
    clear hpb h0 hmb HR HT HSN hpa hll ha h5 hma
    generalize s.length = S at *
    go_enter Try.func82, Try.ntmps82
    go_wp2
    go_loop [5, 10] (fun q i => q = .int .i64 0 ∧ i = .int .i64 0) (fun _ _ => 0)
    case atStart => exact ⟨rfl, rfl⟩
    case round =>
      obtain ⟨rfl, rfl⟩ := hrel
      go_wp2
      go_ret
      exact ⟨rfl, rfl⟩
  · obtain ⟨gb, ob, rfl, hgb, hcb⟩ := hpb.resolve_left h0
    have hs0 : s.length ≠ 0 := by
      have := HR.out 0 (by omega)
      omega
    obtain ⟨ga, oa, rfl, hga, hca⟩ := hpa.resolve_left hs0
    have HA := hide hca; have HB := hide hcb
    obtain ⟨n, hn⟩ : ∃ n, n = l.length := ⟨_, rfl⟩
    have HN := hide hn
    obtain ⟨S, hS⟩ : ∃ S, S = s.length := ⟨_, rfl⟩
    have HS := hide hS
    have HE := hide (show totalL s l = totalL s (l.take n) by rw [hn, List.take_length])
    rw [HE.out]
    rw [← hn] at hmb hll ⊢
    rw [← hS] at hma h5 hll ⊢
    clear hpa hpb hca hcb h0 hs0 hn hS ha HE
    go_enter Try.func82, Try.ntmps82
    go_wp2
    go_loop [5, 10] (fun q i => ∃ t : Nat, t ≤ n ∧ i = .int .i64 t ∧ q = .int .i64 (totalL s (l.take t))) (fun _ i => n - (intOf i).toNat)
    case atStart => exact ⟨0, Nat.zero_le _, rfl, rfl⟩
    case round =>
      obtain ⟨t, ht, rfl, rfl⟩ := hrel
      obtain ⟨ht1, ht2⟩ := HT.out t
      have htl : (l.take t).length ≤ t := by rw [List.length_take]; omega
      by_cases hlt : t < n
      · have hk : t < l.length := by rw [← HN.out]; exact hlt
        have hy := HB.out t hk
        obtain ⟨hr1, hr2⟩ := HR.out t hk
        have hsn := HSN.out t hk
        have hg : l.getD t 0 = l[t] := by rw [List.getD_eq_getElem?_getD, List.getElem?_eq_getElem hk, Option.getD_some]
        rw [hg] at hr1 hr2
        obtain ⟨x, hxx⟩ : ∃ x : Nat, (x : Int) = l[t] := ⟨l[t].toNat, by omega⟩
        rw [← hxx] at hy hr2 hsn
        rw [← HS.out] at hr2
        have hxs : x < s.length := by rw [← HS.out]; omega
        have hz := HA.out x hxs
        have hgs : s.getD (x : Int).toNat 0 = s[x] := by rw [Int.toNat_natCast, List.getD_eq_getElem?_getD, List.getElem?_eq_getElem hxs, Option.getD_some]
        have hzr := hx s[x] (List.getElem_mem hxs)
        rw [hgs] at hsn
        have HST := hide hsn
        obtain ⟨z, hzz⟩ : ∃ z, z = s[x] := ⟨_, rfl⟩
        rw [← hzz] at hz hzr HST
        obtain ⟨q, hq⟩ : ∃ q, q = totalL s (l.take t) := ⟨_, rfl⟩
        rw [← hq] at ht1 ht2 HST ⊢
        have hx5 : (x : Int) < (S : Int) := hr2
        obtain ⟨hz1, hz2⟩ := hzr
        have hq2 : q ≤ 25 := by omega
        clear hsn hg hxx hgs hzz hq hr1 ht2
        go_wp2
        go_round
        case rel => exact ⟨t + 1, by omega, by go_num, by rw [HST.out]⟩
        case measure => simp [intOf]; omega
      · obtain rfl : t = n := by omega
        go_wp2
        go_ret
        exact ⟨rfl, rfl⟩
set_option maxHeartbeats 1000000 in
theorem ascends_any (v : Value) (l : List Int) (n : Nat) (w : World) (hn : n ≤ 5) (hin : InRow w v l) :
    Calls Try.prog 47 #[v, .int .i64 n] w fun e w' => e = .returned (.bool (ascB n l)) ∧ w = w' := by
  obtain ⟨a, c, rfl, hm, hp⟩ := hin
  unfold maxLen at hm
  by_cases h0 : l.length = 0
  · have hr : l = [] := List.eq_nil_of_length_eq_zero h0
    subst hr
    clear hp h0 hm
    go_enter Try.func47, Try.ntmps47
    go_wp2
    go_loop [10] (fun i => i = .int .i64 0) (fun _ => 0)
    case atStart => rfl
    case round =>
      obtain rfl := hrel
      go_wp2
      go_ret
      exact ⟨rfl, rfl⟩
  · obtain ⟨gr, o, rfl, hg, hc⟩ := hp.resolve_left h0
    have HC := hide hc
    obtain ⟨k, hk⟩ : ∃ k, k = l.length := ⟨_, rfl⟩
    have HN := hide hk
    rw [← hk] at hm ⊢
    clear hp hc h0 hk
    go_enter Try.func47, Try.ntmps47
    go_wp2
    go_loop [5, 10] (fun q i => ∃ t : Nat, t ≤ k ∧ i = .int .i64 t ∧ (∀ j, j < t → ascP n l j = true) ∧ ∃ z : Int, q = .int .i64 z ∧ (0 ≤ z ∧ z ≤ 5) ∧ ((t = 0 ∧ z = 0) ∨ (0 < t ∧ z = l.getD (t - 1) 0 + 1))) (fun _ i => k - (intOf i).toNat)
    case atStart => exact ⟨0, Nat.zero_le _, rfl, fun j h => absurd h (Nat.not_lt_zero _), 0, rfl, by omega, .inl ⟨rfl, rfl⟩⟩
    case round =>
      obtain ⟨t, ht, rfl, hall, z, rfl, hz, hzz⟩ := hrel
      have HA := hide hall; have HZ := hide hzz
      clear hall hzz
      obtain ⟨hz1, hz2⟩ := hz
      by_cases hlt : t < k
      · have ht' : t < l.length := by rw [← HN.out]; exact hlt
        have hx := HC.out t ht'
        have hg : l.getD t 0 = l[t] := by rw [List.getD_eq_getElem?_getD, List.getElem?_eq_getElem ht', Option.getD_some]
        obtain ⟨x, hxx⟩ : ∃ x, x = l[t] := ⟨_, rfl⟩
        rw [← hxx] at hx hg
        have HG := hide hg
        have HP : Hid (ascP n l t = (decide (0 ≤ x ∧ x < n) && decide (z ≤ x))) := hide (by
          unfold ascP
          rw [hg]
          rcases HZ.out with ⟨h1, h2⟩ | ⟨h1, h2⟩
          · subst h1; rw [h2]
            by_cases h : 0 ≤ x
            · simp [h]
            · simp [h]
          · have e1 : (t == 0) = false := by simp; omega
            rw [e1, Bool.false_or, h2]
            congr 1)
        clear hg hxx
        by_cases e1 : x < z
        · have HF := hide (asc_no ht' (by rw [HP.out, decide_eq_false (show ¬ z ≤ x by omega), Bool.and_false] : ascP n l t = false))
          go_wp2
          go_ret
          exact ⟨ret_bool HF.out.symm, rfl⟩
        · by_cases e2 : x < n
          · have HT : Hid (ascP n l t = true) := hide (by rw [HP.out, decide_eq_true (by omega), decide_eq_true (by omega)]; rfl)
            clear HP
            go_wp2
            go_round
            case rel => exact ⟨t + 1, by omega, by go_num, fun j hj => by
              by_cases e : j = t
              · subst e; exact HT.out
              · exact HA.out j (by omega), x + 1, by go_num, by omega, .inr ⟨by omega, by rw [Nat.add_sub_cancel, HG.out]⟩⟩
            case measure => simp [intOf]; omega
          · have HF := hide (asc_no ht' (by rw [HP.out, decide_eq_false (show ¬ (0 ≤ x ∧ x < n) by omega), Bool.false_and] : ascP n l t = false))
            go_wp2
            go_ret
            exact ⟨ret_bool HF.out.symm, rfl⟩
      · have HY := hide (asc_yes (n := n) fun j hj => HA.out j (by have := HN.out; omega))
        go_wp2
        go_ret
        exact ⟨ret_bool HY.out.symm, rfl⟩

/-- The four ways a cell counts. -/
theorem cellC_add {a d : Bool} {v : Int} (h : (a && !d && !(v == 0)) = true) : cellC a d v = 1 := by
  unfold cellC
  simp only [Bool.and_eq_true, Bool.not_eq_true'] at h
  rw [h.1.1, h.1.2, h.2]; rfl
theorem cellC_sub {a d : Bool} {v : Int} (h : (!a && d && v == 1) = true) : cellC a d v = -1 := by
  unfold cellC
  simp only [Bool.and_eq_true, Bool.not_eq_true'] at h
  rw [h.1.1, h.1.2, h.2]; rfl
theorem cellC_none {a d : Bool} {v : Int} (h1 : (a && !d && !(v == 0)) = false) (h2 : (!a && d && v == 1) = false) : cellC a d v = 0 := by
  unfold cellC
  rw [h1, h2]; rfl
/-- What is known of a mask and its sums. -/
structure MaskIn (w : World) (vk : Value) (k : List (List Int)) (R C : Nat) : Prop where
  mat : InMat w vk k
  rows : k.length = R
  wide : ∀ y, (h : y < k.length) → k[y].length = C
  r5 : 1 ≤ R ∧ R ≤ 5
  c5 : 1 ≤ C ∧ C ≤ 5
theorem maskIn_of {w : World} {vk : Value} {k : List (List Int)} {r c : List Int} (hk : InMat w vk k) (h : maskB k r c = true) : MaskIn w vk k r.length c.length := by
  obtain ⟨hs, hl, hw⟩ := mask_parts h
  obtain ⟨hr, hc, -⟩ := sumsOk_yes hs
  refine ⟨hk, hl, fun y hy => ?_, hr, hc⟩
  have := (hw y (by omega)).1
  rwa [List.getD_eq_getElem?_getD, List.getElem?_eq_getElem hy, Option.getD_some] at this
theorem roomR_snoc (k : List (List Int)) (l o : List Int) (y x : Nat) {row : List Int} {v : Int} (hr : k.getD y [] = row) (hv : row.getD x 0 = v) : roomR k l o y (x + 1) = roomR k l o y x + cellC (hasB l y) (hasB o x) v := by
  subst hr; subst hv; rfl
theorem roomP_snoc (k : List (List Int)) (l o : List Int) (C y : Nat) : roomP k l o C (y + 1) = roomP k l o C y + roomR k l o y C := rfl

set_option maxRecDepth 100000 in
set_option maxHeartbeats 2000000 in
theorem roomIn_any (vk vl vo : Value) (k : List (List Int)) (l o : List Int) (R C : Nat) (w : World) (hm : MaskIn w vk k R C) (hl : InRow w vl l) (ho : InRow w vo o) :
    Calls Try.prog 83 #[vk, vl, vo] w fun e w' => e = .returned (.int .i64 (roomP k l o C R)) ∧ w = w' := by
  have HL := hide fun y => containsInt_any vl l y w hl
  have HO := hide fun x => containsInt_any vo o x w ho
  obtain ⟨hin, hkR, hkC, ⟨hR1, hR5⟩, hC1, hC5⟩ := hm
  have HP := hide (roomP_range k l o C hC5)
  have HQ := hide (roomR_range k l o)
  obtain ⟨al, cl, rfl, -, -⟩ := hl
  obtain ⟨ao, co, rfl, -, -⟩ := ho
  obtain ⟨ak, ck, rfl, hmk, hpk⟩ := hin
  unfold maxLen at hmk
  obtain ⟨g, og, rfl, hg, hcell⟩ := hpk.resolve_left (by omega)
  have HC := hide hcell; have HKC := hide hkC; have HKR := hide hkR
  generalize l.length = nl at *
  generalize o.length = no at *
  rw [hkR] at hmk ⊢
  clear hpk hcell hkC hkR
  go_enter Try.func83, Try.ntmps83
  go_wp2
  go_loop [7, 16] (fun q i => ∃ y : Nat, y ≤ R ∧ i = .int .i64 y ∧ q = .int .i64 (roomP k l o C y)) (fun _ i => R - (intOf i).toNat)
  case atStart => exact ⟨0, Nat.zero_le _, rfl, rfl⟩
  case round =>
    obtain ⟨y, hy, rfl, rfl⟩ := hrel
    by_cases hlt : y < R
    · have hyk : y < k.length := by rw [HKR.out]; exact hlt
      obtain ⟨u, hx, hr⟩ := HC.out y hyk
      obtain ⟨ar, cr, rfl, hmr, hpr⟩ := hr
      unfold maxLen at hmr
      have hw := HKC.out y hyk
      obtain ⟨row, hrow⟩ : ∃ row, row = k[y] := ⟨_, rfl⟩
      have HG := hide (show k.getD y [] = row by rw [List.getD_eq_getElem?_getD, List.getElem?_eq_getElem hyk, Option.getD_some, hrow])
      rw [← hrow] at hx hmr hpr hw
      obtain ⟨gr, og2, rfl, hgr, hcr⟩ := hpr.resolve_left (by omega)
      have HCR := hide hcr; have HW := hide hw
      rw [hw] at hx hmr
      obtain ⟨hp1, hp2⟩ := HP.out y
      have HPS := hide (roomP_snoc k l o C y)
      obtain ⟨rp, hrp⟩ : ∃ rp, rp = roomP k l o C y := ⟨_, rfl⟩
      rw [← hrp] at hp1 hp2 HPS ⊢
      have HIL := hide (HL.out y)
      obtain ⟨bl, hbl⟩ : ∃ bl, bl = hasB l y := ⟨_, rfl⟩
      have HBL := hide hbl
      rw [← hbl] at HIL
      clear hpr hcr hw hrow hrp hbl
      go_wp2_with (go_at_call 107; refine HIL.out.mono ?_; rintro e w9 ⟨rfl, rfl⟩)
      go_loop [7, 26] (fun q i => ∃ x : Nat, x ≤ C ∧ i = .int .i64 x ∧ q = .int .i64 (rp + roomR k l o y x)) (fun _ i => C - (intOf i).toNat)
      case atStart => exact ⟨0, Nat.zero_le _, rfl, by simp [roomR, Mx.S]⟩
      case round =>
        obtain ⟨x, hxC, rfl, rfl⟩ := hrel
        obtain ⟨hq1, hq2⟩ := HQ.out y x
        by_cases hlx : x < C
        · have hxr : x < row.length := by rw [HW.out]; exact hlx
          have hv := HCR.out x hxr
          have HRS := hide (roomR_snoc k l o y x HG.out (v := row[x]) (by rw [List.getD_eq_getElem?_getD, List.getElem?_eq_getElem hxr, Option.getD_some]))
          obtain ⟨v, hvv⟩ : ∃ v, v = row[x] := ⟨_, rfl⟩
          rw [← hvv, ← HBL.out] at HRS
          rw [← hvv] at hv
          have HIO := hide (HO.out x)
          obtain ⟨d, hd⟩ : ∃ d, d = hasB o x := ⟨_, rfl⟩
          rw [← hd] at HIO HRS
          obtain ⟨rr, hrr⟩ : ∃ rr, rr = roomR k l o y x := ⟨_, rfl⟩
          rw [← hrr] at hq1 hq2 HRS ⊢
          clear hvv hd hrr
          cases bl with
          | true =>
            cases d with
            | true =>
              have HZ := hide (cellC_none (a := true) (d := true) (v := v) rfl rfl)
              go_wp2_with (go_at_call 107; refine HIO.out.mono ?_; rintro e w9 ⟨rfl, rfl⟩)
              go_round
              case rel => exact ⟨x + 1, by omega, by go_num, by rw [HRS.out, HZ.out, Int.add_zero]⟩
              case measure => simp [intOf]; omega
            | false =>
              by_cases e0 : v = 0
              · subst e0
                have HZ := hide (cellC_none (a := true) (d := false) (v := 0) rfl rfl)
                go_wp2_with (go_at_call 107; refine HIO.out.mono ?_; rintro e w9 ⟨rfl, rfl⟩)
                go_round
                case rel => exact ⟨x + 1, by omega, by go_num, by rw [HRS.out, HZ.out, Int.add_zero]⟩
                case measure => simp [intOf]; omega
              · have b0 : (v != 0) = true := by simp [e0]
                have HZ := hide (cellC_add (a := true) (d := false) (v := v) (by simp [e0]))
                go_wp2_with (go_at_call 107; refine HIO.out.mono ?_; rintro e w9 ⟨rfl, rfl⟩)
                go_round
                case rel => exact ⟨x + 1, by omega, by go_num, by rw [HRS.out, HZ.out, Int.add_assoc]⟩
                case measure => simp [intOf]; omega
          | false =>
            cases d with
            | false =>
              have HZ := hide (cellC_none (a := false) (d := false) (v := v) rfl rfl)
              go_wp2_with (go_at_call 107; refine HIO.out.mono ?_; rintro e w9 ⟨rfl, rfl⟩)
              go_round
              case rel => exact ⟨x + 1, by omega, by go_num, by rw [HRS.out, HZ.out, Int.add_zero]⟩
              case measure => simp [intOf]; omega
            | true =>
              by_cases e1 : v = 1
              · subst e1
                have HZ := hide (cellC_sub (a := false) (d := true) (v := 1) rfl)
                go_wp2_with (go_at_call 107; refine HIO.out.mono ?_; rintro e w9 ⟨rfl, rfl⟩)
                go_round
                case rel => exact ⟨x + 1, by omega, by go_num, by rw [HRS.out, HZ.out, ← Int.add_assoc]; rfl⟩
                case measure => simp [intOf]; omega
              · have b1 : (v == 1) = false := by simp [e1]
                have HZ := hide (cellC_none (a := false) (d := true) (v := v) rfl (by simp [e1]))
                go_wp2_with (go_at_call 107; refine HIO.out.mono ?_; rintro e w9 ⟨rfl, rfl⟩)
                go_round
                case rel => exact ⟨x + 1, by omega, by go_num, by rw [HRS.out, HZ.out, Int.add_zero]⟩
                case measure => simp [intOf]; omega
        · obtain rfl : x = C := by omega
          go_wp2
          go_round
          case rel => exact ⟨y + 1, by omega, by go_num, by rw [HPS.out]⟩
          case measure => simp [intOf]; omega
    · obtain rfl : y = R := by omega
      go_wp2
      go_ret
      exact ⟨rfl, rfl⟩
/-- What is known of sums. -/
theorem sums_cells {r c : List Int} (h : sumsOk r c = true) : (∀ x ∈ r, 0 ≤ x ∧ x ≤ 5) ∧ ∀ x ∈ c, 0 ≤ x ∧ x ≤ 5 := by
  obtain ⟨hr, hc, hrb, hcb, -⟩ := sumsOk_yes h
  constructor
  · intro x hx
    rw [List.any_eq_false] at hrb
    have := hrb x hx
    simp only [badB, Bool.or_eq_true, decide_eq_true_eq, not_or] at this
    omega
  · intro x hx
    rw [List.any_eq_false] at hcb
    have := hcb x hx
    simp only [badB, Bool.or_eq_true, decide_eq_true_eq, not_or] at this
    omega
set_option maxHeartbeats 1000000 in
theorem conflicts_any (vk vr vc vl vo : Value) (k : List (List Int)) (r c l o : List Int) (w : World) (hk : InMat w vk k) (hr : InRow w vr r) (hc : InRow w vc c) (hl : InRow w vl l) (ho : InRow w vo o) (hm : maskB k r c = true) (ha : ascB r.length l = true) (hb : ascB c.length o = true) :
    Calls Try.prog 48 #[vk, vr, vc, vl, vo] w fun e w' => e = .returned (.bool (confB k r c l o)) ∧ w = w' := by
  have hM := maskIn_of hk hm
  obtain ⟨hs, -⟩ := mask_parts hm
  obtain ⟨hx, hy⟩ := sums_cells hs
  have HT1 := hide (totalAt_any vr vl r l w hr hl hM.r5.2 hx ha)
  have HT2 := hide (totalAt_any vc vo c o w hc ho hM.c5.2 hy hb)
  have HRM := hide (roomIn_any vk vl vo k l o _ _ w hM hl ho)
  have ht1 := totalL_range r l hx
  have ht2 := totalL_range c o hy
  have hl1 := asc_len (Int.natCast_nonneg _) ha
  have hl2 := asc_len (Int.natCast_nonneg _) hb
  have hrp := roomP_range k l o c.length hM.c5.2 r.length
  have hr5 := hM.r5; have hc5 := hM.c5
  have HCB := hide (show confB k r c l o = decide (roomP k l o c.length r.length < totalL r l - totalL c o) from rfl)
  rw [HCB.out]
  have h1 : 0 ≤ totalL r l ∧ totalL r l ≤ 25 := by omega
  have h2 : 0 ≤ totalL c o ∧ totalL c o ≤ 25 := by omega
  obtain ⟨h1a, h1b⟩ := h1
  obtain ⟨h2a, h2b⟩ := h2
  obtain ⟨A, hA⟩ : ∃ A, A = totalL r l := ⟨_, rfl⟩
  obtain ⟨B, hB⟩ : ∃ B, B = totalL c o := ⟨_, rfl⟩
  obtain ⟨Q, hQ⟩ : ∃ Q, Q = roomP k l o c.length r.length := ⟨_, rfl⟩
  rw [← hA] at HT1 h1a h1b ⊢
  rw [← hB] at HT2 h2a h2b ⊢
  rw [← hQ] at HRM ⊢
  clear hM hs hx hy ht1 ht2 hl1 hl2 hrp hr5 hc5 HCB hA hB hQ hm ha hb
  obtain ⟨ak, ck, rfl, -, -⟩ := hk
  obtain ⟨ar, cr, rfl, -, -⟩ := hr
  obtain ⟨ac, cc, rfl, -, -⟩ := hc
  obtain ⟨al, cl, rfl, -, -⟩ := hl
  obtain ⟨ao, co, rfl, -, -⟩ := ho
  generalize k.length = n1 at *
  generalize r.length = n2 at *
  generalize c.length = n3 at *
  generalize l.length = n4 at *
  generalize o.length = n5 at *
  go_enter Try.func48, Try.ntmps48
  go_wp2_with fail
  refine HT1.out.mono ?_
  rintro e w' ⟨rfl, rfl⟩
  go_wp2_with fail
  refine HT2.out.mono ?_
  rintro e w' ⟨rfl, rfl⟩
  go_wp2_with fail
  refine HRM.out.mono ?_
  rintro e w' ⟨rfl, rfl⟩
  go_wp2
  go_ret
  exact ⟨ret_bool (by simp), rfl⟩
set_option maxRecDepth 100000 in
set_option maxHeartbeats 1000000 in
theorem implHasConf_any (vk vr vc vl vo : Value) (k : List (List Int)) (r c l o : List Int) (w : World) (hk : InMat w vk k) (hr : InRow w vr r) (hc : InRow w vc c) (hl : InRow w vl l) (ho : InRow w vo o) :
    Calls Try.prog 13 #[vk, vr, vc, vl, vo] w fun e w' => e = .returned (.bool (hasConfB k r c l o)) ∧ Below w.heap.size w w' := by
  have HMO := hide (implMaskOk_any vk vr vc k r c w hk hr hc)
  have HA := hide fun w' (hw : Below w.heap.size w w') (h5 : r.length ≤ 5) => ascends_any vl l r.length w' h5 (inRow_below hl hw)
  have HB := hide fun w' (hw : Below w.heap.size w w') (h5 : c.length ≤ 5) => ascends_any vo o c.length w' h5 (inRow_below ho hw)
  have HC := hide fun w' (hw : Below w.heap.size w w') hm ha hb => conflicts_any vk vr vc vl vo k r c l o w' (inMat_below hk hw) (inRow_below hr hw) (inRow_below hc hw) (inRow_below hl hw) (inRow_below ho hw) hm ha hb
  have HD := hide (show hasConfB k r c l o = (maskB k r c && ascB r.length l && ascB c.length o && confB k r c l o) from rfl)
  rw [HD.out]
  cases h1 : maskB k r c with
  | false =>
    rw [h1] at HMO
    clear HA HB HC HD h1
    obtain ⟨ak, ck, rfl, -, -⟩ := hk
    obtain ⟨ar, cr, rfl, -, -⟩ := hr
    obtain ⟨ac, cc, rfl, -, -⟩ := hc
    obtain ⟨al, cl, rfl, -, -⟩ := hl
    obtain ⟨ao, co, rfl, -, -⟩ := ho
    generalize k.length = n1 at *
    generalize r.length = n2 at *
    generalize c.length = n3 at *
    generalize l.length = n4 at *
    generalize o.length = n5 at *
    go_enter Try.func13, Try.ntmps13
    go_wp2_with (go_at_call 12; refine HMO.out.mono ?_; rintro e w1 ⟨rfl, b1⟩; have B1 := hide b1; clear b1)
    go_ret
    exact ⟨rfl, B1.out⟩
  | true =>
    rw [h1] at HMO HC
    obtain ⟨hs, -⟩ := mask_parts h1
    obtain ⟨hr5, hc5, -⟩ := sumsOk_yes hs
    have HA := hide fun w' (hw : Below w.heap.size w w') => HA.out w' hw hr5.2
    have HB := hide fun w' (hw : Below w.heap.size w w') => HB.out w' hw hc5.2
    have HC := hide fun w' (hw : Below w.heap.size w w') => HC.out w' hw rfl
    obtain ⟨p, hp⟩ : ∃ p, p = ascB r.length l := ⟨_, rfl⟩
    obtain ⟨q, hq⟩ : ∃ q, q = ascB c.length o := ⟨_, rfl⟩
    obtain ⟨t, htt⟩ : ∃ t, t = confB k r c l o := ⟨_, rfl⟩
    rw [← hp] at HA HC ⊢
    rw [← hq] at HB HC ⊢
    rw [← htt] at HC ⊢
    clear HD h1 hs hr5 hc5 hp hq htt
    obtain ⟨ak, ck, rfl, -, -⟩ := hk
    obtain ⟨ar, cr, rfl, -, -⟩ := hr
    obtain ⟨ac, cc, rfl, -, -⟩ := hc
    obtain ⟨al, cl, rfl, -, -⟩ := hl
    obtain ⟨ao, co, rfl, -, -⟩ := ho
    generalize k.length = n1 at *
    generalize r.length = n2 at *
    generalize c.length = n3 at *
    generalize l.length = n4 at *
    generalize o.length = n5 at *
    cases p with
    | false =>
      go_enter Try.func13, Try.ntmps13
      go_wp2_with (first | (go_at_call 12; refine HMO.out.mono ?_; rintro e w1 ⟨rfl, b1⟩; have B1 := hide b1; clear b1) | ((with_reducible refine (HA.out _ B1.out).mono ?_); rintro e w2 ⟨rfl, rfl⟩))
      go_ret
      exact ⟨rfl, B1.out⟩
    | true =>
      cases q with
      | false =>
        go_enter Try.func13, Try.ntmps13
        go_wp2_with (first | (go_at_call 12; refine HMO.out.mono ?_; rintro e w1 ⟨rfl, b1⟩; have B1 := hide b1; clear b1) | ((with_reducible refine (HA.out _ B1.out).mono ?_); rintro e w2 ⟨rfl, rfl⟩) | ((with_reducible refine (HB.out _ B1.out).mono ?_); rintro e w2 ⟨rfl, rfl⟩))
        go_ret
        exact ⟨rfl, B1.out⟩
      | true =>
        have HC3 := hide fun w' (hw : Below w.heap.size w w') => HC.out w' hw rfl rfl
        clear HC
        go_enter Try.func13, Try.ntmps13
        go_wp2_with (first | (go_at_call 12; refine HMO.out.mono ?_; rintro e w1 ⟨rfl, b1⟩; have B1 := hide b1; clear b1) | ((with_reducible refine (HA.out _ B1.out).mono ?_); rintro e w2 ⟨rfl, rfl⟩) | ((with_reducible refine (HB.out _ B1.out).mono ?_); rintro e w2 ⟨rfl, rfl⟩) | ((with_reducible refine (HC3.out _ B1.out).mono ?_); rintro e w2 ⟨rfl, rfl⟩))
        go_ret
        exact ⟨ret_bool (by simp), B1.out⟩
end Go.Proofs.Ytjgkblgilnfpfaa
/-
  HasConflict, of the model.
-/
namespace Go.Proofs.Ytjgkblgilnfpfaa
open Go.RowKit Go.Shelf

set_option maxHeartbeats 1000000 in
theorem l08Has_any (v : Value) (l : List Int) (y : Nat) (w : World) (hin : InRow w v l) :
    Calls Try.prog 99 #[v, .int .i64 y] w fun e w' => e = .returned (.bool (hasB l y)) ∧ w = w' := by
  obtain ⟨a, c, rfl, hm, hp⟩ := hin
  unfold maxLen at hm
  have HP := hide hp
  obtain ⟨n, hn⟩ : ∃ n, n = l.length := ⟨_, rfl⟩
  have HN := hide hn
  rw [← hn] at hm ⊢
  clear hp hn
  go_enter Try.func99, Try.ntmps99
  go_wp2
  go_loop [9] (fun i => ∃ k : Nat, k ≤ n ∧ i = .int .i64 k ∧ ∀ t, (h : t < l.length) → t < k → l[t] ≠ y) (fun i => n - (intOf i).toNat)
  case atStart => exact ⟨0, Nat.zero_le _, rfl, fun t _ h => absurd h (Nat.not_lt_zero _)⟩
  case round =>
    obtain ⟨k, hk, rfl, hall⟩ := hrel
    have HA := hide hall
    clear hall
    by_cases hlt : k < n
    · have hk' : k < l.length := by rw [← HN.out]; exact hlt
      obtain ⟨g, o, rfl, hg, hc⟩ := HP.out.resolve_left (by omega)
      have hx := hc k hk'
      have HYES := hide (fun h => hasB_at (y := y) k hk' h)
      have HST : Hid (l[k] ≠ y → ∀ t, (h : t < l.length) → t < k + 1 → l[t] ≠ y) := hide fun h t h1 ht => by
        by_cases e : t = k
        · subst e; exact h
        · exact HA.out t h1 (by omega)
      obtain ⟨x, hxx⟩ : ∃ x, x = l[k] := ⟨_, rfl⟩
      rw [← hxx] at hx HYES HST
      clear hxx hc
      by_cases e : x = y
      · have HF := hide (HYES.out e)
        subst e
        clear HYES HST
        go_wp2
        go_ret
        exact ⟨ret_bool HF.out.symm, rfl⟩
      · have HS2 := hide (HST.out e)
        have hb2 : (x == y) = false := by simp [e]
        clear HYES HST e
        go_wp2
        go_round
        case rel => exact ⟨k + 1, by omega, by go_num, HS2.out⟩
        case measure => simp [intOf]; omega
    · have HY := hide (hasB_no fun t h => HA.out t h (by have := HN.out; omega))
      go_wp2
      go_ret
      exact ⟨ret_bool HY.out.symm, rfl⟩
set_option maxHeartbeats 1000000 in
theorem l08List_any (v : Value) (l : List Int) (n : Nat) (w : World) (hn : n ≤ 5) (hin : InRow w v l) :
    Calls Try.prog 65 #[v, .int .i64 n] w fun e w' => e = .returned (.bool (ascB n l)) ∧ w = w' := by
  obtain ⟨a, c, rfl, hm, hp⟩ := hin
  unfold maxLen at hm
  have HP := hide hp
  obtain ⟨k, hk⟩ : ∃ k, k = l.length := ⟨_, rfl⟩
  have HN := hide hk
  rw [← hk] at hm ⊢
  clear hp hk
  go_enter Try.func65, Try.ntmps65
  go_wp2
  go_loop [9] (fun i => ∃ t : Nat, t ≤ k ∧ i = .int .i64 t ∧ ∀ j, j < t → ascP n l j = true) (fun i => k - (intOf i).toNat)
  case atStart => exact ⟨0, Nat.zero_le _, rfl, fun j h => absurd h (Nat.not_lt_zero _)⟩
  case round =>
    obtain ⟨t, ht, rfl, hall⟩ := hrel
    have HA := hide hall
    clear hall
    by_cases hlt : t < k
    · have ht' : t < l.length := by rw [← HN.out]; exact hlt
      obtain ⟨g, o, rfl, hg, hc⟩ := HP.out.resolve_left (by omega)
      have hx := hc t ht'
      have hgt : l.getD t 0 = l[t] := by rw [List.getD_eq_getElem?_getD, List.getElem?_eq_getElem ht', Option.getD_some]
      obtain ⟨x, hxx⟩ : ∃ x, x = l[t] := ⟨_, rfl⟩
      rw [← hxx] at hx hgt
      have HIN := hide fun w' => l01In_any x 0 ((n : Int) - 1) w'
      have HD := hide (show decide (0 ≤ x ∧ x ≤ (n : Int) - 1) = decide (0 ≤ x ∧ x < n) from decide_eq_decide.2 (by omega))
      rw [HD.out] at HIN
      obtain ⟨d, hd⟩ : ∃ d, d = decide (0 ≤ x ∧ x < (n : Int)) := ⟨_, rfl⟩
      rw [← hd] at HIN
      by_cases h0 : t = 0
      · subst h0
        rw [Nat.add_zero] at hx
        have HP0 : Hid (ascP n l 0 = d) := hide (by unfold ascP; rw [hgt, ← hd]; simp)
        have HNO := hide (fun h => asc_no (n := (n : Int)) ht' h)
        rw [HP0.out] at HNO
        clear hgt hxx hc HD hd
        cases d with
        | true =>
          clear HNO
          go_wp2_with (go_at_call 85; refine (HIN.out _).mono ?_; rintro e w9 ⟨rfl, rfl⟩)
          go_round
          case rel => exact ⟨1, by omega, by go_num, fun j hj => by rw [show j = 0 by omega]; exact HP0.out⟩
          case measure => simp [intOf]; omega
        | false =>
          have HF := hide (HNO.out rfl)
          clear HNO
          go_wp2_with (go_at_call 85; refine (HIN.out _).mono ?_; rintro e w9 ⟨rfl, rfl⟩)
          go_ret
          exact ⟨ret_bool HF.out.symm, rfl⟩
      · obtain ⟨s, rfl⟩ : ∃ s, t = s + 1 := ⟨t - 1, by omega⟩
        have hs' : s < l.length := by omega
        have hz := hc s hs'
        have hgs : l.getD s 0 = l[s] := by rw [List.getD_eq_getElem?_getD, List.getElem?_eq_getElem hs', Option.getD_some]
        obtain ⟨z, hzz⟩ : ∃ z, z = l[s] := ⟨_, rfl⟩
        rw [← hzz] at hz hgs
        have HP0 : Hid (ascP n l (s + 1) = (d && decide (z < x))) := hide (by unfold ascP; rw [hgt, ← hd, Nat.add_sub_cancel, hgs]; rfl)
        have HNO := hide (fun h => asc_no (n := (n : Int)) ht' h)
        rw [HP0.out] at HNO
        have hsi : ((s + 1 : Nat) : Int) - 1 = (s : Int) := by omega
        have hsl : s < k := by omega
        have hpos : (0 : Int) < ((s + 1 : Nat) : Int) := by omega
        clear hgt hxx hc HD hd hgs hzz h0
        cases d with
        | false =>
          have HF := hide (HNO.out rfl)
          clear HNO
          go_wp2_with (go_at_call 85; refine (HIN.out _).mono ?_; rintro e w9 ⟨rfl, rfl⟩)
          go_ret
          exact ⟨ret_bool HF.out.symm, rfl⟩
        | true =>
          by_cases hlx : z < x
          · have HT : Hid (ascP n l (s + 1) = true) := hide (by rw [HP0.out, decide_eq_true hlx]; rfl)
            clear HNO HP0
            go_wp2_with (go_at_call 85; refine (HIN.out _).mono ?_; rintro e w9 ⟨rfl, rfl⟩)
            go_round
            case rel => exact ⟨s + 2, by omega, by go_num, fun j hj => by
              by_cases e : j = s + 1
              · subst e; exact HT.out
              · exact HA.out j (by omega)⟩
            case measure => simp [intOf]; omega
          · have HF := hide (HNO.out (by rw [decide_eq_false hlx]; rfl))
            clear HNO HP0
            go_wp2_with (go_at_call 85; refine (HIN.out _).mono ?_; rintro e w9 ⟨rfl, rfl⟩)
            go_ret
            exact ⟨ret_bool HF.out.symm, rfl⟩
    · have HY := hide (asc_yes (n := n) fun j hj => HA.out j (by have := HN.out; omega))
      go_wp2
      go_ret
      exact ⟨ret_bool HY.out.symm, rfl⟩

set_option maxRecDepth 100000 in
set_option maxHeartbeats 4000000 in
theorem l08Conflict_any (vk vr vc vl vo : Value) (k : List (List Int)) (r c l o : List Int) (w : World) (hk : InMat w vk k) (hr : InRow w vr r) (hc : InRow w vc c) (hl : InRow w vl l) (ho : InRow w vo o) (hm : maskB k r c = true) (ha : ascB r.length l = true) (hb : ascB c.length o = true) :
    Calls Try.prog 66 #[vk, vr, vc, vl, vo] w fun e w' => e = .returned (.bool (confB k r c l o)) ∧ w = w' := by
  have hM := maskIn_of hk hm
  obtain ⟨hs, -⟩ := mask_parts hm
  obtain ⟨hx, hy⟩ := sums_cells hs
  have HL := hide fun y => l08Has_any vl l y w hl
  have HO := hide fun x => l08Has_any vo o x w ho
  have HT1 := hide fun t => totalL_range r (l.take t) hx
  have HT2 := hide fun t => totalL_range c (o.take t) hy
  have HN1 := hide fun t (ht : t < l.length) => totalL_snoc r l t ht
  have HN2 := hide fun t (ht : t < o.length) => totalL_snoc c o t ht
  have HR1 := hide fun t (ht : t < l.length) => asc_range ha ht
  have HR2 := hide fun t (ht : t < o.length) => asc_range hb ht
  have HX := hide hx; have HY := hide hy
  have hl1 := asc_len (Int.natCast_nonneg _) ha
  have hl2 := asc_len (Int.natCast_nonneg _) hb
  have HCB := hide (show confB k r c l o = decide (roomP k l o c.length r.length < totalL r l - totalL c o) from rfl)
  obtain ⟨hin, hkR, hkC, ⟨hR1, hR5⟩, hC1, hC5⟩ := hM
  have HP := hide (roomP_range k l o c.length hC5)
  have HQ := hide (roomR_range k l o)
  obtain ⟨ans, hans⟩ : ∃ ans, ans = confB k r c l o := ⟨_, rfl⟩
  rw [← hans] at HCB ⊢
  clear hm ha hb hs hx hy hans
  obtain ⟨al, cl, rfl, hml, hpl⟩ := hl
  obtain ⟨ao, co, rfl, hmo, hpo⟩ := ho
  obtain ⟨ak, ck, rfl, hmk, hpk⟩ := hin
  obtain ⟨ar', cr', rfl, hmr', hpr'⟩ := hr
  obtain ⟨ac', cc', rfl, hmc', hpc'⟩ := hc
  unfold maxLen at hmk hml hmo hmr' hmc'
  obtain ⟨g, og, rfl, hg, hcell⟩ := hpk.resolve_left (by omega)
  obtain ⟨gr', or', rfl, hgr', hcr'⟩ := hpr'.resolve_left (by omega)
  obtain ⟨gc', oc', rfl, hgc', hcc'⟩ := hpc'.resolve_left (by omega)
  have HC := hide hcell; have HKC := hide hkC; have HKR := hide hkR; have HCR' := hide hcr'; have HCC' := hide hcc'; have HPL := hide hpl; have HPO := hide hpo
  have HE1 := hide (show totalL r l = totalL r (l.take l.length) by rw [List.take_length])
  have HE2 := hide (show totalL c o = totalL c (o.take o.length) by rw [List.take_length])
  obtain ⟨nl, hnl⟩ : ∃ n, n = l.length := ⟨_, rfl⟩
  obtain ⟨no, hno⟩ : ∃ n, n = o.length := ⟨_, rfl⟩
  obtain ⟨R, hRR⟩ : ∃ n, n = r.length := ⟨_, rfl⟩
  obtain ⟨C, hCC⟩ : ∃ n, n = c.length := ⟨_, rfl⟩
  have HNL := hide hnl; have HNO := hide hno; have HRR := hide hRR; have HCC := hide hCC
  rw [hkR] at hmk ⊢
  rw [← hnl] at hml hl1 HE1 HL
  rw [← hno] at hmo hl2 HE2 HO
  rw [← hRR] at hmk hmr' hl1 hR1 hR5 HKR HCB
  rw [← hCC] at hmc' hl2 hC1 hC5 HKC HP HCB
  rw [← hRR, ← hnl, ← hno, ← hCC]
  have hl5 : nl ≤ 5 := by omega
  have ho5 : no ≤ 5 := by omega
  clear hpk hcell hkC hkR hpr' hpc' hcr' hcc' hpl hpo hnl hno hRR hCC hl1 hl2
  go_enter Try.func66, Try.ntmps66
  go_wp2
  go_loop [11, 25] (fun q i => ∃ t : Nat, t ≤ nl ∧ i = .int .i64 t ∧ q = .int .i64 (totalL r (l.take t))) (fun _ i => nl - (intOf i).toNat)
  case atStart => exact ⟨0, Nat.zero_le _, rfl, rfl⟩
  case round =>
    obtain ⟨t, ht, rfl, rfl⟩ := hrel
    obtain ⟨ht1, ht2⟩ := HT1.out t
    have htl : (l.take t).length ≤ t := by rw [List.length_take]; omega
    by_cases hlt : t < nl
    · have hk : t < l.length := by rw [← HNL.out]; exact hlt
      obtain ⟨gl, ol, rfl, hgl, hcl⟩ := HPL.out.resolve_left (by have := HNL.out; omega)
      have hy := hcl t hk
      obtain ⟨hr1, hr2⟩ := HR1.out t hk
      have hsn := HN1.out t hk
      have hg2 : l.getD t 0 = l[t] := by rw [List.getD_eq_getElem?_getD, List.getElem?_eq_getElem hk, Option.getD_some]
      rw [hg2] at hr1 hr2
      obtain ⟨x, hxx⟩ : ∃ x : Nat, (x : Int) = l[t] := ⟨l[t].toNat, by omega⟩
      rw [← hxx] at hy hr2 hsn
      rw [← HRR.out] at hr2
      have hxs : x < r.length := by rw [← HRR.out]; omega
      have hz := HCR'.out x hxs
      have hgs : r.getD (x : Int).toNat 0 = r[x] := by rw [Int.toNat_natCast, List.getD_eq_getElem?_getD, List.getElem?_eq_getElem hxs, Option.getD_some]
      obtain ⟨hz1, hz2⟩ := HX.out r[x] (List.getElem_mem hxs)
      rw [hgs] at hsn
      have HST := hide hsn
      obtain ⟨z, hzz⟩ : ∃ z, z = r[x] := ⟨_, rfl⟩
      rw [← hzz] at hz hz1 hz2 HST
      obtain ⟨q, hq⟩ : ∃ q, q = totalL r (l.take t) := ⟨_, rfl⟩
      rw [← hq] at ht1 ht2 HST ⊢
      have hq2 : q ≤ 25 := by omega
      clear hsn hg2 hxx hgs hzz hq hr1 ht2 hcl
      go_wp2
      go_round
      case rel => exact ⟨t + 1, by omega, by go_num, by rw [HST.out]⟩
      case measure => simp [intOf]; omega
    · obtain rfl : t = nl := by omega
      rw [← HE1.out] at ht1 ht2 ⊢
      obtain ⟨A, hA⟩ : ∃ A, A = totalL r l := ⟨_, rfl⟩
      rw [← hA] at ht1 ht2 HCB ⊢
      have hA2 : A ≤ 25 := by omega
      clear hA ht2 HE1
      go_wp2
      go_loop [11, 38] (fun q i => ∃ t : Nat, t ≤ no ∧ i = .int .i64 t ∧ q = .int .i64 (A - totalL c (o.take t))) (fun _ i => no - (intOf i).toNat)
      case atStart => exact ⟨0, Nat.zero_le _, rfl, by simp [totalL]⟩
      case round =>
        obtain ⟨t, ht, rfl, rfl⟩ := hrel
        obtain ⟨hu1, hu2⟩ := HT2.out t
        have hul : (o.take t).length ≤ t := by rw [List.length_take]; omega
        by_cases hlt : t < no
        · have hk : t < o.length := by rw [← HNO.out]; exact hlt
          obtain ⟨gl, ol, rfl, hgl, hcl⟩ := HPO.out.resolve_left (by have := HNO.out; omega)
          have hy := hcl t hk
          obtain ⟨hr1, hr2⟩ := HR2.out t hk
          have hsn := HN2.out t hk
          have hg2 : o.getD t 0 = o[t] := by rw [List.getD_eq_getElem?_getD, List.getElem?_eq_getElem hk, Option.getD_some]
          rw [hg2] at hr1 hr2
          obtain ⟨x, hxx⟩ : ∃ x : Nat, (x : Int) = o[t] := ⟨o[t].toNat, by omega⟩
          rw [← hxx] at hy hr2 hsn
          rw [← HCC.out] at hr2
          have hxs : x < c.length := by rw [← HCC.out]; omega
          have hz := HCC'.out x hxs
          have hgs : c.getD (x : Int).toNat 0 = c[x] := by rw [Int.toNat_natCast, List.getD_eq_getElem?_getD, List.getElem?_eq_getElem hxs, Option.getD_some]
          obtain ⟨hz1, hz2⟩ := HY.out c[x] (List.getElem_mem hxs)
          rw [hgs] at hsn
          have HST := hide hsn
          obtain ⟨z, hzz⟩ : ∃ z, z = c[x] := ⟨_, rfl⟩
          rw [← hzz] at hz hz1 hz2 HST
          obtain ⟨q, hq⟩ : ∃ q, q = totalL c (o.take t) := ⟨_, rfl⟩
          rw [← hq] at hu1 hu2 HST ⊢
          have hq2 : q ≤ 25 := by omega
          clear hsn hg2 hxx hgs hzz hq hr1 hu2 hcl
          go_wp2
          go_round
          case rel => exact ⟨t + 1, by omega, by go_num, by rw [HST.out, Int.sub_sub]⟩
          case measure => simp [intOf]; omega
        · obtain rfl : t = no := by omega
          rw [← HE2.out] at hu1 hu2 ⊢
          obtain ⟨B, hB⟩ : ∃ B, B = totalL c o := ⟨_, rfl⟩
          rw [← hB] at hu1 hu2 HCB ⊢
          have hB2 : B ≤ 25 := by omega
          clear hB hu2 HE2
          go_wp2
          go_loop [16, 51] (fun q i => ∃ y : Nat, y ≤ R ∧ i = .int .i64 y ∧ q = .int .i64 (roomP k l o C y)) (fun _ i => R - (intOf i).toNat)
          case atStart => exact ⟨0, Nat.zero_le _, rfl, rfl⟩
          case round =>
            obtain ⟨y, hy, rfl, rfl⟩ := hrel
            by_cases hlt : y < R
            · have hyk : y < k.length := by rw [HKR.out]; exact hlt
              obtain ⟨u, hx, hr⟩ := HC.out y hyk
              obtain ⟨ar, cr, rfl, hmr, hpr⟩ := hr
              unfold maxLen at hmr
              have hw := HKC.out y hyk
              obtain ⟨row, hrow⟩ : ∃ row, row = k[y] := ⟨_, rfl⟩
              have HG := hide (show k.getD y [] = row by rw [List.getD_eq_getElem?_getD, List.getElem?_eq_getElem hyk, Option.getD_some, hrow])
              rw [← hrow] at hx hmr hpr hw
              obtain ⟨gr, og2, rfl, hgr, hcr⟩ := hpr.resolve_left (by omega)
              have HCR := hide hcr; have HW := hide hw
              rw [hw] at hx hmr
              obtain ⟨hp1, hp2⟩ := HP.out y
              have HPS := hide (roomP_snoc k l o C y)
              obtain ⟨rp, hrp⟩ : ∃ rp, rp = roomP k l o C y := ⟨_, rfl⟩
              rw [← hrp] at hp1 hp2 HPS ⊢
              have HIL := hide (HL.out y)
              obtain ⟨bl, hbl⟩ : ∃ bl, bl = hasB l y := ⟨_, rfl⟩
              have HBL := hide hbl
              rw [← hbl] at HIL
              clear hpr hcr hw hrow hrp hbl
              go_wp2
              go_loop [16, 58] (fun q i => ∃ x : Nat, x ≤ C ∧ i = .int .i64 x ∧ q = .int .i64 (rp + roomR k l o y x)) (fun _ i => C - (intOf i).toNat)
              case atStart => exact ⟨0, Nat.zero_le _, rfl, by simp [roomR, Mx.S]⟩
              case round =>
                obtain ⟨x, hxC, rfl, rfl⟩ := hrel
                obtain ⟨hq1, hq2⟩ := HQ.out y x
                by_cases hlx : x < C
                · have hxr : x < row.length := by rw [HW.out]; exact hlx
                  have hv := HCR.out x hxr
                  have HRS := hide (roomR_snoc k l o y x HG.out (v := row[x]) (by rw [List.getD_eq_getElem?_getD, List.getElem?_eq_getElem hxr, Option.getD_some]))
                  obtain ⟨v, hvv⟩ : ∃ v, v = row[x] := ⟨_, rfl⟩
                  rw [← hvv, ← HBL.out] at HRS
                  rw [← hvv] at hv
                  have HIO := hide (HO.out x)
                  obtain ⟨d, hd⟩ : ∃ d, d = hasB o x := ⟨_, rfl⟩
                  rw [← hd] at HIO HRS
                  obtain ⟨rr, hrr⟩ : ∃ rr, rr = roomR k l o y x := ⟨_, rfl⟩
                  rw [← hrr] at hq1 hq2 HRS ⊢
                  clear hvv hd hrr
                  cases bl with
                  | true =>
                    cases d with
                    | true =>
                      have HZ := hide (cellC_none (a := true) (d := true) (v := v) rfl rfl)
                      go_wp2_with (first | ((with_reducible refine HIL.out.mono ?_); rintro e w9 ⟨rfl, rfl⟩) | ((with_reducible refine HIO.out.mono ?_); rintro e w9 ⟨rfl, rfl⟩))
                      go_round
                      case rel => exact ⟨x + 1, by omega, by go_num, by rw [HRS.out, HZ.out, Int.add_zero]⟩
                      case measure => simp [intOf]; omega
                    | false =>
                      by_cases e0 : v = 0
                      · subst e0
                        have HZ := hide (cellC_none (a := true) (d := false) (v := 0) rfl rfl)
                        go_wp2_with (first | ((with_reducible refine HIL.out.mono ?_); rintro e w9 ⟨rfl, rfl⟩) | ((with_reducible refine HIO.out.mono ?_); rintro e w9 ⟨rfl, rfl⟩))
                        go_round
                        case rel => exact ⟨x + 1, by omega, by go_num, by rw [HRS.out, HZ.out, Int.add_zero]⟩
                        case measure => simp [intOf]; omega
                      · have b0 : (v != 0) = true := by simp [e0]
                        have HZ := hide (cellC_add (a := true) (d := false) (v := v) (by simp [e0]))
                        go_wp2_with (first | ((with_reducible refine HIL.out.mono ?_); rintro e w9 ⟨rfl, rfl⟩) | ((with_reducible refine HIO.out.mono ?_); rintro e w9 ⟨rfl, rfl⟩))
                        go_round
                        case rel => exact ⟨x + 1, by omega, by go_num, by rw [HRS.out, HZ.out, Int.add_assoc]⟩
                        case measure => simp [intOf]; omega
                  | false =>
                    cases d with
                    | false =>
                      have HZ := hide (cellC_none (a := false) (d := false) (v := v) rfl rfl)
                      go_wp2_with (first | ((with_reducible refine HIL.out.mono ?_); rintro e w9 ⟨rfl, rfl⟩) | ((with_reducible refine HIO.out.mono ?_); rintro e w9 ⟨rfl, rfl⟩))
                      go_round
                      case rel => exact ⟨x + 1, by omega, by go_num, by rw [HRS.out, HZ.out, Int.add_zero]⟩
                      case measure => simp [intOf]; omega
                    | true =>
                      by_cases e1 : v = 1
                      · subst e1
                        have HZ := hide (cellC_sub (a := false) (d := true) (v := 1) rfl)
                        go_wp2_with (first | ((with_reducible refine HIL.out.mono ?_); rintro e w9 ⟨rfl, rfl⟩) | ((with_reducible refine HIO.out.mono ?_); rintro e w9 ⟨rfl, rfl⟩))
                        go_round
                        case rel => exact ⟨x + 1, by omega, by go_num, by rw [HRS.out, HZ.out, ← Int.add_assoc]; rfl⟩
                        case measure => simp [intOf]; omega
                      · have b1 : (v == 1) = false := by simp [e1]
                        have HZ := hide (cellC_none (a := false) (d := true) (v := v) rfl (by simp [e1]))
                        go_wp2_with (first | ((with_reducible refine HIL.out.mono ?_); rintro e w9 ⟨rfl, rfl⟩) | ((with_reducible refine HIO.out.mono ?_); rintro e w9 ⟨rfl, rfl⟩))
                        go_round
                        case rel => exact ⟨x + 1, by omega, by go_num, by rw [HRS.out, HZ.out, Int.add_zero]⟩
                        case measure => simp [intOf]; omega
                · obtain rfl : x = C := by omega
                  go_wp2
                  go_round
                  case rel => exact ⟨y + 1, by omega, by go_num, by rw [HPS.out]⟩
                  case measure => simp [intOf]; omega
            · obtain rfl : y = R := by omega
              obtain ⟨hp1, hp2⟩ := HP.out y
              obtain ⟨rp, hrp⟩ : ∃ rp, rp = roomP k l o C y := ⟨_, rfl⟩
              have HCB2 := hide (show ans = decide (rp < A - B) by rw [hrp]; exact HCB.out)
              rw [← hrp] at hp1 hp2 ⊢
              clear hrp
              go_wp2
              go_ret
              exact ⟨ret_bool (by rw [HCB2.out]), rfl⟩
set_option maxRecDepth 100000 in
set_option maxHeartbeats 1000000 in
theorem specHasConf_any (vk vr vc vl vo : Value) (k : List (List Int)) (r c l o : List Int) (w : World) (hk : InMat w vk k) (hr : InRow w vr r) (hc : InRow w vc c) (hl : InRow w vl l) (ho : InRow w vo o) :
    Calls Try.prog 35 #[vk, vr, vc, vl, vo] w fun e w' => e = .returned (.bool (hasConfB k r c l o)) ∧ Below w.heap.size w w' := by
  have HMO := hide (specMaskOk_any vk vr vc k r c w hk hr hc)
  have HA := hide fun w' (hw : Below w.heap.size w w') (h5 : r.length ≤ 5) => l08List_any vl l r.length w' h5 (inRow_below hl hw)
  have HB := hide fun w' (hw : Below w.heap.size w w') (h5 : c.length ≤ 5) => l08List_any vo o c.length w' h5 (inRow_below ho hw)
  have HC := hide fun w' (hw : Below w.heap.size w w') hm ha hb => l08Conflict_any vk vr vc vl vo k r c l o w' (inMat_below hk hw) (inRow_below hr hw) (inRow_below hc hw) (inRow_below hl hw) (inRow_below ho hw) hm ha hb
  have HD := hide (show hasConfB k r c l o = (maskB k r c && ascB r.length l && ascB c.length o && confB k r c l o) from rfl)
  rw [HD.out]
  cases h1 : maskB k r c with
  | false =>
    rw [h1] at HMO
    clear HA HB HC HD h1
    obtain ⟨ak, ck, rfl, -, -⟩ := hk
    obtain ⟨ar, cr, rfl, -, -⟩ := hr
    obtain ⟨ac, cc, rfl, -, -⟩ := hc
    obtain ⟨al, cl, rfl, -, -⟩ := hl
    obtain ⟨ao, co, rfl, -, -⟩ := ho
    generalize k.length = n1 at *
    generalize r.length = n2 at *
    generalize c.length = n3 at *
    generalize l.length = n4 at *
    generalize o.length = n5 at *
    go_enter Try.func35, Try.ntmps35
    go_wp2_with (go_at_call 31; refine HMO.out.mono ?_; rintro e w1 ⟨rfl, b1⟩; have B1 := hide b1; clear b1)
    go_ret
    exact ⟨rfl, B1.out⟩
  | true =>
    rw [h1] at HMO HC
    obtain ⟨hs, -⟩ := mask_parts h1
    obtain ⟨hr5, hc5, -⟩ := sumsOk_yes hs
    have HA := hide fun w' (hw : Below w.heap.size w w') => HA.out w' hw hr5.2
    have HB := hide fun w' (hw : Below w.heap.size w w') => HB.out w' hw hc5.2
    have HC := hide fun w' (hw : Below w.heap.size w w') => HC.out w' hw rfl
    obtain ⟨p, hp⟩ : ∃ p, p = ascB r.length l := ⟨_, rfl⟩
    obtain ⟨q, hq⟩ : ∃ q, q = ascB c.length o := ⟨_, rfl⟩
    obtain ⟨t, htt⟩ : ∃ t, t = confB k r c l o := ⟨_, rfl⟩
    rw [← hp] at HA HC ⊢
    rw [← hq] at HB HC ⊢
    rw [← htt] at HC ⊢
    clear HD h1 hs hr5 hc5 hp hq htt
    obtain ⟨ak, ck, rfl, -, -⟩ := hk
    obtain ⟨ar, cr, rfl, -, -⟩ := hr
    obtain ⟨ac, cc, rfl, -, -⟩ := hc
    obtain ⟨al, cl, rfl, -, -⟩ := hl
    obtain ⟨ao, co, rfl, -, -⟩ := ho
    generalize k.length = n1 at *
    generalize r.length = n2 at *
    generalize c.length = n3 at *
    generalize l.length = n4 at *
    generalize o.length = n5 at *
    cases p with
    | false =>
      go_enter Try.func35, Try.ntmps35
      go_wp2_with (first | (go_at_call 31; refine HMO.out.mono ?_; rintro e w1 ⟨rfl, b1⟩; have B1 := hide b1; clear b1) | ((with_reducible refine (HA.out _ B1.out).mono ?_); rintro e w2 ⟨rfl, rfl⟩))
      go_ret
      exact ⟨rfl, B1.out⟩
    | true =>
      cases q with
      | false =>
        go_enter Try.func35, Try.ntmps35
        go_wp2_with (first | (go_at_call 31; refine HMO.out.mono ?_; rintro e w1 ⟨rfl, b1⟩; have B1 := hide b1; clear b1) | ((with_reducible refine (HA.out _ B1.out).mono ?_); rintro e w2 ⟨rfl, rfl⟩) | ((with_reducible refine (HB.out _ B1.out).mono ?_); rintro e w2 ⟨rfl, rfl⟩))
        go_ret
        exact ⟨rfl, B1.out⟩
      | true =>
        have HC3 := hide fun w' (hw : Below w.heap.size w w') => HC.out w' hw rfl rfl
        clear HC
        go_enter Try.func35, Try.ntmps35
        go_wp2_with (first | (go_at_call 31; refine HMO.out.mono ?_; rintro e w1 ⟨rfl, b1⟩; have B1 := hide b1; clear b1) | ((with_reducible refine (HA.out _ B1.out).mono ?_); rintro e w2 ⟨rfl, rfl⟩) | ((with_reducible refine (HB.out _ B1.out).mono ?_); rintro e w2 ⟨rfl, rfl⟩) | ((with_reducible refine (HC3.out _ B1.out).mono ?_); rintro e w2 ⟨rfl, rfl⟩))
        go_ret
        exact ⟨ret_bool (by simp), B1.out⟩
end Go.Proofs.Ytjgkblgilnfpfaa
