/-
  Texts of this claim, one behind the other: Sums, LawsQ, AppR, Mask, Conj, MostS.
-/
import Derived.Test.YtjgkblgilnfpfaaPackC
import Derived.Test.YtjgkblgilnfpfaaPackA
import Derived.Test.YtjgkblgilnfpfaaRows
/-
  SumsOk, of the model and of the program.
-/
namespace Go.Proofs.Ytjgkblgilnfpfaa
open Go.RowKit

def badB (most x : Int) : Bool := decide (x < 0) || decide (most < x)
theorem any_no {p : Int → Bool} {r : List Int} (h : ∀ i, (hi : i < r.length) → p r[i] = false) : r.any p = false := by
  rw [Bool.eq_false_iff]; intro e
  rw [List.any_eq_true] at e
  obtain ⟨x, hx, hp⟩ := e
  obtain ⟨i, hi, rfl⟩ := List.getElem_of_mem hx
  rw [h i hi] at hp; cases hp
theorem any_yes {p : Int → Bool} {r : List Int} (i : Nat) (hi : i < r.length) (h : p r[i] = true) : r.any p = true := List.any_eq_true.2 ⟨_, List.getElem_mem hi, h⟩

set_option maxHeartbeats 400000 in
theorem bad_any (x most : Int) (g : Nat) (w : World) (hc : w.cell? ⟨g, 0, none⟩ = some (.int .i64 most)) :
    Calls Try.prog 105 #[.int .i64 x, .pointer (some ⟨g, 0, none⟩)] w fun e w' => e = .returned (.bool (badB most x)) ∧ w = w' := by
  have HB : Hid (badB most x = (decide (x < 0) || decide (most < x))) := hide rfl
  by_cases h1 : x < 0
  · go_enter Try.func105, Try.ntmps105
    go_wp2
    go_ret
    exact ⟨ret_bool (by rw [HB.out]; simp [h1]), rfl⟩
  · go_enter Try.func105, Try.ntmps105
    go_wp2
    go_ret
    exact ⟨ret_bool (by rw [HB.out]; simp; omega), rfl⟩

def IdxRes (b : Bool) (w : World) (e : Ending) (w' : World) : Prop := ∃ i : Int, e = .returned (.int .i64 i) ∧ -1 ≤ i ∧ b = decide (0 ≤ i) ∧ w = w'
set_option maxHeartbeats 1000000 in
theorem indexFunc_any (v : Value) (r : List Int) (most : Int) (q : Nat) (w : World) (hin : InRow w v r) (hq : w.cell? ⟨q, 0, none⟩ = some (.int .i64 most)) :
    Calls Try.prog 106 #[v, .func (.func 105) #[] #[.pointer (some ⟨q, 0, none⟩)]] w (IdxRes (r.any (badB most)) w) := by
  obtain ⟨a, c, rfl, hm, hp⟩ := hin
  unfold maxLen at hm
  by_cases h0 : r.length = 0
  · have hr : r = [] := List.eq_nil_of_length_eq_zero h0
    subst hr
    clear hp h0 hm
    go_enter Try.func106, Try.ntmps106
    go_wp2
    go_loop [8] (fun i => i = .int .i64 0) (fun _ => 0)
    case atStart => rfl
    case round =>
      obtain rfl := hrel
      go_wp2
      go_ret
      exact ⟨-1, rfl, by omega, rfl, rfl⟩
  · obtain ⟨g, o, rfl, hg, hc⟩ := hp.resolve_left h0
    have HC := hide hc
    obtain ⟨n, hn⟩ : ∃ n, n = r.length := ⟨_, rfl⟩
    have HN := hide hn
    rw [← hn] at hm ⊢
    clear hp hc h0 hn
    go_enter Try.func106, Try.ntmps106
    go_wp2
    go_loop [8] (fun i => ∃ k : Nat, k ≤ n ∧ i = .int .i64 k ∧ ∀ t, (h : t < r.length) → t < k → badB most r[t] = false) (fun i => n - (intOf i).toNat)
    case atStart => exact ⟨0, Nat.zero_le _, rfl, fun t _ h => absurd h (Nat.not_lt_zero _)⟩
    case round =>
      obtain ⟨k, hk, rfl, hall⟩ := hrel
      have HA := hide hall
      clear hall
      by_cases hlt : k < n
      · have hk' : k < r.length := by rw [← HN.out]; exact hlt
        have hx := HC.out k hk'
        have HNO := hide (fun h => any_yes (p := badB most) k hk' h)
        have HST : Hid (badB most r[k] = false → ∀ t, (h : t < r.length) → t < k + 1 → badB most r[t] = false) := hide fun h t h1 ht => by
          by_cases e : t = k
          · subst e; exact h
          · exact HA.out t h1 (by omega)
        obtain ⟨x, hxx⟩ : ∃ x, x = r[k] := ⟨_, rfl⟩
        rw [← hxx] at hx HNO HST
        clear hxx
        cases e : badB most x with
        | true =>
          have HE := hide e
          have HF := hide (HNO.out e)
          clear e
          go_wp2_with (go_at_call 105; refine (bad_any _ most q _ hq).mono ?_; rw [HE.out]; rintro e w9 ⟨rfl, rfl⟩)
          go_ret
          exact ⟨k, rfl, by omega, by rw [HF.out]; simp, rfl⟩
        | false =>
          have HE := hide e
          have HST := hide (HST.out e)
          clear e
          go_wp2_with (go_at_call 105; refine (bad_any _ most q _ hq).mono ?_; rw [HE.out]; rintro e w9 ⟨rfl, rfl⟩)
          go_round
          case rel => exact ⟨k + 1, by omega, by go_num, HST.out⟩
          case measure => simp [intOf]; omega
      · have HY := hide (any_no (p := badB most) fun t h => HA.out t h (by have := HN.out; omega))
        go_wp2
        go_ret
        exact ⟨-1, rfl, by omega, by rw [HY.out]; rfl, rfl⟩

set_option maxHeartbeats 400000 in
theorem containsFunc_any (v : Value) (r : List Int) (most : Int) (q : Nat) (w : World) (hin : InRow w v r) (hq : w.cell? ⟨q, 0, none⟩ = some (.int .i64 most)) :
    Calls Try.prog 79 #[v, .func (.func 105) #[] #[.pointer (some ⟨q, 0, none⟩)]] w fun e w' => e = .returned (.bool (r.any (badB most))) ∧ w = w' := by
  have HI := hide hin; have HQ := hide hq
  clear hin hq
  go_enter Try.func79, Try.ntmps79
  go_wp2_with fail
  refine (indexFunc_any v r most q _ HI.out HQ.out).mono ?_
  rintro e w1 ⟨i, rfl, hi, hb, rfl⟩
  have HB := hide hb
  clear hb
  by_cases h : 0 ≤ i
  · go_wp2
    go_ret
    exact ⟨ret_bool (by rw [HB.out]; simp [h]), rfl⟩
  · go_wp2
    go_ret
    exact ⟨ret_bool (by rw [HB.out]), rfl⟩

theorem sumsInRange_any (v : Value) (r : List Int) (most : Int) (w : World) (hin : InRow w v r) :
    Calls Try.prog 76 #[v, .int .i64 most] w fun e w' => e = .returned (.bool (!r.any (badB most))) ∧ Below w.heap.size w w' := by
  have HB := hide ((Below.refl w.heap.size w).alloc (Nat.le_refl _) (.cells #[.int .i64 most] 3))
  have HI := hide (inRow_below hin HB.out)
  have HQ := hide (show (w.alloc (.cells #[.int .i64 most] 3)).cell? ⟨w.heap.size, 0, none⟩ = some (.int .i64 most) by simp [World.cell?_alloc_new])
  clear hin
  go_enter Try.func76, Try.ntmps76
  go_wp2_with fail
  refine (containsFunc_any v r most w.heap.size _ HI.out HQ.out).mono ?_
  rintro e w1 ⟨rfl, rfl⟩
  go_wp2
  go_ret
  exact ⟨rfl, HB.out⟩

theorem sum_snoc (r : List Int) (k : Nat) (h : k < r.length) : (r.take (k + 1)).sum = (r.take k).sum + r[k] := by
  rw [List.take_succ_eq_append_getElem h, List.sum_append]; simp
def SmallL (r : List Int) : Prop := r.length ≤ 5 ∧ ∀ i, (h : i < r.length) → 0 ≤ r[i] ∧ r[i] ≤ 5
theorem sum_small {r : List Int} (h : SmallL r) : ∀ k, k ≤ r.length → 0 ≤ (r.take k).sum ∧ (r.take k).sum ≤ 5 * k := by
  intro k
  induction k with
  | zero => intro _; simp
  | succ k ih =>
    intro hk
    have := ih (by omega)
    have := h.2 k (by omega)
    rw [sum_snoc r k (by omega)]; omega
set_option maxHeartbeats 400000 in
theorem totalOf_any (v : Value) (r : List Int) (w : World) (hin : InRow w v r) (hs : SmallL r) :
    Calls Try.prog 77 #[v] w fun e w' => e = .returned (.int .i64 r.sum) ∧ w = w' := by
  obtain ⟨a, c, rfl, hm, hp⟩ := hin
  unfold maxLen at hm
  have HS := hide hs
  by_cases h0 : r.length = 0
  · have hr : r = [] := List.eq_nil_of_length_eq_zero h0
    subst hr
    clear hp h0 hm hs
    go_enter Try.func77, Try.ntmps77
    go_wp2
    go_loop [3, 8] (fun s i => s = .int .i64 0 ∧ i = .int .i64 0) (fun _ _ => 0)
    case atStart => exact ⟨rfl, rfl⟩
    case round =>
      obtain ⟨rfl, rfl⟩ := hrel
      go_wp2
      go_ret
      exact ⟨rfl, rfl⟩
  · obtain ⟨g, o, rfl, hg, hc⟩ := hp.resolve_left h0
    have HC := hide hc
    have h5 := hs.1
    obtain ⟨n, hn⟩ : ∃ n, n = r.length := ⟨_, rfl⟩
    have HN := hide hn
    rw [← hn] at hm h5 ⊢
    clear hp hc h0 hn hs
    go_enter Try.func77, Try.ntmps77
    go_wp2
    go_loop [3, 8] (fun s i => ∃ k : Nat, k ≤ n ∧ i = .int .i64 k ∧ s = .int .i64 (r.take k).sum) (fun _ i => n - (intOf i).toNat)
    case atStart => exact ⟨0, Nat.zero_le _, rfl, rfl⟩
    case round =>
      obtain ⟨k, hk, rfl, rfl⟩ := hrel
      obtain ⟨b1, b2⟩ := sum_small HS.out k (by rw [← HN.out]; exact hk)
      by_cases hlt : k < n
      · have hk' : k < r.length := by rw [← HN.out]; exact hlt
        have hx := HC.out k hk'
        have HST := hide (sum_snoc r k hk')
        obtain ⟨b3, b4⟩ := HS.out.2 k hk'
        obtain ⟨x, hxx⟩ : ∃ x, x = r[k] := ⟨_, rfl⟩
        obtain ⟨S, hSS⟩ : ∃ S, S = (r.take k).sum := ⟨_, rfl⟩
        rw [← hxx] at hx HST b3 b4
        rw [← hSS] at HST b1 b2 ⊢
        clear hxx hSS
        go_wp2
        go_round
        case rel => exact ⟨k + 1, by omega, by go_num, by rw [HST.out]⟩
        case measure => simp [intOf]; omega
      · have HE : Hid ((r.take k).sum = r.sum) := hide (by rw [List.take_of_length_le (by have := HN.out; omega)])
        rw [HE.out]
        clear b1 b2
        go_wp2
        go_ret
        exact ⟨rfl, rfl⟩

set_option maxHeartbeats 400000 in
theorem l03Total_any (v : Value) (r : List Int) (w : World) (hin : InRow w v r) (hs : SmallL r) :
    Calls Try.prog 86 #[v] w fun e w' => e = .returned (.int .i64 r.sum) ∧ w = w' := by
  obtain ⟨a, c, rfl, hm, hp⟩ := hin
  unfold maxLen at hm
  have HS := hide hs
  by_cases h0 : r.length = 0
  · have hr : r = [] := List.eq_nil_of_length_eq_zero h0
    subst hr
    clear hp h0 hm hs
    go_enter Try.func86, Try.ntmps86
    go_wp2
    go_loop [3, 8] (fun s i => s = .int .i64 0 ∧ i = .int .i64 0) (fun _ _ => 0)
    case atStart => exact ⟨rfl, rfl⟩
    case round =>
      obtain ⟨rfl, rfl⟩ := hrel
      go_wp2
      go_ret
      exact ⟨rfl, rfl⟩
  · obtain ⟨g, o, rfl, hg, hc⟩ := hp.resolve_left h0
    have HC := hide hc
    have h5 := hs.1
    obtain ⟨n, hn⟩ : ∃ n, n = r.length := ⟨_, rfl⟩
    have HN := hide hn
    rw [← hn] at hm h5 ⊢
    clear hp hc h0 hn hs
    go_enter Try.func86, Try.ntmps86
    go_wp2
    go_loop [3, 8] (fun s i => ∃ k : Nat, k ≤ n ∧ i = .int .i64 k ∧ s = .int .i64 (r.take k).sum) (fun _ i => n - (intOf i).toNat)
    case atStart => exact ⟨0, Nat.zero_le _, rfl, rfl⟩
    case round =>
      obtain ⟨k, hk, rfl, rfl⟩ := hrel
      obtain ⟨b1, b2⟩ := sum_small HS.out k (by rw [← HN.out]; exact hk)
      by_cases hlt : k < n
      · have hk' : k < r.length := by rw [← HN.out]; exact hlt
        have hx := HC.out k hk'
        have HST := hide (sum_snoc r k hk')
        obtain ⟨b3, b4⟩ := HS.out.2 k hk'
        obtain ⟨x, hxx⟩ : ∃ x, x = r[k] := ⟨_, rfl⟩
        obtain ⟨S, hSS⟩ : ∃ S, S = (r.take k).sum := ⟨_, rfl⟩
        rw [← hxx] at hx HST b3 b4
        rw [← hSS] at HST b1 b2 ⊢
        clear hxx hSS
        go_wp2
        go_round
        case rel => exact ⟨k + 1, by omega, by go_num, by rw [HST.out]⟩
        case measure => simp [intOf]; omega
      · have HE : Hid ((r.take k).sum = r.sum) := hide (by rw [List.take_of_length_le (by have := HN.out; omega)])
        rw [HE.out]
        clear b1 b2
        go_wp2
        go_ret
        exact ⟨rfl, rfl⟩

/-- What SumsOk returns. -/
def sumsOk (r c : List Int) : Bool := sizeOk r.length c.length && !r.any (badB c.length) && !c.any (badB r.length) && r.sum == c.sum
theorem small_of {r : List Int} {m : Int} (hl : r.length ≤ 5) (hm : m ≤ 5) (h : r.any (badB m) = false) : SmallL r := by
  refine ⟨hl, fun i hi => ?_⟩
  rw [List.any_eq_false] at h
  have := h _ (List.getElem_mem hi)
  simp only [badB, Bool.or_eq_true, decide_eq_true_eq, not_or] at this
  omega
set_option maxHeartbeats 1000000 in
theorem implSumsOk_any (va vb : Value) (r c : List Int) (w : World) (ha : InRow w va r) (hb : InRow w vb c) :
    Calls Try.prog 43 #[va, vb] w fun e w' => e = .returned (.bool (sumsOk r c)) ∧ Below w.heap.size w w' := by
  obtain ⟨a, ca, rfl, hma, hpa⟩ := ha
  obtain ⟨b, cb, rfl, hmb, hpb⟩ := hb
  have HA : Hid (InRow w (.slice a r.length ca) r) := hide ⟨a, ca, rfl, hma, hpa⟩
  have HB : Hid (InRow w (.slice b c.length cb) c) := hide ⟨b, cb, rfl, hmb, hpb⟩
  clear hpa hpb
  unfold maxLen at hma hmb
  obtain ⟨R, hR⟩ : ∃ R, R = r.length := ⟨_, rfl⟩
  obtain ⟨C, hC⟩ : ∃ C, C = c.length := ⟨_, rfl⟩
  have HRR := hide hR; have HCC := hide hC
  have HS : Hid (sumsOk r c = (decide ((1 : Int) ≤ R ∧ (R : Int) ≤ 5) && decide ((1 : Int) ≤ C ∧ (C : Int) ≤ 5) && !r.any (badB C) && !c.any (badB R) && r.sum == c.sum)) := hide (by rw [sumsOk, sizeOk, hR, hC])
  rw [← hR] at HA hma ⊢
  rw [← hC] at HB hmb ⊢
  rw [HS.out]
  by_cases h1 : 1 ≤ R ∧ R ≤ 5
  · have H1 : Hid (decide ((1 : Int) ≤ R ∧ (R : Int) ≤ 5) = true) := hide (decide_eq_true (by omega))
    rw [H1.out]
    by_cases h2 : 1 ≤ C ∧ C ≤ 5
    · have H2 : Hid (decide ((1 : Int) ≤ C ∧ (C : Int) ≤ 5) = true) := hide (decide_eq_true (by omega))
      rw [H2.out]
      cases h3 : r.any (badB C) with
      | true =>
        have H3 := hide h3
        clear hR hC h3
        go_enter Try.func43, Try.ntmps43
        go_wp2_with (first | (with_reducible refine (sideOk_any (R : Int) _).mono ?_; rw [H1.out]; rintro e w' ⟨rfl, rfl⟩) | (with_reducible refine (sideOk_any (C : Int) _).mono ?_; rw [H2.out]; rintro e w' ⟨rfl, rfl⟩) | ((with_reducible refine (sumsInRange_any _ r (C : Int) _ HA.out).mono ?_); rw [H3.out]; rintro e w1 ⟨rfl, b1⟩; have B1 := hide b1; clear b1))
        go_ret
        exact ⟨rfl, B1.out⟩
      | false =>
        have HSA := hide (small_of (m := C) (by rw [← hR]; exact h1.2) (by omega) h3)
        have H3 := hide h3
        cases h4 : c.any (badB R) with
        | true =>
          have H4 := hide h4
          clear hR hC h3 h4
          go_enter Try.func43, Try.ntmps43
          go_wp2_with (first | (with_reducible refine (sideOk_any (R : Int) _).mono ?_; rw [H1.out]; rintro e w' ⟨rfl, rfl⟩) | (with_reducible refine (sideOk_any (C : Int) _).mono ?_; rw [H2.out]; rintro e w' ⟨rfl, rfl⟩) | ((with_reducible refine (sumsInRange_any _ r (C : Int) _ HA.out).mono ?_); rw [H3.out]; rintro e w1 ⟨rfl, b1⟩; have B1 := hide b1; clear b1) | ((with_reducible refine (sumsInRange_any _ c (R : Int) _ (inRow_below HB.out B1.out)).mono ?_); rw [H4.out]; rintro e w2 ⟨rfl, b2⟩; have B2 := hide (B1.out.trans (b2.mono B1.out.size)); clear b2))
          go_ret
          exact ⟨rfl, B2.out⟩
        | false =>
          have HSB := hide (small_of (m := R) (by rw [← hC]; exact h2.2) (by omega) h4)
          have H4 := hide h4
          clear hR hC h3 h4
          obtain ⟨p1, p2⟩ := sum_small HSA.out r.length (Nat.le_refl _)
          obtain ⟨q1, q2⟩ := sum_small HSB.out c.length (Nat.le_refl _)
          rw [List.take_length] at p1 p2 q1 q2
          have TA := fun w hw => totalOf_any (.slice a R ca) r w hw HSA.out
          have TB := fun w hw => totalOf_any (.slice b C cb) c w hw HSB.out
          obtain ⟨X, hX⟩ : ∃ X, X = r.sum := ⟨_, rfl⟩
          obtain ⟨Y, hY⟩ : ∃ Y, Y = c.sum := ⟨_, rfl⟩
          rw [← hX] at TA p1 p2 ⊢
          rw [← hY] at TB q1 q2 ⊢
          have TA := hide TA; have TB := hide TB
          clear hX hY
          go_enter Try.func43, Try.ntmps43
          go_wp2_with (first | (with_reducible refine (sideOk_any (R : Int) _).mono ?_; rw [H1.out]; rintro e w' ⟨rfl, rfl⟩) | (with_reducible refine (sideOk_any (C : Int) _).mono ?_; rw [H2.out]; rintro e w' ⟨rfl, rfl⟩) | ((with_reducible refine (sumsInRange_any _ r (C : Int) _ HA.out).mono ?_); rw [H3.out]; rintro e w1 ⟨rfl, b1⟩; have B1 := hide b1; clear b1) | ((with_reducible refine (sumsInRange_any _ c (R : Int) _ (inRow_below HB.out B1.out)).mono ?_); rw [H4.out]; rintro e w2 ⟨rfl, b2⟩; have B2 := hide (B1.out.trans (b2.mono B1.out.size)); clear b2) | ((with_reducible refine (TA.out _ (inRow_below HA.out B2.out)).mono ?_); rintro e w' ⟨rfl, rfl⟩) | ((with_reducible refine (TB.out _ (inRow_below HB.out B2.out)).mono ?_); rintro e w' ⟨rfl, rfl⟩))
          go_ret
          exact ⟨ret_bool (by simp), B2.out⟩
    · have H2 : Hid (decide ((1 : Int) ≤ C ∧ (C : Int) ≤ 5) = false) := hide (decide_eq_false (by omega))
      rw [H2.out]
      clear hR hC h1 h2
      go_enter Try.func43, Try.ntmps43
      go_wp2_with (first | (with_reducible refine (sideOk_any (R : Int) _).mono ?_; rw [H1.out]; rintro e w' ⟨rfl, rfl⟩) | (with_reducible refine (sideOk_any (C : Int) _).mono ?_; rw [H2.out]; rintro e w' ⟨rfl, rfl⟩))
      go_ret
      exact ⟨rfl, Below.refl _ _⟩
  · have H1 : Hid (decide ((1 : Int) ≤ R ∧ (R : Int) ≤ 5) = false) := hide (decide_eq_false (by omega))
    rw [H1.out]
    clear hR hC h1
    go_enter Try.func43, Try.ntmps43
    go_wp2_with (first | (with_reducible refine (sideOk_any (R : Int) _).mono ?_; rw [H1.out]; rintro e w' ⟨rfl, rfl⟩))
    go_ret
    exact ⟨rfl, Below.refl _ _⟩

theorem bad_in (m x : Int) : decide (0 ≤ x ∧ x ≤ m) = !badB m x := by
  unfold badB
  by_cases h : 0 ≤ x ∧ x ≤ m
  · rw [decide_eq_true h, decide_eq_false (by omega), decide_eq_false (by omega)]; rfl
  · rw [decide_eq_false h]
    by_cases h1 : x < 0
    · rw [decide_eq_true h1]; rfl
    · rw [decide_eq_false h1, decide_eq_true (by omega : m < x)]; rfl
set_option maxHeartbeats 1000000 in
theorem specSumsOk_yes (a b : Option Addr) (ca cb : Nat) (r c : List Int) (w : World) (HA : Hid (InRow w (.slice a r.length ca) r)) (HB : Hid (InRow w (.slice b c.length cb) c)) (h1 : 1 ≤ r.length ∧ r.length ≤ 5) (h2 : 1 ≤ c.length ∧ c.length ≤ 5) :
    Calls Try.prog 49 #[.slice a r.length ca, .slice b c.length cb] w fun e w' => e = .returned (.bool (sumsOk r c)) ∧ Below w.heap.size w w' := by
  obtain ⟨a', ca', he, hma, hpa⟩ := HA.out
  obtain ⟨b', cb', he2, hmb, hpb⟩ := HB.out
  cases he; cases he2
  obtain ⟨ga, oa, rfl, hga, hca⟩ := hpa.resolve_left (by omega)
  obtain ⟨gb, ob, rfl, hgb, hcb⟩ := hpb.resolve_left (by omega)
  have HCA := hide hca; have HCB := hide hcb
  clear hpa hpb hca hcb
  unfold maxLen at hma hmb
  obtain ⟨R, hR⟩ : ∃ R, R = r.length := ⟨_, rfl⟩
  obtain ⟨C, hC⟩ : ∃ C, C = c.length := ⟨_, rfl⟩
  have HRR := hide hR; have HCC := hide hC
  have HS : Hid (sumsOk r c = (!r.any (badB C) && !c.any (badB R) && r.sum == c.sum)) := hide (by
    rw [sumsOk, sizeOk, hR, hC, decide_eq_true (show (1 : Int) ≤ r.length ∧ (r.length : Int) ≤ 5 by omega), decide_eq_true (show (1 : Int) ≤ c.length ∧ (c.length : Int) ≤ 5 by omega)]; simp)
  rw [← hR] at HA hma h1 ⊢
  rw [← hC] at HB hmb h2 ⊢
  have HZ : Hid (sizeOk R C = true) := hide (by rw [sizeOk, decide_eq_true (show (1 : Int) ≤ R ∧ (R : Int) ≤ 5 by omega), decide_eq_true (show (1 : Int) ≤ C ∧ (C : Int) ≤ 5 by omega)]; rfl)
  obtain ⟨h11, h12⟩ := h1
  obtain ⟨h21, h22⟩ := h2
  clear hR hC
  go_enter Try.func49, Try.ntmps49
  go_wp2_with (with_reducible refine (l03Size_any (R : Int) (C : Int) _).mono ?_; rw [HZ.out]; rintro e w' ⟨rfl, rfl⟩)
  go_loop [17] (fun i => ∃ k : Nat, k ≤ R ∧ i = .int .i64 k ∧ ∀ t, (h : t < r.length) → t < k → badB C r[t] = false) (fun i => R - (intOf i).toNat)
  case atStart => exact ⟨0, Nat.zero_le _, rfl, fun t _ h => absurd h (Nat.not_lt_zero _)⟩
  case round =>
    obtain ⟨k, hk, rfl, hall⟩ := hrel
    have HALL := hide hall
    clear hall
    by_cases hlt : k < R
    · have hk' : k < r.length := by rw [← HRR.out]; exact hlt
      have hx := HCA.out k hk'
      have HNO := hide (fun h => any_yes (p := badB C) k hk' h)
      have HST : Hid (badB C r[k] = false → ∀ t, (h : t < r.length) → t < k + 1 → badB C r[t] = false) := hide fun h t h1 ht => by
        by_cases e : t = k
        · subst e; exact h
        · exact HALL.out t h1 (by omega)
      obtain ⟨x, hxx⟩ : ∃ x, x = r[k] := ⟨_, rfl⟩
      rw [← hxx] at hx HNO HST
      clear hxx
      have HBI := hide (bad_in C x)
      cases e : badB C x with
      | true =>
        have HE : Hid (decide (0 ≤ x ∧ x ≤ (C : Int)) = false) := hide (by rw [HBI.out, e]; rfl)
        have HF : Hid (sumsOk r c = false) := hide (by rw [HS.out, HNO.out e]; rfl)
        clear e
        go_wp2_with (with_reducible refine (l01In_any x 0 (C : Int) _).mono ?_; rw [HE.out]; rintro e w' ⟨rfl, rfl⟩)
        go_ret
        exact ⟨ret_bool HF.out.symm, Below.refl _ _⟩
      | false =>
        have HE : Hid (decide (0 ≤ x ∧ x ≤ (C : Int)) = true) := hide (by rw [HBI.out, e]; rfl)
        have HST := hide (HST.out e)
        clear e
        go_wp2_with (with_reducible refine (l01In_any x 0 (C : Int) _).mono ?_; rw [HE.out]; rintro e w' ⟨rfl, rfl⟩)
        go_round
        case rel => exact ⟨k + 1, by omega, by go_num, HST.out⟩
        case measure => simp [intOf]; omega
    · have HY := hide (any_no (p := badB C) fun t h => HALL.out t h (by have := HRR.out; omega))
      clear HALL
      go_wp2
      go_loop [29] (fun i => ∃ k : Nat, k ≤ C ∧ i = .int .i64 k ∧ ∀ t, (h : t < c.length) → t < k → badB R c[t] = false) (fun i => C - (intOf i).toNat)
      case atStart => exact ⟨0, Nat.zero_le _, rfl, fun t _ h => absurd h (Nat.not_lt_zero _)⟩
      case round =>
        obtain ⟨j, hj, rfl, hall⟩ := hrel
        have HALL := hide hall
        clear hall
        by_cases hltj : j < C
        · have hk' : j < c.length := by rw [← HCC.out]; exact hltj
          have hx := HCB.out j hk'
          have HNO := hide (fun h => any_yes (p := badB R) j hk' h)
          have HST : Hid (badB R c[j] = false → ∀ t, (h : t < c.length) → t < j + 1 → badB R c[t] = false) := hide fun h t h1 ht => by
            by_cases e : t = j
            · subst e; exact h
            · exact HALL.out t h1 (by omega)
          obtain ⟨x, hxx⟩ : ∃ x, x = c[j] := ⟨_, rfl⟩
          rw [← hxx] at hx HNO HST
          clear hxx
          have HBI := hide (bad_in R x)
          cases e : badB R x with
          | true =>
            have HE : Hid (decide (0 ≤ x ∧ x ≤ (R : Int)) = false) := hide (by rw [HBI.out, e]; rfl)
            have HF : Hid (sumsOk r c = false) := hide (by rw [HS.out, HY.out, HNO.out e]; rfl)
            clear e
            go_wp2_with (with_reducible refine (l01In_any x 0 (R : Int) _).mono ?_; rw [HE.out]; rintro e w' ⟨rfl, rfl⟩)
            go_ret
            exact ⟨ret_bool HF.out.symm, Below.refl _ _⟩
          | false =>
            have HE : Hid (decide (0 ≤ x ∧ x ≤ (R : Int)) = true) := hide (by rw [HBI.out, e]; rfl)
            have HST := hide (HST.out e)
            clear e
            go_wp2_with (with_reducible refine (l01In_any x 0 (R : Int) _).mono ?_; rw [HE.out]; rintro e w' ⟨rfl, rfl⟩)
            go_round
            case rel => exact ⟨j + 1, by omega, by go_num, HST.out⟩
            case measure => simp [intOf]; omega
        · have HY2 := hide (any_no (p := badB R) fun t h => HALL.out t h (by have := HCC.out; omega))
          clear HALL
          have HSA := hide (small_of (m := C) (by rw [← HRR.out]; exact h12) (by omega) HY.out)
          have HSB := hide (small_of (m := R) (by rw [← HCC.out]; exact h22) (by omega) HY2.out)
          obtain ⟨p1, p2⟩ := sum_small HSA.out r.length (Nat.le_refl _)
          obtain ⟨q1, q2⟩ := sum_small HSB.out c.length (Nat.le_refl _)
          rw [List.take_length] at p1 p2 q1 q2
          have TA := fun w hw => l03Total_any (.slice (some ⟨ga, oa, none⟩) R ca) r w hw HSA.out
          have TB := fun w hw => l03Total_any (.slice (some ⟨gb, ob, none⟩) C cb) c w hw HSB.out
          have hf : sumsOk r c = (r.sum == c.sum) := by rw [HS.out, HY.out, HY2.out]; rfl
          obtain ⟨X, hX⟩ : ∃ X, X = r.sum := ⟨_, rfl⟩
          obtain ⟨Y, hY⟩ : ∃ Y, Y = c.sum := ⟨_, rfl⟩
          rw [← hX] at TA p1 p2 hf
          rw [← hY] at TB q1 q2 hf
          have TA := hide TA; have TB := hide TB; have HF := hide hf
          clear hX hY hf
          go_wp2_with (first | ((with_reducible refine (TA.out _ HA.out).mono ?_); rintro e w' ⟨rfl, rfl⟩) | ((with_reducible refine (TB.out _ HB.out).mono ?_); rintro e w' ⟨rfl, rfl⟩))
          go_ret
          exact ⟨ret_bool (by rw [HF.out]), Below.refl _ _⟩
theorem specSumsOk_any (va vb : Value) (r c : List Int) (w : World) (ha : InRow w va r) (hb : InRow w vb c) :
    Calls Try.prog 49 #[va, vb] w fun e w' => e = .returned (.bool (sumsOk r c)) ∧ Below w.heap.size w w' := by
  obtain ⟨a, ca, rfl, hma, hpa⟩ := ha
  obtain ⟨b, cb, rfl, hmb, hpb⟩ := hb
  have HA : Hid (InRow w (.slice a r.length ca) r) := hide ⟨a, ca, rfl, hma, hpa⟩
  have HB : Hid (InRow w (.slice b c.length cb) c) := hide ⟨b, cb, rfl, hmb, hpb⟩
  by_cases h : (1 ≤ r.length ∧ r.length ≤ 5) ∧ 1 ≤ c.length ∧ c.length ≤ 5
  · exact specSumsOk_yes a b ca cb r c w HA HB h.1 h.2
  · have HZ : Hid (sizeOk r.length c.length = false) := hide (by
      cases e : sizeOk r.length c.length with
      | false => rfl
      | true => have := sizeOk_yes e; omega)
    have HS : Hid (sumsOk r c = false) := hide (by rw [sumsOk, HZ.out]; rfl)
    rw [HS.out]
    clear hpa hpb h
    unfold maxLen at hma hmb
    obtain ⟨R, hR⟩ : ∃ R, R = r.length := ⟨_, rfl⟩
    obtain ⟨C, hC⟩ : ∃ C, C = c.length := ⟨_, rfl⟩
    rw [← hR, ← hC] at HZ ⊢
    rw [← hR] at hma
    rw [← hC] at hmb
    clear hR hC HA HB
    go_enter Try.func49, Try.ntmps49
    go_wp2_with (with_reducible refine (l03Size_any (R : Int) (C : Int) _).mono ?_; rw [HZ.out]; rintro e w' ⟨rfl, rfl⟩)
    go_ret
    exact ⟨rfl, Below.refl _ _⟩
end Go.Proofs.Ytjgkblgilnfpfaa
/-
  The exact law on SumsOk, walked.
-/
namespace Go.Proofs.Ytjgkblgilnfpfaa
open Go.RowKit
set_option linter.unusedVariables false

/-- What 'open_ints' hands over. -/
theorem inRow_of {w : World} {x : Addr} {l c : Nat} {zs : List Int} (hl : l ≤ c) (hm : c ≤ maxLen) (hz : zs.length = c) (hcell : ∀ i, i < zs.length → w.cell? (x.add i) = some (.int .i64 (zs.getD i 0))) : InRow w (.slice (some x) l c) (zs.take l) := by
  have hlen : (zs.take l).length = l := by rw [List.length_take]; omega
  refine ⟨some x, c, by rw [hlen], by omega, ?_⟩
  by_cases h0 : l = 0
  · exact .inl (by omega)
  · refine .inr ?_
    obtain ⟨g, o, spot⟩ := x
    have hc := hcell 0 (by omega)
    have hspot : spot = none := by simpa [Addr.add] using World.cell?_spot hc
    subst hspot
    refine ⟨g, o, rfl, by have := World.block_lt_of_cell? w _ hc; simpa [Addr.add] using this, fun i hi => ?_⟩
    have := hcell i (by omega)
    rw [addr_add] at this
    rw [this, List.getElem_take, List.getD_eq_getElem?_getD, List.getElem?_eq_getElem (by omega)]; rfl

end Go.Proofs.Ytjgkblgilnfpfaa
/-
  A slice of integers appended to a slice that the call owns.
-/
namespace Go.Proofs.Ytjgkblgilnfpfaa
open Go.RowKit

/-- 'append(v, r...)' at a slice of the call's own, r a slice of integers. -/
theorem wpList_appendRow {P : Program} {ops : Array Oper} {rest : List Oper} {o : Oper} {a : Act} {Q : Exit → Act → World → Prop} {W : World} {base n bytes : Nat} {E T : TypeId} {v : Value} {xs : List Value} (d : Tmp) (_hd : o.dst = some d)
    (hown : W.ownsRow base E 1 v n xs) (r : List Int) (g b c : Nat) (z : Value) (hgd : o.guard = none) (s x : Operand)
    (ho : o.op = .call { callee := .builtin .append, args := #[s, x], argTypes := #[T, T] })
    (ht : P.underlying T = some (.slice E)) (hinfo : (P.info? E).map (fun i => (i.zero, i.size, i.bytes)) = some (some z, 1, bytes)) (hz : z.cells.size = 1) (hby : bytes ≤ 32)
    (hs : a.eval s = v) (hx : a.eval x = .slice (some ⟨g, b, none⟩) r.length c) (hr : ∀ j, (h : j < r.length) → W.cell? ⟨g, b + j, none⟩ = some (.int .i64 r[j])) (hn : n + r.length < 4000000) (hbase : base ≤ W.heap.size)
    (h : ∀ v' w', w'.ownsRow base E 1 v' (n + r.length) (xs ++ ints r) → Below base W w' → W.grownBy w' v.ownBlock → wpList P ops Q rest (a.put o.dst v') w') :
    wpList P ops Q (o :: rest) a W := by
  obtain ⟨i0, hi, hz0, hz1, hz2⟩ := info_parts hinfo
  refine wpList_append_own _ hgd s x T ho base E i0 z 1 bytes ht hi hz0 hz1 hz2 hz (by decide) v n xs hs hown ⟨g, b, none⟩ r.length c (ints r) hx (by simp [ints]) (fun j u hu => ?_) (fun u hu => ?_)
    (by unfold maxLen; omega) (by have : (n + r.length) * bytes ≤ 4000000 * 32 := Nat.mul_le_mul (by omega) hby; omega) hbase ?_
  · have hj : j < r.length := by have := (List.getElem?_eq_some_iff.1 hu).1; simpa [ints] using this
    rw [ints_at r j hj, Option.some.injEq] at hu
    subst hu
    rw [addr_add]; exact hr j hj
  · simp only [ints, List.mem_map] at hu
    obtain ⟨q, -, rfl⟩ := hu; rfl
  · intro v' w' hown' hg _
    exact h v' w' hown' ((Below.refl _ _).grown hg hbase (fun k hk => (hown.lt k hk).1)) hg
end Go.Proofs.Ytjgkblgilnfpfaa
/-
  Sums over ranges, and the theorem on 0-1 matrices with given sums between two bounds.
-/
namespace Go.Proofs.Ytjgkblgilnfpfaa.Mx

/-- The sum of f 0, .., f (n - 1). -/
def S : Nat → (Nat → Int) → Int
  | 0, _ => 0
  | n + 1, f => S n f + f n
theorem S_congr {f g : Nat → Int} : ∀ n, (∀ i, i < n → f i = g i) → S n f = S n g
  | 0, _ => rfl
  | n + 1, h => by rw [S, S, S_congr n (fun i hi => h i (by omega)), h n (by omega)]
theorem S_le {f g : Nat → Int} : ∀ n, (∀ i, i < n → f i ≤ g i) → S n f ≤ S n g
  | 0, _ => Int.le_refl _
  | n + 1, h => by
    have := S_le n (fun i hi => h i (by omega))
    have := h n (by omega)
    rw [S, S]; omega
theorem S_add (f g : Nat → Int) : ∀ n, S n (fun i => f i + g i) = S n f + S n g
  | 0 => rfl
  | n + 1 => by rw [S, S, S, S_add f g n]; omega
theorem S_sub (f g : Nat → Int) : ∀ n, S n (fun i => f i - g i) = S n f - S n g
  | 0 => rfl
  | n + 1 => by rw [S, S, S, S_sub f g n]; omega
theorem S_zero : ∀ n, S n (fun _ => 0) = 0
  | 0 => rfl
  | n + 1 => by rw [S, S_zero n]; rfl
theorem S_one {f : Nat → Int} {k : Nat} : ∀ n, k < n → (∀ i, i < n → i ≠ k → f i = 0) → S n f = f k
  | 0, h, _ => absurd h (Nat.not_lt_zero _)
  | n + 1, h, h0 => by
    rw [S]
    by_cases e : k = n
    · subst e
      rw [S_congr k (g := fun _ => 0) (fun i hi => h0 i (by omega) (by omega)), S_zero]; omega
    · rw [S_one n (by omega) (fun i hi => h0 i (by omega)), h0 n (by omega) (Ne.symm e)]; omega
theorem S_pick {k n : Nat} (h : k < n) (v : Int) : S n (fun i => if i = k then v else 0) = v := by
  rw [S_one n h (fun i _ hne => by rw [if_neg hne]), if_pos rfl]
theorem S_swap (f : Nat → Nat → Int) (m : Nat) : ∀ n, S n (fun i => S m fun j => f i j) = S m fun j => S n fun i => f i j
  | 0 => by rw [S, S_congr m (f := fun j => S 0 fun i => f i j) (g := fun _ => 0) (fun j _ => rfl), S_zero]
  | n + 1 => by rw [S, S_swap f m n, ← S_add]; rfl
theorem S_nonneg {f : Nat → Int} (n : Nat) (h : ∀ i, i < n → 0 ≤ f i) : 0 ≤ S n f := by
  have := S_le (f := fun _ => 0) (g := f) n h
  rwa [S_zero] at this
/-- The numbers x at which p holds. -/
def on (p : Nat → Bool) (f : Nat → Int) (i : Nat) : Int := if p i then f i else 0

/-- What a cell gives to the rows of L (a: its row is one) from outside the columns of O (d: its column is one), less what it must give away. -/
def kc (a d : Bool) (h l : Int) : Int := (if a && !d then h else 0) - if !a && d then l else 0
/-- What the rows of L and the columns of O ask for beyond what the cells can give. -/
def over (R C : Nat) (r c : Nat → Int) (lo hi : Nat → Nat → Int) (L O : Nat → Bool) : Int :=
  S R (on L r) - S C (on O c) - S R (fun y => S C fun x => kc (L y) (O x) (hi y x) (lo y x))
theorem ite_or (a b : Bool) (v : Int) : (if a then v else 0) + (if b then v else 0) = (if (a || b) then v else 0) + (if (a && b) then v else 0) := by cases a <;> cases b <;> simp
theorem kc_or (a b d e : Bool) (h l q : Int) (hle : l ≤ h) (hq : q ≤ if (a && !d) && (!b && e) then h - l else 0) : kc (a || b) (d || e) h l + kc (a && b) (d && e) h l + q ≤ kc a d h l + kc b e h l := by
  unfold kc
  cases a <;> cases b <;> cases d <;> cases e <;> simp at hq ⊢ <;> omega
def orB (p q : Nat → Bool) (i : Nat) : Bool := p i || q i
def andB (p q : Nat → Bool) (i : Nat) : Bool := p i && q i
theorem over_sum {R C : Nat} {r c : Nat → Int} {lo hi : Nat → Nat → Int} (h : ∀ y x, y < R → x < C → lo y x ≤ hi y x) (L O L' O' : Nat → Bool) (q : Nat → Nat → Int)
    (hq : ∀ y x, y < R → x < C → q y x ≤ (if (L y && !O x) && (!L' y && O' x) then hi y x - lo y x else 0)) :
    over R C r c lo hi L O + over R C r c lo hi L' O' + S R (fun y => S C fun x => q y x) ≤ over R C r c lo hi (orB L L') (orB O O') + over R C r c lo hi (andB L L') (andB O O') := by
  have hr : S R (on L r) + S R (on L' r) = S R (on (orB L L') r) + S R (on (andB L L') r) := by
    rw [← S_add, ← S_add]
    exact S_congr R fun y _ => ite_or (L y) (L' y) (r y)
  have hc : S C (on O c) + S C (on O' c) = S C (on (orB O O') c) + S C (on (andB O O') c) := by
    rw [← S_add, ← S_add]
    exact S_congr C fun x _ => ite_or (O x) (O' x) (c x)
  have hk : S R (fun y => S C fun x => kc (orB L L' y) (orB O O' x) (hi y x) (lo y x)) + S R (fun y => S C fun x => kc (andB L L' y) (andB O O' x) (hi y x) (lo y x)) + S R (fun y => S C fun x => q y x) ≤
      S R (fun y => S C fun x => kc (L y) (O x) (hi y x) (lo y x)) + S R (fun y => S C fun x => kc (L' y) (O' x) (hi y x) (lo y x)) := by
    rw [← S_add, ← S_add, ← S_add]
    refine S_le R fun y hy => ?_
    rw [← S_add, ← S_add, ← S_add]
    exact S_le C fun x hx => kc_or _ _ _ _ _ _ _ (h y x hy hx) (hq y x hy hx)
  unfold over
  omega

/-- The number of cells that are free. -/
def free (R C : Nat) (lo hi : Nat → Nat → Int) : Nat := (S R fun y => S C fun x => hi y x - lo y x).toNat
def put (m : Nat → Nat → Int) (y x : Nat) (v : Int) (a b : Nat) : Int := if a = y ∧ b = x then v else m a b
/-- Between the bounds lies a matrix with these sums, where no rows and columns ask for too much. -/
theorem exists_between (R C : Nat) (r c : Nat → Int) (ht : S R r = S C c) : ∀ (n : Nat) (lo hi : Nat → Nat → Int), free R C lo hi ≤ n → (∀ y x, y < R → x < C → (lo y x = 0 ∨ lo y x = 1) ∧ (hi y x = 0 ∨ hi y x = 1) ∧ lo y x ≤ hi y x) →
    (∀ L O, over R C r c lo hi L O ≤ 0) → ∃ m : Nat → Nat → Int, (∀ y x, y < R → x < C → lo y x ≤ m y x ∧ m y x ≤ hi y x) ∧ (∀ y, y < R → S C (m y) = r y) ∧ ∀ x, x < C → S R (fun y => m y x) = c x := by
  intro n
  induction n with
  | zero =>
    intro lo hi hf hb hov
    have heq : ∀ y x, y < R → x < C → lo y x = hi y x := by
      intro y x hy hx
      have h0 : (S R fun y => S C fun x => hi y x - lo y x) ≤ 0 := by unfold free at hf; omega
      have h1 : ∀ y, y < R → 0 ≤ S C (fun x => hi y x - lo y x) := fun y hy => S_nonneg C fun x hx => by have := (hb y x hy hx).2.2; omega
      have hrow : S C (fun x => hi y x - lo y x) ≤ 0 := by
        have h2 := S_le (f := fun i => if i = y then S C (fun x => hi y x - lo y x) else 0) (g := fun y => S C fun x => hi y x - lo y x) R (fun i hi' => by
          by_cases e : i = y
          · subst e; simp
          · rw [if_neg e]; exact h1 i hi')
        rw [S_pick hy] at h2
        omega
      have h2 := S_le (f := fun i => if i = x then hi y x - lo y x else 0) (g := fun x => hi y x - lo y x) C (fun i hi' => by
        by_cases e : i = x
        · subst e; simp
        · rw [if_neg e]; have := (hb y i hy hi').2.2; omega)
      rw [S_pick hx] at h2
      have := (hb y x hy hx).2.2
      omega
    refine ⟨lo, fun y x hy hx => ⟨Int.le_refl _, by rw [heq y x hy hx]; exact Int.le_refl _⟩, fun y hy => ?_, fun x hx => ?_⟩
    · have a := hov (fun i => i == y) (fun _ => false)
      have b := hov (fun i => i != y) (fun _ => true)
      unfold over at a b
      simp only [] at a b
      have a1 : S R (on (fun i => i == y) r) = r y := by
        rw [S_one R hy (fun i _ hne => by simp [on, hne])]; simp [on]
      have a2 : S C (on (fun _ => false) c) = 0 := by rw [S_congr C (g := fun _ => 0) (fun i _ => by simp [on]), S_zero]
      have a3 : S R (fun i => S C fun x => kc (i == y) false (hi i x) (lo i x)) = S C (lo y) := by
        rw [S_one R hy (fun i _ hne => by rw [S_congr C (g := fun _ => 0) (fun j _ => by simp [kc, hne]), S_zero])]
        exact S_congr C fun j hj => by simp [kc, heq y j hy hj]
      have b1 : S R (on (fun i => i != y) r) = S R r - r y := by
        rw [S_congr R (g := fun i => r i - (if i = y then r y else 0)) (fun i _ => by
          unfold on
          by_cases e : i = y
          · subst e; simp
          · simp [e]), S_sub, S_pick hy]
      have b2 : S C (on (fun _ => true) c) = S C c := S_congr C fun i _ => by simp [on]
      have b3 : S R (fun i => S C fun x => kc (i != y) true (hi i x) (lo i x)) = - S C (lo y) := by
        rw [S_one R hy (fun i _ hne => by rw [S_congr C (g := fun _ => 0) (fun j _ => by simp [kc, hne]), S_zero])]
        rw [S_congr C (g := fun x => 0 - lo y x) (fun j _ => by simp [kc]), S_sub, S_zero]; omega
      rw [a1, a2, a3] at a
      rw [b1, b2, b3] at b
      omega
    · have a := hov (fun _ => true) (fun i => i != x)
      have b := hov (fun _ => false) (fun i => i == x)
      unfold over at a b
      simp only [] at a b
      have a1 : S R (on (fun _ => true) r) = S R r := S_congr R fun i _ => by simp [on]
      have a2 : S C (on (fun i => i != x) c) = S C c - c x := by
        rw [S_congr C (g := fun i => c i - (if i = x then c x else 0)) (fun i _ => by
          unfold on
          by_cases e : i = x
          · subst e; simp
          · simp [e]), S_sub, S_pick hx]
      have a3 : S R (fun y => S C fun i => kc true (i != x) (hi y i) (lo y i)) = S R (fun y => lo y x) := S_congr R fun y hy => by
        rw [S_one C hx (fun i _ hne => by simp [kc, hne])]
        simp [kc, heq y x hy hx]
      have b1 : S R (on (fun _ => false) r) = 0 := by rw [S_congr R (g := fun _ => 0) (fun i _ => by simp [on]), S_zero]
      have b2 : S C (on (fun i => i == x) c) = c x := by
        rw [S_one C hx (fun i _ hne => by simp [on, hne])]; simp [on]
      have b3 : S R (fun y => S C fun i => kc false (i == x) (hi y i) (lo y i)) = - S R (fun y => lo y x) := by
        rw [S_congr R (g := fun y => 0 - lo y x) (fun y _ => by
          rw [S_one C hx (fun i _ hne => by simp [kc, hne])]
          simp [kc]), S_sub, S_zero]; omega
      rw [a1, a2, a3] at a
      rw [b1, b2, b3] at b
      omega
  | succ n ih =>
    intro lo hi hf hb hov
    by_cases hex : ∃ y x, y < R ∧ x < C ∧ lo y x = 0 ∧ hi y x = 1
    · obtain ⟨y, x, hy, hx, hl, hh⟩ := hex
      have hsum : ∀ (m m' : Nat → Nat → Int) (d : Int), (∀ a b, a < R → b < C → m' a b = m a b + if a = y ∧ b = x then d else 0) → S R (fun a => S C fun b => m' a b) = S R (fun a => S C fun b => m a b) + d := by
        intro m m' d h
        have e1 : ∀ a, a < R → S C (fun b => m' a b) = S C (fun b => m a b) + if a = y then d else 0 := by
          intro a ha
          rw [S_congr C (fun b hb' => h a b ha hb'), S_add]
          congr 1
          by_cases e : a = y
          · subst e
            rw [if_pos rfl, S_one C hx (fun i _ hne => by simp [hne])]; simp
          · rw [if_neg e, S_congr C (g := fun _ => 0) (fun i _ => by simp [e]), S_zero]
        rw [S_congr R e1, S_add, S_pick hy]
      have hfr : (S R fun a => S C fun b => hi a b - lo a b) = (free R C lo hi : Nat) := by
        unfold free
        have := S_nonneg R (f := fun a => S C fun b => hi a b - lo a b) fun a ha => S_nonneg C fun b hb' => by have := (hb a b ha hb').2.2; omega
        omega
      have hpos : 1 ≤ free R C lo hi := by
        have h1 : ∀ a, a < R → 0 ≤ S C (fun b => hi a b - lo a b) := fun a ha => S_nonneg C fun b hb' => by have := (hb a b ha hb').2.2; omega
        have h2 := S_le (f := fun i => if i = y then S C (fun b => hi y b - lo y b) else 0) (g := fun a => S C fun b => hi a b - lo a b) R (fun i hi' => by
          by_cases e : i = y
          · subst e; simp
          · rw [if_neg e]; exact h1 i hi')
        rw [S_pick hy] at h2
        have h3 := S_le (f := fun i => if i = x then hi y x - lo y x else 0) (g := fun b => hi y b - lo y b) C (fun i hi' => by
          by_cases e : i = x
          · subst e; simp
          · rw [if_neg e]; have := (hb y i hy hi').2.2; omega)
        rw [S_pick hx] at h3
        simp [hl, hh] at h2 h3
        omega
      -- the cell white
      by_cases h0 : ∀ L O, over R C r c lo (put hi y x 0) L O ≤ 0
      · have hfree : free R C lo (put hi y x 0) ≤ n := by
          unfold free
          rw [hsum (fun a b => hi a b - lo a b) (fun a b => put hi y x 0 a b - lo a b) (-1) (fun a b _ _ => by
            unfold put
            by_cases e : a = y ∧ b = x
            · obtain ⟨rfl, rfl⟩ := e; simp [hh]; omega
            · simp [e])]
          rw [hfr]; omega
        obtain ⟨m, hm1, hm2, hm3⟩ := ih lo (put hi y x 0) hfree (fun a b ha hb' => by
          have := hb a b ha hb'
          unfold put
          by_cases e : a = y ∧ b = x
          · obtain ⟨rfl, rfl⟩ := e; simp [hl]
          · simp [e]; exact this) h0
        refine ⟨m, fun a b ha hb' => ?_, hm2, hm3⟩
        have := hm1 a b ha hb'
        refine ⟨this.1, ?_⟩
        by_cases e : a = y ∧ b = x
        · obtain ⟨rfl, rfl⟩ := e; simp [put] at this; omega
        · simp [put, e] at this; omega
      · by_cases h1 : ∀ L O, over R C r c (put lo y x 1) hi L O ≤ 0
        · have hfree : free R C (put lo y x 1) hi ≤ n := by
            unfold free
            rw [hsum (fun a b => hi a b - lo a b) (fun a b => hi a b - put lo y x 1 a b) (-1) (fun a b _ _ => by
              unfold put
              by_cases e : a = y ∧ b = x
              · obtain ⟨rfl, rfl⟩ := e; simp [hl]; omega
              · simp [e])]
            rw [hfr]; omega
          obtain ⟨m, hm1, hm2, hm3⟩ := ih (put lo y x 1) hi hfree (fun a b ha hb' => by
            have := hb a b ha hb'
            unfold put
            by_cases e : a = y ∧ b = x
            · obtain ⟨rfl, rfl⟩ := e; simp [hh]
            · simp [e]; exact this) h1
          refine ⟨m, fun a b ha hb' => ?_, hm2, hm3⟩
          have := hm1 a b ha hb'
          refine ⟨?_, this.2⟩
          by_cases e : a = y ∧ b = x
          · obtain ⟨rfl, rfl⟩ := e; simp [put] at this; omega
          · simp [put, e] at this; omega
        · exfalso
          simp only [Classical.not_forall] at h0 h1
          obtain ⟨L, O, h0⟩ := h0
          obtain ⟨L', O', h1⟩ := h1
          have e0 : over R C r c lo (put hi y x 0) L O = over R C r c lo hi L O + if L y && !O x then 1 else 0 := by
            unfold over
            rw [hsum (fun a b => kc (L a) (O b) (hi a b) (lo a b)) (fun a b => kc (L a) (O b) (put hi y x 0 a b) (lo a b)) (-(if L y && !O x then 1 else 0)) (fun a b _ _ => by
              unfold put kc
              by_cases e : a = y ∧ b = x
              · rw [if_pos e, if_pos e]
                obtain ⟨rfl, rfl⟩ := e
                rw [hh]
                cases L a <;> cases O b <;> simp
              · rw [if_neg e, if_neg e]; simp)]
            omega
          have e1 : over R C r c (put lo y x 1) hi L' O' = over R C r c lo hi L' O' + if !L' y && O' x then 1 else 0 := by
            unfold over
            rw [hsum (fun a b => kc (L' a) (O' b) (hi a b) (lo a b)) (fun a b => kc (L' a) (O' b) (hi a b) (put lo y x 1 a b)) (-(if !L' y && O' x then 1 else 0)) (fun a b _ _ => by
              unfold put kc
              by_cases e : a = y ∧ b = x
              · rw [if_pos e, if_pos e]
                obtain ⟨rfl, rfl⟩ := e
                rw [hl]
                cases L' a <;> cases O' b <;> simp
              · rw [if_neg e, if_neg e]; simp)]
            omega
          have a0 := hov L O
          have a1 := hov L' O'
          have hL : (L y && !O x) = true := by
            cases h : L y && !O x with
            | true => rfl
            | false => rw [e0, h] at h0; simp at h0; omega
          have hL' : (!L' y && O' x) = true := by
            cases h : !L' y && O' x with
            | true => rfl
            | false => rw [e1, h] at h1; simp at h1; omega
          rw [e0, hL] at h0
          rw [e1, hL'] at h1
          have hs := over_sum (r := r) (c := c) (lo := lo) (hi := hi) (R := R) (C := C) (fun a b ha hb' => (hb a b ha hb').2.2) L O L' O' (fun a b => if a = y ∧ b = x then 1 else 0) (fun a b ha hb' => by
            by_cases e : a = y ∧ b = x
            · obtain ⟨rfl, rfl⟩ := e
              rw [hL, hL']; simp [hl, hh]
            · rw [if_neg e]
              have := (hb a b ha hb').2.2
              split <;> omega)
          have hq : S R (fun a => S C fun b => if a = y ∧ b = x then (1 : Int) else 0) = 1 := by
            have := hsum (fun _ _ => 0) (fun a b => if a = y ∧ b = x then 1 else 0) 1 (fun a b _ _ => by omega)
            rw [this, S_congr R (g := fun _ => 0) (fun a _ => S_zero C), S_zero]; rfl
          rw [hq] at hs
          have b0 := hov (orB L L') (orB O O')
          have b1 := hov (andB L L') (andB O O')
          simp at h0 h1
          omega
    · refine ih lo hi ?_ hb hov
      have hz : ∀ y x, y < R → x < C → hi y x - lo y x = 0 := fun y x hy hx => by
        have := hb y x hy hx
        rcases this.1 with e | e <;> rcases this.2.1 with e' | e'
        · omega
        · exact absurd ⟨y, x, hy, hx, e, e'⟩ hex
        · omega
        · omega
      unfold free
      rw [S_congr R (g := fun _ => 0) (fun y hy => by rw [S_congr C (g := fun _ => 0) (fun x hx => hz y x hy hx), S_zero]), S_zero]
      exact Nat.zero_le _
end Go.Proofs.Ytjgkblgilnfpfaa.Mx
/-
  ConjugateOf, of the model and of the program.
-/
namespace Go.Proofs.Ytjgkblgilnfpfaa
open Go.RowKit

/-- The list g 0, .., g (n - 1). -/
def tabL (n : Nat) (g : Nat → Int) : List Int := (List.range n).map g
theorem tabL_len (n : Nat) (g : Nat → Int) : (tabL n g).length = n := by simp [tabL]
theorem tabL_at {n : Nat} {g : Nat → Int} {i : Nat} (h : i < (tabL n g).length) : (tabL n g)[i] = g i := by simp [tabL]
theorem tabL_congr {n : Nat} {g h : Nat → Int} (e : ∀ i, i < n → g i = h i) : tabL n g = tabL n h := by
  unfold tabL; exact List.map_congr_left fun i hi => e i (List.mem_range.1 hi)
theorem tabL_set (n : Nat) (g : Nat → Int) (k : Nat) (y : Int) : (tabL n g).set k y = tabL n fun t => if t = k then y else g t := by
  apply List.ext_getElem
  · simp [tabL]
  · intro i h1 h2
    rw [List.getElem_set, tabL_at h2]
    by_cases e : k = i
    · rw [if_pos e, if_pos e.symm]
    · rw [if_neg e, tabL_at, if_neg (fun h => e h.symm)]
theorem tabL_zero (n : Nat) : List.replicate n (Value.int .i64 0) = ints (tabL n fun _ => 0) := by
  apply List.ext_getElem
  · simp [ints, tabL]
  · intro i h1 h2; simp [ints, tabL]
theorem tabL_held {n : Nat} {g : Nat → Int} {i : Nat} (h : i < n) : (ints (tabL n g)).getD i undef = .int .i64 (g i) := by
  rw [List.getD_eq_getElem?_getD, ints_at _ _ (by rw [tabL_len]; exact h), tabL_at]; rfl

/-- How many of l are at least t. -/
def atLeast (t : Int) (l : List Int) : Nat := l.countP fun x => decide (t ≤ x)
theorem atLeast_le (t : Int) (l : List Int) : atLeast t l ≤ l.length := List.countP_le_length
theorem atLeast_take (t : Int) (l : List Int) (k : Nat) (h : k < l.length) : atLeast t (l.take (k + 1)) = atLeast t (l.take k) + if t ≤ l[k] then 1 else 0 := by
  rw [atLeast, List.take_succ_eq_append_getElem h, List.countP_append]
  simp [atLeast]
/-- What ConjugateOf returns. -/
def conjL (l : List Int) (n : Nat) : List Int := tabL n fun k => ((atLeast (k + 1) l : Nat) : Int)
def conjOk (l : List Int) (n : Int) : Bool := decide (1 ≤ n ∧ n ≤ 5) && (decide (l.length ≤ 5) && !l.any (badB n))
def conjRes (l : List Int) (n : Int) : List Int := if conjOk l n = true then conjL l n.toNat else []
theorem conj_no1 {l : List Int} {n : Int} (h : ¬ (1 ≤ n ∧ n ≤ 5)) : conjRes l n = [] := by rw [conjRes, conjOk, decide_eq_false h]; rfl
theorem conj_no2 {l : List Int} {n : Int} (h : 5 < l.length) : conjRes l n = [] := by rw [conjRes, conjOk, decide_eq_false (show ¬ l.length ≤ 5 by omega)]; simp
theorem conj_no3 {l : List Int} {n : Int} (h : l.any (badB n) = true) : conjRes l n = [] := by rw [conjRes, conjOk, h]; simp
theorem conj_yes {l : List Int} {n : Nat} (h1 : 1 ≤ n ∧ n ≤ 5) (h2 : l.length ≤ 5) (h : l.any (badB n) = false) : conjRes l n = conjL l n := by
  rw [conjRes, conjOk, h, decide_eq_true h2, decide_eq_true (show (1 : Int) ≤ n ∧ (n : Int) ≤ 5 by omega)]; simp

set_option maxHeartbeats 400000 in
theorem specConj_n (v : Value) (l : List Int) (n : Int) (w : World) (hin : InRow w v l) (h : ¬ (1 ≤ n ∧ n ≤ 5)) :
    Calls Try.prog 117 #[v, .int .i64 n] w (IntsRes [] w) := by
  obtain ⟨a, c, rfl, hm, -⟩ := hin
  unfold maxLen at hm
  have HE := hide (decide_eq_false h)
  clear h
  go_enter Try.func117, Try.ntmps117
  go_wp2_with (with_reducible refine (l01In_any n 1 5 _).mono ?_; rw [HE.out]; rintro e w' ⟨rfl, rfl⟩)
  go_ret
  exact intsRes_nil (Below.refl _ _)
set_option maxHeartbeats 400000 in
theorem specConj_len (v : Value) (l : List Int) (n : Int) (w : World) (hin : InRow w v l) (h : 1 ≤ n ∧ n ≤ 5) (h2 : 5 < l.length) :
    Calls Try.prog 117 #[v, .int .i64 n] w (IntsRes [] w) := by
  obtain ⟨a, c, rfl, hm, -⟩ := hin
  unfold maxLen at hm
  have HE := hide (decide_eq_true h)
  clear h
  go_enter Try.func117, Try.ntmps117
  go_wp2_with (with_reducible refine (l01In_any n 1 5 _).mono ?_; rw [HE.out]; rintro e w' ⟨rfl, rfl⟩)
  go_ret
  exact intsRes_nil (Below.refl _ _)
set_option maxHeartbeats 2000000 in
theorem specConj_yes (v : Value) (l : List Int) (n : Nat) (w : World) (hin : InRow w v l) (h : 1 ≤ n ∧ n ≤ 5) (h2 : l.length ≤ 5) :
    Calls Try.prog 117 #[v, .int .i64 n] w (IntsRes (conjRes l n) w) := by
  obtain ⟨a, c, rfl, hm, hp⟩ := hin
  unfold maxLen at hm
  have HP := hide fun h : l.length ≠ 0 => hp.resolve_left h
  have HE := hide (decide_eq_true (show (1 : Int) ≤ n ∧ (n : Int) ≤ 5 by omega))
  have HN3 := hide (conj_no3 (l := l) (n := n))
  have HY := hide (conj_yes (l := l) h h2)
  obtain ⟨L, hL⟩ : ∃ L, L = l.length := ⟨_, rfl⟩
  have HL := hide hL
  obtain ⟨h11, h12⟩ := h
  rw [← hL] at hm h2 ⊢
  clear hp hL
  go_enter Try.func117, Try.ntmps117
  go_wp2_with (first | (with_reducible refine (l01In_any n 1 5 _).mono ?_; rw [HE.out]; rintro e w' ⟨rfl, rfl⟩) | (at_make; refine wpList_new w.heap.size n (.int .i64 0) rfl _ _ rfl Try.underlying24 Try.infoInt rfl (by decide) rfl rfl (by omega) (Nat.le_refl _) ?_; intro w1 hown1 hb1 hg1))
  have HO := hide hown1; have HB := hide hb1
  clear hown1 hb1 hg1
  go_loopw [21] (fun i w' => ∃ k : Nat, k ≤ L ∧ i = .int .i64 k ∧ (∀ t, (h : t < l.length) → t < k → badB n l[t] = false) ∧ w'.ownsRow w.heap.size 3 1 (.slice (some ⟨w.heap.size, 0, none⟩) n n) n (ints (tabL n fun t => ((atLeast (t + 1) (l.take k) : Nat) : Int))) ∧ Below w.heap.size w w') (fun i _ => L - (intOf i).toNat)
  case atStart => exact ⟨0, Nat.zero_le _, rfl, fun t _ h => absurd h (Nat.not_lt_zero _), by rw [tabL_zero] at HO; exact HO.out, HB.out⟩
  case round =>
    clear HO HB
    obtain ⟨k, hk, rfl, hall, hown, hb⟩ := hrel
    have HA := hide hall; have HO := hide hown; have HB := hide hb
    clear hall hown hb
    by_cases hlt : k < L
    · obtain ⟨g, o, rfl, hg, hc⟩ := HP.out (by have := HL.out; omega)
      have hk' : k < l.length := by rw [← HL.out]; exact hlt
      have hx := below_cell HB.out hg (hc k hk')
      have HC := hide hc
      have HNO := hide (fun h => HN3.out (any_yes (p := badB n) k hk' h))
      have HST : Hid (badB n l[k] = false → ∀ t, (h : t < l.length) → t < k + 1 → badB n l[t] = false) := hide fun h t h1 ht => by
        by_cases e : t = k
        · subst e; exact h
        · exact HA.out t h1 (by omega)
      have HAT := hide (fun t : Nat => atLeast_take ((t : Int) + 1) l k hk')
      have HLE := hide (fun t : Int => Nat.le_trans (atLeast_le t (l.take k)) (show (l.take k).length ≤ 5 by rw [List.length_take]; have := HL.out; omega))
      obtain ⟨x, hxx⟩ : ∃ x, x = l[k] := ⟨_, rfl⟩
      rw [← hxx] at hx HNO HST HAT
      clear hxx hc
      have HBI := hide (bad_in n x)
      cases e : badB n x with
      | true =>
        have HE2 : Hid (decide (0 ≤ x ∧ x ≤ (n : Int)) = false) := hide (by rw [HBI.out, e]; rfl)
        have HF := hide (HNO.out e)
        clear e
        go_wp2_with (with_reducible refine (l01In_any x 0 (n : Int) _).mono ?_; rw [HE2.out]; rintro e w' ⟨rfl, rfl⟩)
        go_ret
        rw [HF.out]
        exact intsRes_nil HB.out
      | false =>
        have hx2 : 0 ≤ x ∧ x ≤ (n : Int) := by have := HBI.out; rw [e] at this; simpa using this
        have HE2 : Hid (decide (0 ≤ x ∧ x ≤ (n : Int)) = true) := hide (decide_eq_true hx2)
        have HST := hide (HST.out e)
        obtain ⟨hx0, hx1⟩ := hx2
        clear e
        go_wp2_with (with_reducible refine (l01In_any x 0 (n : Int) _).mono ?_; rw [HE2.out]; rintro e w' ⟨rfl, rfl⟩)
        obtain ⟨G, HG⟩ : ∃ G : Nat → Int, Hid (G = fun t : Nat => ((atLeast ((t : Int) + 1) (l.take k) : Nat) : Int)) := ⟨_, hide rfl⟩
        have HO := HO
        rw [← HG.out] at HO
        go_loopw [8] (fun i w' => ∃ q : Nat, (q : Int) ≤ x ∧ i = .int .i64 q ∧ w'.ownsRow w.heap.size 3 1 (.slice (some ⟨w.heap.size, 0, none⟩) n n) n (ints (tabL n fun t => G t + if t < q then 1 else 0)) ∧ Below w.heap.size w w') (fun i _ => (x - intOf i).toNat)
        case atStart =>
          refine ⟨0, by omega, rfl, ?_, HB.out⟩
          have e : (tabL n fun t => G t + if t < 0 then 1 else 0) = tabL n G := tabL_congr fun i _ => by simp
          rw [e]; exact HO.out
        case round =>
          clear HO HB
          obtain ⟨q, hq, rfl, hown, hb⟩ := hrel
          have HO := hide hown; have HB := hide hb
          clear hown hb
          by_cases hltq : (q : Int) < x
          · have hqn : q < n := by omega
            have hc1 := cell_held HO.out hqn
            rw [tabL_held hqn, if_neg (Nat.lt_irrefl q), Int.add_zero] at hc1
            have hG : 0 ≤ G q ∧ G q ≤ 5 := by rw [HG.out]; have := HLE.out ((q : Int) + 1); dsimp only; omega
            have hf := HO.out.frozenAt q
            have HS := HO.out.stored q (.int .i64 (G q + 1))
            rw [ints_set, tabL_set] at HS
            have e2 : (tabL n fun t => if t = q then G q + 1 else G t + if t < q then 1 else 0) = tabL n fun t => G t + if t < q + 1 then 1 else 0 := tabL_congr fun i _ => by
              by_cases e : i = q
              · subst e; rw [if_pos rfl, if_pos (Nat.lt_succ_self _)]
              · rw [if_neg e]
                by_cases e' : i < q
                · rw [if_pos e', if_pos (by omega)]
                · rw [if_neg e', if_neg (by omega)]
            rw [e2] at HS
            have HS := hide HS
            obtain ⟨hG0, hG1⟩ := hG
            obtain ⟨z, hz⟩ : ∃ z, z = G q := ⟨_, rfl⟩
            rw [← hz] at hc1 hG0 hG1 HS
            clear hz e2
            go_wp2
            go_roundw
            case rel => exact ⟨q + 1, by omega, by go_num, HS.out.1, HB.out.setCell (Nat.le_refl _) _⟩
            case measure => simp [intOf]; omega
          · have e3 : (tabL n fun t => G t + if t < q then 1 else 0) = tabL n fun t => ((atLeast (t + 1) (l.take (k + 1)) : Nat) : Int) := tabL_congr fun i _ => by
              rw [HG.out, HAT.out i]
              by_cases e : (i : Int) + 1 ≤ x
              · rw [if_pos e, if_pos (by omega)]; rfl
              · rw [if_neg e, if_neg (by omega)]; simp
            have HO : Hid _ := hide (e3 ▸ HO.out)
            clear e3
            go_wp2
            go_roundw
            case rel => exact ⟨k + 1, by omega, by go_num, HST.out, HO.out, HB.out⟩
            case measure => simp [intOf]; omega
    · have HY2 := hide (HY.out (any_no (p := badB n) fun t h => HA.out t h (by have := HL.out; omega)))
      have HE3 : Hid (l.take k = l) := hide (List.take_of_length_le (by have := HL.out; omega))
      go_wp2
      go_ret
      rw [HY2.out]
      have := HO.out
      rw [HE3.out] at this
      exact ⟨_, rfl, by rw [conjL, tabL_len]; exact this, HB.out⟩
theorem specConj_any (v : Value) (l : List Int) (n : Int) (w : World) (hin : InRow w v l) :
    Calls Try.prog 117 #[v, .int .i64 n] w (IntsRes (conjRes l n) w) := by
  by_cases h : 1 ≤ n ∧ n ≤ 5
  · by_cases h2 : l.length ≤ 5
    · obtain ⟨m, rfl⟩ : ∃ m : Nat, n = m := ⟨n.toNat, by omega⟩
      exact specConj_yes v l m w hin (by omega) h2
    · rw [conj_no2 (by omega)]; exact specConj_len v l n w hin h (by omega)
  · rw [conj_no1 h]; exact specConj_n v l n w hin h

set_option maxHeartbeats 400000 in
theorem countAtLeast_any (v : Value) (r : List Int) (t : Int) (w : World) (hin : InRow w v r) (hn : r.length ≤ 5) :
    Calls Try.prog 94 #[v, .int .i64 t] w fun e w' => e = .returned (.int .i64 (atLeast t r : Nat)) ∧ w = w' := by
  obtain ⟨a, c, rfl, hm, hp⟩ := hin
  unfold maxLen at hm
  have HP := hide fun h : r.length ≠ 0 => hp.resolve_left h
  obtain ⟨n, hnn⟩ : ∃ n, n = r.length := ⟨_, rfl⟩
  have HN := hide hnn
  rw [← hnn] at hm hn ⊢
  clear hp hnn
  go_enter Try.func94, Try.ntmps94
  go_wp2
  go_loop [5, 10] (fun s i => ∃ k : Nat, k ≤ n ∧ i = .int .i64 k ∧ s = .int .i64 (atLeast t (r.take k) : Nat)) (fun _ i => n - (intOf i).toNat)
  case atStart => exact ⟨0, Nat.zero_le _, rfl, rfl⟩
  case round =>
    obtain ⟨k, hk, rfl, rfl⟩ := hrel
    have hle := Nat.le_trans (atLeast_le t (r.take k)) (show (r.take k).length ≤ 5 by rw [List.length_take]; have := HN.out; omega)
    by_cases hlt : k < n
    · obtain ⟨g, o, rfl, hg, hc⟩ := HP.out (by have := HN.out; omega)
      have hk' : k < r.length := by rw [← HN.out]; exact hlt
      have hx := hc k hk'
      have HAT := hide (atLeast_take t r k hk')
      obtain ⟨x, hxx⟩ : ∃ x, x = r[k] := ⟨_, rfl⟩
      obtain ⟨q, hq⟩ : ∃ q, q = atLeast t (r.take k) := ⟨_, rfl⟩
      rw [← hxx] at hx HAT
      rw [← hq] at hle HAT ⊢
      clear hxx hq hc
      by_cases htx : t ≤ x
      · have HAT2 : Hid (atLeast t (r.take (k + 1)) = q + 1) := hide (by rw [HAT.out, if_pos htx])
        clear HAT
        go_wp2
        go_round
        case rel => exact ⟨k + 1, by omega, by go_num, by rw [HAT2.out]; go_num⟩
        case measure => simp [intOf]; omega
      · have HAT2 : Hid (atLeast t (r.take (k + 1)) = q) := hide (by rw [HAT.out, if_neg htx]; rfl)
        clear HAT
        go_wp2
        go_round
        case rel => exact ⟨k + 1, by omega, by go_num, by rw [HAT2.out]⟩
        case measure => simp [intOf]; omega
    · have HE : Hid (r.take k = r) := hide (List.take_of_length_le (by have := HN.out; omega))
      rw [HE.out] at hle ⊢
      go_wp2
      go_ret
      exact ⟨rfl, rfl⟩
set_option maxHeartbeats 400000 in
theorem conjAt_any (v : Value) (r : List Int) (t : Int) (q : Nat) (w : World) (hin : InRow w v r) (hn : r.length ≤ 5) (hc : w.cell? ⟨q, 0, none⟩ = some v) :
    Calls Try.prog 132 #[.int .i64 t, .pointer (some ⟨q, 0, none⟩)] w fun e w' => e = .returned (.int .i64 (atLeast t r : Nat)) ∧ w = w' := by
  have HI := hide hin
  obtain ⟨a, c, rfl, -, -⟩ := hin
  go_enter Try.func132, Try.ntmps132
  go_wp2_with ((with_reducible refine (countAtLeast_any _ r t _ HI.out hn).mono ?_); rintro e w' ⟨rfl, rfl⟩)
  go_ret
  exact ⟨rfl, rfl⟩
set_option maxHeartbeats 1000000 in
theorem collectInt_any (v : Value) (r : List Int) (n q : Nat) (w : World) (hin : InRow w v r) (hr : r.length ≤ 5) (hq : q < w.heap.size) (hc : w.cell? ⟨q, 0, none⟩ = some v) (h : 1 ≤ n ∧ n ≤ 5) :
    Calls Try.prog 131 #[.int .i64 n, .func (.func 132) #[] #[.pointer (some ⟨q, 0, none⟩)]] w (IntsRes (conjL r n) w) := by
  have HI := hide hin; have HR := hide hr; have HC := hide hc; have HQ := hide hq
  obtain ⟨h11, h12⟩ := h
  clear hin hr hc hq
  go_enter Try.func131, Try.ntmps131
  go_wp2_with (at_make; refine wpList_new w.heap.size n (.int .i64 0) rfl _ _ rfl Try.underlying24 Try.infoInt rfl (by decide) rfl rfl (by omega) (Nat.le_refl _) ?_; intro w1 hown1 hb1 hg1)
  have HO := hide hown1; have HB := hide hb1
  clear hown1 hb1 hg1
  go_wp2
  go_loopw [10] (fun i w' => ∃ k : Nat, k ≤ n ∧ i = .int .i64 k ∧ w'.ownsRow w.heap.size 3 1 (.slice (some ⟨w.heap.size, 0, none⟩) n n) n (ints (tabL n fun t => if t < k then ((atLeast (t + 1) r : Nat) : Int) else 0)) ∧ Below w.heap.size w w') (fun i _ => n - (intOf i).toNat)
  case atStart => exact ⟨0, Nat.zero_le _, rfl, by rw [tabL_zero] at HO; exact HO.out, HB.out⟩
  case round =>
    clear HO HB
    obtain ⟨k, hk, rfl, hown, hb⟩ := hrel
    have HO := hide hown; have HB := hide hb
    clear hown hb
    by_cases hlt : k < n
    · have hc1 := cell_held HO.out hlt
      have hf := HO.out.frozenAt k
      have HS := HO.out.stored k (.int .i64 (atLeast ((k : Int) + 1) r : Nat))
      rw [ints_set, tabL_set] at HS
      have e2 : (tabL n fun t => if t = k then ((atLeast ((k : Int) + 1) r : Nat) : Int) else if t < k then ((atLeast (t + 1) r : Nat) : Int) else 0) = tabL n fun t => if t < k + 1 then ((atLeast (t + 1) r : Nat) : Int) else 0 := tabL_congr fun i _ => by
        by_cases e : i = k
        · subst e; rw [if_pos rfl, if_pos (Nat.lt_succ_self _)]
        · rw [if_neg e]
          by_cases e' : i < k
          · rw [if_pos e', if_pos (by omega)]
          · rw [if_neg e', if_neg (by omega)]
      rw [e2] at HS
      have HS := hide HS
      clear e2
      have hle := Nat.le_trans (atLeast_le ((k : Int) + 1) r) HR.out
      have HCA := hide (conjAt_any v r ((k : Int) + 1) q wr (inRow_below HI.out HB.out) HR.out (below_cell HB.out HQ.out HC.out))
      obtain ⟨z, hz⟩ : ∃ z, z = atLeast ((k : Int) + 1) r := ⟨_, rfl⟩
      rw [← hz] at HS hle HCA
      clear hz
      go_wp2_with (go_at_call 132; refine HCA.out.mono ?_; rintro e w9 ⟨rfl, rfl⟩)
      go_roundw
      case rel => exact ⟨k + 1, by omega, by go_num, HS.out.1, HB.out.setCell (Nat.le_refl _) _⟩
      case measure => simp [intOf]; omega
    · obtain rfl : k = n := by omega
      have e3 : (tabL k fun t => if t < k then ((atLeast (t + 1) r : Nat) : Int) else 0) = conjL r k := tabL_congr fun i hi => by rw [if_pos hi]
      have HO : Hid _ := hide (e3 ▸ HO.out)
      clear e3
      go_wp2
      go_ret
      exact ⟨_, rfl, by rw [conjL, tabL_len]; exact HO.out, HB.out⟩
/-- .. and nil where there are none. -/
def IntsNil (r : List Int) (w : World) (e : Ending) (w' : World) : Prop := IntsRes r w e w' ∧ (r = [] → e = .returned (.slice none 0 0))
set_option maxHeartbeats 1000000 in
theorem implConj_nil (v : Value) (l : List Int) (n : Int) (w : World) (hin : InRow w v l) :
    Calls Try.prog 124 #[v, .int .i64 n] w (IntsNil (conjRes l n) w) := by
  have hbox := (Below.refl w.heap.size w).alloc (Nat.le_refl _) (.cells #[v] 24)
  have HI := hide (inRow_below hin hbox); have HBX := hide hbox
  have HCX := hide (show (w.alloc (.cells #[v] 24)).cell? ⟨w.heap.size, 0, none⟩ = some v by simp [World.cell?_alloc_new])
  obtain ⟨a, c, rfl, hm, -⟩ := hin
  unfold maxLen at hm
  clear hbox
  by_cases h : 1 ≤ n ∧ n ≤ 5
  · have HE := hide (decide_eq_true h)
    obtain ⟨h11, h12⟩ := h
    by_cases h2 : l.length ≤ 5
    · obtain ⟨m, rfl⟩ : ∃ m : Nat, n = m := ⟨n.toNat, by omega⟩
      have HL := hide h2
      cases h3 : l.any (badB m) with
      | true =>
        rw [conj_no3 h3]
        have H3 := hide h3
        clear h3
        go_enter Try.func124, Try.ntmps124
        go_wp2_with (first | (with_reducible refine (sideOk_any (m : Int) _).mono ?_; rw [HE.out]; rintro e w' ⟨rfl, rfl⟩) | ((with_reducible refine (sumsInRange_any _ l (m : Int) _ HI.out).mono ?_); rw [H3.out]; rintro e w1 ⟨rfl, b1⟩; have B1 := hide (HBX.out.trans (b1.mono HBX.out.size)); clear b1))
        go_ret
        exact ⟨intsRes_nil B1.out, fun _ => rfl⟩
      | false =>
        rw [conj_yes ⟨by omega, by omega⟩ h2 h3]
        have H3 := hide h3
        clear h3
        go_enter Try.func124, Try.ntmps124
        go_wp2_with (first | (with_reducible refine (sideOk_any (m : Int) _).mono ?_; rw [HE.out]; rintro e w' ⟨rfl, rfl⟩) | ((with_reducible refine (sumsInRange_any _ l (m : Int) _ HI.out).mono ?_); rw [H3.out]; rintro e w1 ⟨rfl, b1⟩; have B1 := hide (HBX.out.trans (b1.mono HBX.out.size)); have I1 := hide (inRow_below HI.out b1); have C1 := hide (below_cell b1 (by simp) HCX.out); have hs1 := b1.size; rw [World.size_alloc] at hs1; clear b1) | ((with_reducible refine (collectInt_any _ l m w.heap.size _ I1.out HL.out (by omega) C1.out ⟨by omega, by omega⟩).mono ?_); rintro e w2 ⟨u, rfl, ho, hb⟩; have HO := hide (own_base ho B1.out.size); have HB2 := hide (B1.out.trans (hb.mono B1.out.size)); clear ho hb))
        go_ret
        exact ⟨⟨_, rfl, HO.out, HB2.out⟩, fun h => absurd (congrArg List.length h) (by rw [conjL, tabL_len]; simp; omega)⟩
    · rw [conj_no2 (by omega)]
      go_enter Try.func124, Try.ntmps124
      go_wp2_with (first | (with_reducible refine (sideOk_any n _).mono ?_; rw [HE.out]; rintro e w' ⟨rfl, rfl⟩))
      go_ret
      exact ⟨intsRes_nil HBX.out, fun _ => rfl⟩
  · rw [conj_no1 h]
    have HE := hide (decide_eq_false h)
    clear h
    go_enter Try.func124, Try.ntmps124
    go_wp2_with (first | (with_reducible refine (sideOk_any n _).mono ?_; rw [HE.out]; rintro e w' ⟨rfl, rfl⟩))
    go_ret
    exact ⟨intsRes_nil HBX.out, fun _ => rfl⟩
theorem implConj_any (v : Value) (l : List Int) (n : Int) (w : World) (hin : InRow w v l) :
    Calls Try.prog 124 #[v, .int .i64 n] w (IntsRes (conjRes l n) w) := (implConj_nil v l n w hin).mono fun _ _ h => h.1
end Go.Proofs.Ytjgkblgilnfpfaa
/-
  The sums of the lesser ones are the sums of the conjugate.
-/
namespace Go.Proofs.Ytjgkblgilnfpfaa
open Go.RowKit

theorem most_step (r : List Int) (k : Nat) : (r.map fun x => min x ((k : Int) + 1)).sum = (r.map fun x => min x (k : Int)).sum + (atLeast ((k : Int) + 1) r : Nat) := by
  induction r with
  | nil => rfl
  | cons x r ih =>
    rw [List.map_cons, List.map_cons, List.sum_cons, List.sum_cons, ih, atLeast, atLeast, List.countP_cons]
    by_cases h : (k : Int) + 1 ≤ x
    · rw [if_pos (decide_eq_true h)]; omega
    · rw [if_neg (by simpa using h)]; omega
theorem most_sum {r : List Int} {n : Nat} (hr : ∀ x ∈ r, 0 ≤ x) : ∀ k, k ≤ n → (r.map fun x => min x (k : Int)).sum = ((conjL r n).take k).sum := by
  intro k
  induction k with
  | zero =>
    intro _
    have h : (r.map fun x => min x ((0 : Nat) : Int)) = r.map fun _ => 0 := List.map_congr_left fun x hx => by have := hr x hx; omega
    rw [h]
    clear h hr
    induction r with
    | nil => rfl
    | cons x r ih => rw [List.map_cons, List.sum_cons, ih]; simp
  | succ k ih =>
    intro hk
    have hl : (conjL r n).length = n := by rw [conjL, tabL_len]
    have ha : (conjL r n)[k]'(by omega) = ((atLeast (k + 1) r : Nat) : Int) := tabL_at _
    rw [sum_snoc _ k (by omega), ← ih (by omega), ha]
    exact most_step r k
end Go.Proofs.Ytjgkblgilnfpfaa
