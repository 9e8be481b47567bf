/-
  SumsOk, of the model and of the program.
-/
import Derived.Test.YtecfigjkcpbggaaLineOf
namespace Go.Proofs.Ytecfigjkcpbggaa
open Go.RowKit

def badB (most x : Int) : Bool := decide (x < 0) || decide (most < x)
theorem any_no {p : Int → Bool} {r : List Int} (h : ∀ i, (hi : i < r.length) → p r[i] = false) : r.any p = false := by
  rw [Bool.eq_false_iff]; intro e
  rw [List.any_eq_true] at e
  obtain ⟨x, hx, hp⟩ := e
  obtain ⟨i, hi, rfl⟩ := List.getElem_of_mem hx
  rw [h i hi] at hp; cases hp
theorem any_yes {p : Int → Bool} {r : List Int} (i : Nat) (hi : i < r.length) (h : p r[i] = true) : r.any p = true := List.any_eq_true.2 ⟨_, List.getElem_mem hi, h⟩

set_option maxHeartbeats 400000 in
theorem bad_any (x most : Int) (g : Nat) (w : World) (hc : w.cell? ⟨g, 0, none⟩ = some (.int .i64 most)) :
    Calls Try.prog 92 #[.int .i64 x, .pointer (some ⟨g, 0, none⟩)] w fun e w' => e = .returned (.bool (badB most x)) ∧ w = w' := by
  have HB : Hid (badB most x = (decide (x < 0) || decide (most < x))) := hide rfl
  by_cases h1 : x < 0
  · go_enter Try.func92, Try.ntmps92
    go_wp2
    go_ret
    exact ⟨ret_bool (by rw [HB.out]; simp [h1]), rfl⟩
  · go_enter Try.func92, Try.ntmps92
    go_wp2
    go_ret
    exact ⟨ret_bool (by rw [HB.out]; simp; omega), rfl⟩

def IdxRes (b : Bool) (w : World) (e : Ending) (w' : World) : Prop := ∃ i : Int, e = .returned (.int .i64 i) ∧ -1 ≤ i ∧ b = decide (0 ≤ i) ∧ w = w'
set_option maxHeartbeats 1000000 in
theorem indexFunc_any (v : Value) (r : List Int) (most : Int) (q : Nat) (w : World) (hin : InRow w v r) (hq : w.cell? ⟨q, 0, none⟩ = some (.int .i64 most)) :
    Calls Try.prog 104 #[v, .func (.func 92) #[] #[.pointer (some ⟨q, 0, none⟩)]] w (IdxRes (r.any (badB most)) w) := by
  obtain ⟨a, c, rfl, hm, hp⟩ := hin
  unfold maxLen at hm
  by_cases h0 : r.length = 0
  · have hr : r = [] := List.eq_nil_of_length_eq_zero h0
    subst hr
    clear hp h0 hm
    go_enter Try.func104, Try.ntmps104
    go_wp2
    go_loop [8] (fun i => i = .int .i64 0) (fun _ => 0)
    case atStart => rfl
    case round =>
      obtain rfl := hrel
      go_wp2
      go_ret
      exact ⟨-1, rfl, by omega, rfl, rfl⟩
  · obtain ⟨g, o, rfl, hg, hc⟩ := hp.resolve_left h0
    have HC := hide hc
    obtain ⟨n, hn⟩ : ∃ n, n = r.length := ⟨_, rfl⟩
    have HN := hide hn
    rw [← hn] at hm ⊢
    clear hp hc h0 hn
    go_enter Try.func104, Try.ntmps104
    go_wp2
    go_loop [8] (fun i => ∃ k : Nat, k ≤ n ∧ i = .int .i64 k ∧ ∀ t, (h : t < r.length) → t < k → badB most r[t] = false) (fun i => n - (intOf i).toNat)
    case atStart => exact ⟨0, Nat.zero_le _, rfl, fun t _ h => absurd h (Nat.not_lt_zero _)⟩
    case round =>
      obtain ⟨k, hk, rfl, hall⟩ := hrel
      have HA := hide hall
      clear hall
      by_cases hlt : k < n
      · have hk' : k < r.length := by rw [← HN.out]; exact hlt
        have hx := HC.out k hk'
        have HNO := hide (fun h => any_yes (p := badB most) k hk' h)
        have HST : Hid (badB most r[k] = false → ∀ t, (h : t < r.length) → t < k + 1 → badB most r[t] = false) := hide fun h t h1 ht => by
          by_cases e : t = k
          · subst e; exact h
          · exact HA.out t h1 (by omega)
        obtain ⟨x, hxx⟩ : ∃ x, x = r[k] := ⟨_, rfl⟩
        rw [← hxx] at hx HNO HST
        clear hxx
        cases e : badB most x with
        | true =>
          have HE := hide e
          have HF := hide (HNO.out e)
          clear e
          go_wp2_with (go_at_call 92; refine (bad_any _ most q _ hq).mono ?_; rw [HE.out]; rintro e w9 ⟨rfl, rfl⟩)
          go_ret
          exact ⟨k, rfl, by omega, by rw [HF.out]; simp, rfl⟩
        | false =>
          have HE := hide e
          have HST := hide (HST.out e)
          clear e
          go_wp2_with (go_at_call 92; refine (bad_any _ most q _ hq).mono ?_; rw [HE.out]; rintro e w9 ⟨rfl, rfl⟩)
          go_round
          case rel => exact ⟨k + 1, by omega, by go_num, HST.out⟩
          case measure => simp [intOf]; omega
      · have HY := hide (any_no (p := badB most) fun t h => HA.out t h (by have := HN.out; omega))
        go_wp2
        go_ret
        exact ⟨-1, rfl, by omega, by rw [HY.out]; rfl, rfl⟩

set_option maxHeartbeats 400000 in
theorem containsFunc_any (v : Value) (r : List Int) (most : Int) (q : Nat) (w : World) (hin : InRow w v r) (hq : w.cell? ⟨q, 0, none⟩ = some (.int .i64 most)) :
    Calls Try.prog 91 #[v, .func (.func 92) #[] #[.pointer (some ⟨q, 0, none⟩)]] w fun e w' => e = .returned (.bool (r.any (badB most))) ∧ w = w' := by
  have HI := hide hin; have HQ := hide hq
  clear hin hq
  go_enter Try.func91, Try.ntmps91
  go_wp2_with fail
  refine (indexFunc_any v r most q _ HI.out HQ.out).mono ?_
  rintro e w1 ⟨i, rfl, hi, hb, rfl⟩
  have HB := hide hb
  clear hb
  by_cases h : 0 ≤ i
  · go_wp2
    go_ret
    exact ⟨ret_bool (by rw [HB.out]; simp [h]), rfl⟩
  · go_wp2
    go_ret
    exact ⟨ret_bool (by rw [HB.out]), rfl⟩

theorem sumsInRange_any (v : Value) (r : List Int) (most : Int) (w : World) (hin : InRow w v r) :
    Calls Try.prog 75 #[v, .int .i64 most] w fun e w' => e = .returned (.bool (!r.any (badB most))) ∧ Below w.heap.size w w' := by
  have HB := hide ((Below.refl w.heap.size w).alloc (Nat.le_refl _) (.cells #[.int .i64 most] 3))
  have HI := hide (inRow_below hin HB.out)
  have HQ := hide (show (w.alloc (.cells #[.int .i64 most] 3)).cell? ⟨w.heap.size, 0, none⟩ = some (.int .i64 most) by simp [World.cell?_alloc_new])
  clear hin
  go_enter Try.func75, Try.ntmps75
  go_wp2_with fail
  refine (containsFunc_any v r most w.heap.size _ HI.out HQ.out).mono ?_
  rintro e w1 ⟨rfl, rfl⟩
  go_wp2
  go_ret
  exact ⟨rfl, HB.out⟩

theorem sum_snoc (r : List Int) (k : Nat) (h : k < r.length) : (r.take (k + 1)).sum = (r.take k).sum + r[k] := by
  rw [List.take_succ_eq_append_getElem h, List.sum_append]; simp
def SmallL (r : List Int) : Prop := r.length ≤ 5 ∧ ∀ i, (h : i < r.length) → 0 ≤ r[i] ∧ r[i] ≤ 5
theorem sum_small {r : List Int} (h : SmallL r) : ∀ k, k ≤ r.length → 0 ≤ (r.take k).sum ∧ (r.take k).sum ≤ 5 * k := by
  intro k
  induction k with
  | zero => intro _; simp
  | succ k ih =>
    intro hk
    have := ih (by omega)
    have := h.2 k (by omega)
    rw [sum_snoc r k (by omega)]; omega
set_option maxHeartbeats 400000 in
theorem totalOf_any (v : Value) (r : List Int) (w : World) (hin : InRow w v r) (hs : SmallL r) :
    Calls Try.prog 80 #[v] w fun e w' => e = .returned (.int .i64 r.sum) ∧ w = w' := by
  obtain ⟨a, c, rfl, hm, hp⟩ := hin
  unfold maxLen at hm
  have HS := hide hs
  by_cases h0 : r.length = 0
  · have hr : r = [] := List.eq_nil_of_length_eq_zero h0
    subst hr
    clear hp h0 hm hs
    go_enter Try.func80, Try.ntmps80
    go_wp2
    go_loop [3, 8] (fun s i => s = .int .i64 0 ∧ i = .int .i64 0) (fun _ _ => 0)
    case atStart => exact ⟨rfl, rfl⟩
    case round =>
      obtain ⟨rfl, rfl⟩ := hrel
      go_wp2
      go_ret
      exact ⟨rfl, rfl⟩
  · obtain ⟨g, o, rfl, hg, hc⟩ := hp.resolve_left h0
    have HC := hide hc
    have h5 := hs.1
    obtain ⟨n, hn⟩ : ∃ n, n = r.length := ⟨_, rfl⟩
    have HN := hide hn
    rw [← hn] at hm h5 ⊢
    clear hp hc h0 hn hs
    go_enter Try.func80, Try.ntmps80
    go_wp2
    go_loop [3, 8] (fun s i => ∃ k : Nat, k ≤ n ∧ i = .int .i64 k ∧ s = .int .i64 (r.take k).sum) (fun _ i => n - (intOf i).toNat)
    case atStart => exact ⟨0, Nat.zero_le _, rfl, rfl⟩
    case round =>
      obtain ⟨k, hk, rfl, rfl⟩ := hrel
      obtain ⟨b1, b2⟩ := sum_small HS.out k (by rw [← HN.out]; exact hk)
      by_cases hlt : k < n
      · have hk' : k < r.length := by rw [← HN.out]; exact hlt
        have hx := HC.out k hk'
        have HST := hide (sum_snoc r k hk')
        obtain ⟨b3, b4⟩ := HS.out.2 k hk'
        obtain ⟨x, hxx⟩ : ∃ x, x = r[k] := ⟨_, rfl⟩
        obtain ⟨S, hSS⟩ : ∃ S, S = (r.take k).sum := ⟨_, rfl⟩
        rw [← hxx] at hx HST b3 b4
        rw [← hSS] at HST b1 b2 ⊢
        clear hxx hSS
        go_wp2
        go_round
        case rel => exact ⟨k + 1, by omega, by go_num, by rw [HST.out]⟩
        case measure => simp [intOf]; omega
      · have HE : Hid ((r.take k).sum = r.sum) := hide (by rw [List.take_of_length_le (by have := HN.out; omega)])
        rw [HE.out]
        clear b1 b2
        go_wp2
        go_ret
        exact ⟨rfl, rfl⟩

set_option maxHeartbeats 400000 in
theorem l03Total_any (v : Value) (r : List Int) (w : World) (hin : InRow w v r) (hs : SmallL r) :
    Calls Try.prog 62 #[v] w fun e w' => e = .returned (.int .i64 r.sum) ∧ w = w' := by
  obtain ⟨a, c, rfl, hm, hp⟩ := hin
  unfold maxLen at hm
  have HS := hide hs
  by_cases h0 : r.length = 0
  · have hr : r = [] := List.eq_nil_of_length_eq_zero h0
    subst hr
    clear hp h0 hm hs
    go_enter Try.func62, Try.ntmps62
    go_wp2
    go_loop [3, 8] (fun s i => s = .int .i64 0 ∧ i = .int .i64 0) (fun _ _ => 0)
    case atStart => exact ⟨rfl, rfl⟩
    case round =>
      obtain ⟨rfl, rfl⟩ := hrel
      go_wp2
      go_ret
      exact ⟨rfl, rfl⟩
  · obtain ⟨g, o, rfl, hg, hc⟩ := hp.resolve_left h0
    have HC := hide hc
    have h5 := hs.1
    obtain ⟨n, hn⟩ : ∃ n, n = r.length := ⟨_, rfl⟩
    have HN := hide hn
    rw [← hn] at hm h5 ⊢
    clear hp hc h0 hn hs
    go_enter Try.func62, Try.ntmps62
    go_wp2
    go_loop [3, 8] (fun s i => ∃ k : Nat, k ≤ n ∧ i = .int .i64 k ∧ s = .int .i64 (r.take k).sum) (fun _ i => n - (intOf i).toNat)
    case atStart => exact ⟨0, Nat.zero_le _, rfl, rfl⟩
    case round =>
      obtain ⟨k, hk, rfl, rfl⟩ := hrel
      obtain ⟨b1, b2⟩ := sum_small HS.out k (by rw [← HN.out]; exact hk)
      by_cases hlt : k < n
      · have hk' : k < r.length := by rw [← HN.out]; exact hlt
        have hx := HC.out k hk'
        have HST := hide (sum_snoc r k hk')
        obtain ⟨b3, b4⟩ := HS.out.2 k hk'
        obtain ⟨x, hxx⟩ : ∃ x, x = r[k] := ⟨_, rfl⟩
        obtain ⟨S, hSS⟩ : ∃ S, S = (r.take k).sum := ⟨_, rfl⟩
        rw [← hxx] at hx HST b3 b4
        rw [← hSS] at HST b1 b2 ⊢
        clear hxx hSS
        go_wp2
        go_round
        case rel => exact ⟨k + 1, by omega, by go_num, by rw [HST.out]⟩
        case measure => simp [intOf]; omega
      · have HE : Hid ((r.take k).sum = r.sum) := hide (by rw [List.take_of_length_le (by have := HN.out; omega)])
        rw [HE.out]
        clear b1 b2
        go_wp2
        go_ret
        exact ⟨rfl, rfl⟩

/-- What SumsOk returns. -/
def sumsOk (r c : List Int) : Bool := sizeOk r.length c.length && !r.any (badB c.length) && !c.any (badB r.length) && r.sum == c.sum
theorem small_of {r : List Int} {m : Int} (hl : r.length ≤ 5) (hm : m ≤ 5) (h : r.any (badB m) = false) : SmallL r := by
  refine ⟨hl, fun i hi => ?_⟩
  rw [List.any_eq_false] at h
  have := h _ (List.getElem_mem hi)
  simp only [badB, Bool.or_eq_true, decide_eq_true_eq, not_or] at this
  omega
set_option maxHeartbeats 1000000 in
theorem implSumsOk_any (va vb : Value) (r c : List Int) (w : World) (ha : InRow w va r) (hb : InRow w vb c) :
    Calls Try.prog 50 #[va, vb] w fun e w' => e = .returned (.bool (sumsOk r c)) ∧ Below w.heap.size w w' := by
  obtain ⟨a, ca, rfl, hma, hpa⟩ := ha
  obtain ⟨b, cb, rfl, hmb, hpb⟩ := hb
  have HA : Hid (InRow w (.slice a r.length ca) r) := hide ⟨a, ca, rfl, hma, hpa⟩
  have HB : Hid (InRow w (.slice b c.length cb) c) := hide ⟨b, cb, rfl, hmb, hpb⟩
  clear hpa hpb
  unfold maxLen at hma hmb
  obtain ⟨R, hR⟩ : ∃ R, R = r.length := ⟨_, rfl⟩
  obtain ⟨C, hC⟩ : ∃ C, C = c.length := ⟨_, rfl⟩
  have HRR := hide hR; have HCC := hide hC
  have HS : Hid (sumsOk r c = (decide ((1 : Int) ≤ R ∧ (R : Int) ≤ 5) && decide ((1 : Int) ≤ C ∧ (C : Int) ≤ 5) && !r.any (badB C) && !c.any (badB R) && r.sum == c.sum)) := hide (by rw [sumsOk, sizeOk, hR, hC])
  rw [← hR] at HA hma ⊢
  rw [← hC] at HB hmb ⊢
  rw [HS.out]
  by_cases h1 : 1 ≤ R ∧ R ≤ 5
  · have H1 : Hid (decide ((1 : Int) ≤ R ∧ (R : Int) ≤ 5) = true) := hide (decide_eq_true (by omega))
    rw [H1.out]
    by_cases h2 : 1 ≤ C ∧ C ≤ 5
    · have H2 : Hid (decide ((1 : Int) ≤ C ∧ (C : Int) ≤ 5) = true) := hide (decide_eq_true (by omega))
      rw [H2.out]
      cases h3 : r.any (badB C) with
      | true =>
        have H3 := hide h3
        clear hR hC h3
        go_enter Try.func50, Try.ntmps50
        go_wp2_with (first | (with_reducible refine (sideOk_any (R : Int) _).mono ?_; rw [H1.out]; rintro e w' ⟨rfl, rfl⟩) | (with_reducible refine (sideOk_any (C : Int) _).mono ?_; rw [H2.out]; rintro e w' ⟨rfl, rfl⟩) | ((with_reducible refine (sumsInRange_any _ r (C : Int) _ HA.out).mono ?_); rw [H3.out]; rintro e w1 ⟨rfl, b1⟩; have B1 := hide b1; clear b1))
        go_ret
        exact ⟨rfl, B1.out⟩
      | false =>
        have HSA := hide (small_of (m := C) (by rw [← hR]; exact h1.2) (by omega) h3)
        have H3 := hide h3
        cases h4 : c.any (badB R) with
        | true =>
          have H4 := hide h4
          clear hR hC h3 h4
          go_enter Try.func50, Try.ntmps50
          go_wp2_with (first | (with_reducible refine (sideOk_any (R : Int) _).mono ?_; rw [H1.out]; rintro e w' ⟨rfl, rfl⟩) | (with_reducible refine (sideOk_any (C : Int) _).mono ?_; rw [H2.out]; rintro e w' ⟨rfl, rfl⟩) | ((with_reducible refine (sumsInRange_any _ r (C : Int) _ HA.out).mono ?_); rw [H3.out]; rintro e w1 ⟨rfl, b1⟩; have B1 := hide b1; clear b1) | ((with_reducible refine (sumsInRange_any _ c (R : Int) _ (inRow_below HB.out B1.out)).mono ?_); rw [H4.out]; rintro e w2 ⟨rfl, b2⟩; have B2 := hide (B1.out.trans (b2.mono B1.out.size)); clear b2))
          go_ret
          exact ⟨rfl, B2.out⟩
        | false =>
          have HSB := hide (small_of (m := R) (by rw [← hC]; exact h2.2) (by omega) h4)
          have H4 := hide h4
          clear hR hC h3 h4
          obtain ⟨p1, p2⟩ := sum_small HSA.out r.length (Nat.le_refl _)
          obtain ⟨q1, q2⟩ := sum_small HSB.out c.length (Nat.le_refl _)
          rw [List.take_length] at p1 p2 q1 q2
          have TA := fun w hw => totalOf_any (.slice a R ca) r w hw HSA.out
          have TB := fun w hw => totalOf_any (.slice b C cb) c w hw HSB.out
          obtain ⟨X, hX⟩ : ∃ X, X = r.sum := ⟨_, rfl⟩
          obtain ⟨Y, hY⟩ : ∃ Y, Y = c.sum := ⟨_, rfl⟩
          rw [← hX] at TA p1 p2 ⊢
          rw [← hY] at TB q1 q2 ⊢
          have TA := hide TA; have TB := hide TB
          clear hX hY
          go_enter Try.func50, Try.ntmps50
          go_wp2_with (first | (with_reducible refine (sideOk_any (R : Int) _).mono ?_; rw [H1.out]; rintro e w' ⟨rfl, rfl⟩) | (with_reducible refine (sideOk_any (C : Int) _).mono ?_; rw [H2.out]; rintro e w' ⟨rfl, rfl⟩) | ((with_reducible refine (sumsInRange_any _ r (C : Int) _ HA.out).mono ?_); rw [H3.out]; rintro e w1 ⟨rfl, b1⟩; have B1 := hide b1; clear b1) | ((with_reducible refine (sumsInRange_any _ c (R : Int) _ (inRow_below HB.out B1.out)).mono ?_); rw [H4.out]; rintro e w2 ⟨rfl, b2⟩; have B2 := hide (B1.out.trans (b2.mono B1.out.size)); clear b2) | ((with_reducible refine (TA.out _ (inRow_below HA.out B2.out)).mono ?_); rintro e w' ⟨rfl, rfl⟩) | ((with_reducible refine (TB.out _ (inRow_below HB.out B2.out)).mono ?_); rintro e w' ⟨rfl, rfl⟩))
          go_ret
          exact ⟨ret_bool (by simp), B2.out⟩
    · have H2 : Hid (decide ((1 : Int) ≤ C ∧ (C : Int) ≤ 5) = false) := hide (decide_eq_false (by omega))
      rw [H2.out]
      clear hR hC h1 h2
      go_enter Try.func50, Try.ntmps50
      go_wp2_with (first | (with_reducible refine (sideOk_any (R : Int) _).mono ?_; rw [H1.out]; rintro e w' ⟨rfl, rfl⟩) | (with_reducible refine (sideOk_any (C : Int) _).mono ?_; rw [H2.out]; rintro e w' ⟨rfl, rfl⟩))
      go_ret
      exact ⟨rfl, Below.refl _ _⟩
  · have H1 : Hid (decide ((1 : Int) ≤ R ∧ (R : Int) ≤ 5) = false) := hide (decide_eq_false (by omega))
    rw [H1.out]
    clear hR hC h1
    go_enter Try.func50, Try.ntmps50
    go_wp2_with (first | (with_reducible refine (sideOk_any (R : Int) _).mono ?_; rw [H1.out]; rintro e w' ⟨rfl, rfl⟩))
    go_ret
    exact ⟨rfl, Below.refl _ _⟩

theorem bad_in (m x : Int) : decide (0 ≤ x ∧ x ≤ m) = !badB m x := by
  unfold badB
  by_cases h : 0 ≤ x ∧ x ≤ m
  · rw [decide_eq_true h, decide_eq_false (by omega), decide_eq_false (by omega)]; rfl
  · rw [decide_eq_false h]
    by_cases h1 : x < 0
    · rw [decide_eq_true h1]; rfl
    · rw [decide_eq_false h1, decide_eq_true (by omega : m < x)]; rfl
set_option maxHeartbeats 1000000 in
theorem specSumsOk_yes (a b : Option Addr) (ca cb : Nat) (r c : List Int) (w : World) (HA : Hid (InRow w (.slice a r.length ca) r)) (HB : Hid (InRow w (.slice b c.length cb) c)) (h1 : 1 ≤ r.length ∧ r.length ≤ 5) (h2 : 1 ≤ c.length ∧ c.length ≤ 5) :
    Calls Try.prog 48 #[.slice a r.length ca, .slice b c.length cb] w fun e w' => e = .returned (.bool (sumsOk r c)) ∧ Below w.heap.size w w' := by
  obtain ⟨a', ca', he, hma, hpa⟩ := HA.out
  obtain ⟨b', cb', he2, hmb, hpb⟩ := HB.out
  cases he; cases he2
  obtain ⟨ga, oa, rfl, hga, hca⟩ := hpa.resolve_left (by omega)
  obtain ⟨gb, ob, rfl, hgb, hcb⟩ := hpb.resolve_left (by omega)
  have HCA := hide hca; have HCB := hide hcb
  clear hpa hpb hca hcb
  unfold maxLen at hma hmb
  obtain ⟨R, hR⟩ : ∃ R, R = r.length := ⟨_, rfl⟩
  obtain ⟨C, hC⟩ : ∃ C, C = c.length := ⟨_, rfl⟩
  have HRR := hide hR; have HCC := hide hC
  have HS : Hid (sumsOk r c = (!r.any (badB C) && !c.any (badB R) && r.sum == c.sum)) := hide (by
    rw [sumsOk, sizeOk, hR, hC, decide_eq_true (show (1 : Int) ≤ r.length ∧ (r.length : Int) ≤ 5 by omega), decide_eq_true (show (1 : Int) ≤ c.length ∧ (c.length : Int) ≤ 5 by omega)]; simp)
  rw [← hR] at HA hma h1 ⊢
  rw [← hC] at HB hmb h2 ⊢
  have HZ : Hid (sizeOk R C = true) := hide (by rw [sizeOk, decide_eq_true (show (1 : Int) ≤ R ∧ (R : Int) ≤ 5 by omega), decide_eq_true (show (1 : Int) ≤ C ∧ (C : Int) ≤ 5 by omega)]; rfl)
  obtain ⟨h11, h12⟩ := h1
  obtain ⟨h21, h22⟩ := h2
  clear hR hC
  go_enter Try.func48, Try.ntmps48
  go_wp2_with (with_reducible refine (l03Size_any (R : Int) (C : Int) _).mono ?_; rw [HZ.out]; rintro e w' ⟨rfl, rfl⟩)
  go_loop [17] (fun i => ∃ k : Nat, k ≤ R ∧ i = .int .i64 k ∧ ∀ t, (h : t < r.length) → t < k → badB C r[t] = false) (fun i => R - (intOf i).toNat)
  case atStart => exact ⟨0, Nat.zero_le _, rfl, fun t _ h => absurd h (Nat.not_lt_zero _)⟩
  case round =>
    obtain ⟨k, hk, rfl, hall⟩ := hrel
    have HALL := hide hall
    clear hall
    by_cases hlt : k < R
    · have hk' : k < r.length := by rw [← HRR.out]; exact hlt
      have hx := HCA.out k hk'
      have HNO := hide (fun h => any_yes (p := badB C) k hk' h)
      have HST : Hid (badB C r[k] = false → ∀ t, (h : t < r.length) → t < k + 1 → badB C r[t] = false) := hide fun h t h1 ht => by
        by_cases e : t = k
        · subst e; exact h
        · exact HALL.out t h1 (by omega)
      obtain ⟨x, hxx⟩ : ∃ x, x = r[k] := ⟨_, rfl⟩
      rw [← hxx] at hx HNO HST
      clear hxx
      have HBI := hide (bad_in C x)
      cases e : badB C x with
      | true =>
        have HE : Hid (decide (0 ≤ x ∧ x ≤ (C : Int)) = false) := hide (by rw [HBI.out, e]; rfl)
        have HF : Hid (sumsOk r c = false) := hide (by rw [HS.out, HNO.out e]; rfl)
        clear e
        go_wp2_with (with_reducible refine (l01In_any x 0 (C : Int) _).mono ?_; rw [HE.out]; rintro e w' ⟨rfl, rfl⟩)
        go_ret
        exact ⟨ret_bool HF.out.symm, Below.refl _ _⟩
      | false =>
        have HE : Hid (decide (0 ≤ x ∧ x ≤ (C : Int)) = true) := hide (by rw [HBI.out, e]; rfl)
        have HST := hide (HST.out e)
        clear e
        go_wp2_with (with_reducible refine (l01In_any x 0 (C : Int) _).mono ?_; rw [HE.out]; rintro e w' ⟨rfl, rfl⟩)
        go_round
        case rel => exact ⟨k + 1, by omega, by go_num, HST.out⟩
        case measure => simp [intOf]; omega
    · have HY := hide (any_no (p := badB C) fun t h => HALL.out t h (by have := HRR.out; omega))
      clear HALL
      go_wp2
      go_loop [29] (fun i => ∃ k : Nat, k ≤ C ∧ i = .int .i64 k ∧ ∀ t, (h : t < c.length) → t < k → badB R c[t] = false) (fun i => C - (intOf i).toNat)
      case atStart => exact ⟨0, Nat.zero_le _, rfl, fun t _ h => absurd h (Nat.not_lt_zero _)⟩
      case round =>
        obtain ⟨j, hj, rfl, hall⟩ := hrel
        have HALL := hide hall
        clear hall
        by_cases hltj : j < C
        · have hk' : j < c.length := by rw [← HCC.out]; exact hltj
          have hx := HCB.out j hk'
          have HNO := hide (fun h => any_yes (p := badB R) j hk' h)
          have HST : Hid (badB R c[j] = false → ∀ t, (h : t < c.length) → t < j + 1 → badB R c[t] = false) := hide fun h t h1 ht => by
            by_cases e : t = j
            · subst e; exact h
            · exact HALL.out t h1 (by omega)
          obtain ⟨x, hxx⟩ : ∃ x, x = c[j] := ⟨_, rfl⟩
          rw [← hxx] at hx HNO HST
          clear hxx
          have HBI := hide (bad_in R x)
          cases e : badB R x with
          | true =>
            have HE : Hid (decide (0 ≤ x ∧ x ≤ (R : Int)) = false) := hide (by rw [HBI.out, e]; rfl)
            have HF : Hid (sumsOk r c = false) := hide (by rw [HS.out, HY.out, HNO.out e]; rfl)
            clear e
            go_wp2_with (with_reducible refine (l01In_any x 0 (R : Int) _).mono ?_; rw [HE.out]; rintro e w' ⟨rfl, rfl⟩)
            go_ret
            exact ⟨ret_bool HF.out.symm, Below.refl _ _⟩
          | false =>
            have HE : Hid (decide (0 ≤ x ∧ x ≤ (R : Int)) = true) := hide (by rw [HBI.out, e]; rfl)
            have HST := hide (HST.out e)
            clear e
            go_wp2_with (with_reducible refine (l01In_any x 0 (R : Int) _).mono ?_; rw [HE.out]; rintro e w' ⟨rfl, rfl⟩)
            go_round
            case rel => exact ⟨j + 1, by omega, by go_num, HST.out⟩
            case measure => simp [intOf]; omega
        · have HY2 := hide (any_no (p := badB R) fun t h => HALL.out t h (by have := HCC.out; omega))
          clear HALL
          have HSA := hide (small_of (m := C) (by rw [← HRR.out]; exact h12) (by omega) HY.out)
          have HSB := hide (small_of (m := R) (by rw [← HCC.out]; exact h22) (by omega) HY2.out)
          obtain ⟨p1, p2⟩ := sum_small HSA.out r.length (Nat.le_refl _)
          obtain ⟨q1, q2⟩ := sum_small HSB.out c.length (Nat.le_refl _)
          rw [List.take_length] at p1 p2 q1 q2
          have TA := fun w hw => l03Total_any (.slice (some ⟨ga, oa, none⟩) R ca) r w hw HSA.out
          have TB := fun w hw => l03Total_any (.slice (some ⟨gb, ob, none⟩) C cb) c w hw HSB.out
          have hf : sumsOk r c = (r.sum == c.sum) := by rw [HS.out, HY.out, HY2.out]; rfl
          obtain ⟨X, hX⟩ : ∃ X, X = r.sum := ⟨_, rfl⟩
          obtain ⟨Y, hY⟩ : ∃ Y, Y = c.sum := ⟨_, rfl⟩
          rw [← hX] at TA p1 p2 hf
          rw [← hY] at TB q1 q2 hf
          have TA := hide TA; have TB := hide TB; have HF := hide hf
          clear hX hY hf
          go_wp2_with (first | ((with_reducible refine (TA.out _ HA.out).mono ?_); rintro e w' ⟨rfl, rfl⟩) | ((with_reducible refine (TB.out _ HB.out).mono ?_); rintro e w' ⟨rfl, rfl⟩))
          go_ret
          exact ⟨ret_bool (by rw [HF.out]), Below.refl _ _⟩
theorem specSumsOk_any (va vb : Value) (r c : List Int) (w : World) (ha : InRow w va r) (hb : InRow w vb c) :
    Calls Try.prog 48 #[va, vb] w fun e w' => e = .returned (.bool (sumsOk r c)) ∧ Below w.heap.size w w' := by
  obtain ⟨a, ca, rfl, hma, hpa⟩ := ha
  obtain ⟨b, cb, rfl, hmb, hpb⟩ := hb
  have HA : Hid (InRow w (.slice a r.length ca) r) := hide ⟨a, ca, rfl, hma, hpa⟩
  have HB : Hid (InRow w (.slice b c.length cb) c) := hide ⟨b, cb, rfl, hmb, hpb⟩
  by_cases h : (1 ≤ r.length ∧ r.length ≤ 5) ∧ 1 ≤ c.length ∧ c.length ≤ 5
  · exact specSumsOk_yes a b ca cb r c w HA HB h.1 h.2
  · have HZ : Hid (sizeOk r.length c.length = false) := hide (by
      cases e : sizeOk r.length c.length with
      | false => rfl
      | true => have := sizeOk_yes e; omega)
    have HS : Hid (sumsOk r c = false) := hide (by rw [sumsOk, HZ.out]; rfl)
    rw [HS.out]
    clear hpa hpb h
    unfold maxLen at hma hmb
    obtain ⟨R, hR⟩ : ∃ R, R = r.length := ⟨_, rfl⟩
    obtain ⟨C, hC⟩ : ∃ C, C = c.length := ⟨_, rfl⟩
    rw [← hR, ← hC] at HZ ⊢
    rw [← hR] at hma
    rw [← hC] at hmb
    clear hR hC HA HB
    go_enter Try.func48, Try.ntmps48
    go_wp2_with (with_reducible refine (l03Size_any (R : Int) (C : Int) _).mono ?_; rw [HZ.out]; rintro e w' ⟨rfl, rfl⟩)
    go_ret
    exact ⟨rfl, Below.refl _ _⟩
end Go.Proofs.Ytecfigjkcpbggaa
