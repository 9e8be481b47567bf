/-
  Texts of this claim, one behind the other: Ok, Dir, Each, Tail, Obt, Line.
-/
import Derived.Test.YtcliiefedmiokaaPackA
import Derived.Orders
import Derived.OrdersHeld
/-
  ImageOk, of the model and of the program.
-/
namespace Go.Proofs.Ytcliiefedmiokaa
open Go.RowKit

def cellOk (x : Int) : Bool := x == 0 || x == 1
def rowOk (C : Nat) (r : List Int) : Bool := r.length == C && r.all cellOk
def widthM (m : List (List Int)) : Nat := (m.headD []).length
def okB (m : List (List Int)) : Bool := decide (1 ≤ m.length ∧ m.length ≤ 5) && decide (1 ≤ widthM m ∧ widthM m ≤ 5) && m.all (rowOk (widthM m))
theorem okB_no1 {m : List (List Int)} (h : ¬ (1 ≤ m.length ∧ m.length ≤ 5)) : okB m = false := by simp only [okB, decide_eq_false h, Bool.false_and]
theorem okB_no2 {m : List (List Int)} (h : ¬ (1 ≤ widthM m ∧ widthM m ≤ 5)) : okB m = false := by simp only [okB, decide_eq_false h, Bool.and_false, Bool.false_and]
theorem okB_no3 {m : List (List Int)} (k : Nat) (hk : k < m.length) (h : rowOk (widthM m) m[k] = false) : okB m = false := by
  have : m.all (rowOk (widthM m)) = false := by
    rw [Bool.eq_false_iff]; intro e
    rw [List.all_eq_true] at e
    have := e _ (List.getElem_mem hk)
    rw [h] at this; cases this
  simp only [okB, this, Bool.and_false]
theorem okB_yes {m : List (List Int)} (h1 : 1 ≤ m.length ∧ m.length ≤ 5) (h2 : 1 ≤ widthM m ∧ widthM m ≤ 5) (h3 : ∀ k, (h : k < m.length) → rowOk (widthM m) m[k] = true) : okB m = true := by
  have : m.all (rowOk (widthM m)) = true := by
    rw [List.all_eq_true]; intro r hr
    obtain ⟨k, hk, rfl⟩ := List.getElem_of_mem hr
    exact h3 k hk
  simp only [okB, decide_eq_true h1, decide_eq_true h2, this, Bool.and_self]
theorem rowOk_no1 {C : Nat} {r : List Int} (h : r.length ≠ C) : rowOk C r = false := by simp [rowOk, h]
theorem rowOk_no2 {C : Nat} {r : List Int} (j : Nat) (hj : j < r.length) (h : cellOk r[j] = false) : rowOk C r = false := by
  have : r.all cellOk = false := by
    rw [Bool.eq_false_iff]; intro e
    rw [List.all_eq_true] at e
    have := e _ (List.getElem_mem hj)
    rw [h] at this; cases this
  simp only [rowOk, this, Bool.and_false]
theorem rowOk_yes {C : Nat} {r : List Int} (h : r.length = C) (h3 : ∀ j, (h : j < r.length) → cellOk r[j] = true) : rowOk C r = true := by
  have : r.all cellOk = true := by
    rw [List.all_eq_true]; intro x hx
    obtain ⟨k, hk, rfl⟩ := List.getElem_of_mem hx
    exact h3 k hk
  simp [rowOk, h, this]
theorem cellOk_no {x : Int} (h0 : x ≠ 0) (h1 : x ≠ 1) : cellOk x = false := by simp [cellOk, h0, h1]
theorem width_at (m : List (List Int)) (h : 0 < m.length) : widthM m = m[0].length := by
  cases m with
  | nil => simp at h
  | cons r t => rfl

theorem l01In_any (n lo hi : Int) (w : World) :
    Calls Try.prog 103 #[.int .i64 n, .int .i64 lo, .int .i64 hi] w fun e w' => e = .returned (.bool (decide (lo ≤ n ∧ n ≤ hi))) ∧ w = w' := by
  by_cases h1 : lo ≤ n
  · by_cases h2 : n ≤ hi
    all_goals
      go_enter Try.func103, Try.ntmps103
      go_wp2
      go_ret
      exact ⟨ret_bool (by simp [h1, h2]; try omega), rfl⟩
  · go_enter Try.func103, Try.ntmps103
    go_wp2
    go_ret
    exact ⟨ret_bool (by simp; omega), rfl⟩
theorem sideOk_any (n : Int) (w : World) :
    Calls Try.prog 89 #[.int .i64 n] w fun e w' => e = .returned (.bool (decide (1 ≤ n ∧ n ≤ 5))) ∧ w = w' := by
  by_cases h1 : 1 ≤ n
  · by_cases h2 : n ≤ 5
    all_goals
      go_enter Try.func89, Try.ntmps89
      go_wp2
      go_ret
      exact ⟨ret_bool (by simp [h1, h2]; try omega), rfl⟩
  · go_enter Try.func89, Try.ntmps89
    go_wp2
    go_ret
    exact ⟨ret_bool (by simp; omega), rfl⟩
theorem colorOk_any (x : Int) (w : World) :
    Calls Try.prog 109 #[.int .i64 x] w fun e w' => e = .returned (.bool (cellOk x)) ∧ w = w' := by
  by_cases h1 : x = 0
  · subst h1
    go_enter Try.func109, Try.ntmps109
    go_wp2
    go_ret
    exact ⟨rfl, rfl⟩
  · have h0 : (x == 0) = false := by simp [h1]
    go_enter Try.func109, Try.ntmps109
    go_wp2
    go_ret
    exact ⟨ret_bool (by simp [cellOk, h1]), rfl⟩

set_option maxRecDepth 100000 in
set_option maxHeartbeats 1000000 in
theorem specImageOk_any (v : Value) (m : List (List Int)) (w : World) (hin : InMat w v m) :
    Calls Try.prog 52 #[v] w fun e w' => e = .returned (.bool (okB m)) ∧ w = w' := by
  obtain ⟨a, c, rfl, hm, hp⟩ := hin
  unfold maxLen at hm
  by_cases h1 : 1 ≤ m.length ∧ m.length ≤ 5
  · obtain ⟨g, o, rfl, hg, hcell⟩ := hp.resolve_left (by omega)
    have HC := hide hcell
    clear hp hcell
    have hpos : 0 < m.length := by omega
    obtain ⟨u0, hx0, hr0⟩ := HC.out 0 hpos
    rw [Nat.add_zero] at hx0
    obtain ⟨a0, c0, rfl, hm0, -⟩ := hr0
    unfold maxLen at hm0
    have HW := hide (width_at m hpos)
    have hrec : ∃ C, C = m[0].length := ⟨_, rfl⟩
    obtain ⟨C, hC⟩ := hrec
    rw [← hC] at hx0 hm0
    have HW : Hid (widthM m = C) := hide (by rw [HW.out, hC])
    clear hC
    have hR : decide ((1 : Int) ≤ m.length ∧ (m.length : Int) ≤ 5) = true := decide_eq_true (by omega)
    have HR := hide hR; clear hR
    by_cases h2 : 1 ≤ C ∧ C ≤ 5
    · have HK : Hid (decide ((1 : Int) ≤ C ∧ (C : Int) ≤ 5) = true) := hide (decide_eq_true (by omega))
      obtain ⟨R, hRR⟩ : ∃ R, R = m.length := ⟨_, rfl⟩
      have HL := hide hRR
      have H1 := hide h1; have H2 := hide h2
      rw [← hRR] at hm hpos HR h1 ⊢
      clear hRR
      go_enter Try.func52, Try.ntmps52
      go_wp2_with (first | (with_reducible refine (l01In_any (R : Int) 1 5 _).mono ?_; rw [HR.out]; rintro e w' ⟨rfl, rfl⟩) | (with_reducible refine (l01In_any (C : Int) 1 5 _).mono ?_; rw [HK.out]; rintro e w' ⟨rfl, rfl⟩))
      go_loop [21] (fun i => ∃ k : Nat, k ≤ R ∧ i = .int .i64 k ∧ ∀ t, (h : t < m.length) → t < k → rowOk C m[t] = true) (fun i => R - (intOf i).toNat)
      case atStart => exact ⟨0, Nat.zero_le _, rfl, fun t _ h => absurd h (Nat.not_lt_zero _)⟩
      case round =>
        obtain ⟨k, hk, rfl, hall⟩ := hrel
        have HA := hide hall
        clear hall
        by_cases hlt : k < R
        · have hk' : k < m.length := by rw [← HL.out]; exact hlt
          obtain ⟨u, hx, hr⟩ := HC.out k hk'
          obtain ⟨a', c', rfl, hm', hp'⟩ := hr
          unfold maxLen at hm'
          obtain ⟨n, hn⟩ : ∃ n, n = m[k].length := ⟨_, rfl⟩
          have HN := hide hn
          rw [← hn] at hx hm'
          by_cases hlen : n = C
          · subst hlen
            obtain ⟨g', o', rfl, hg', hcell'⟩ := hp'.resolve_left (by omega)
            have HC' := hide hcell'
            clear hp' hcell' hn
            go_wp2
            go_loop [34] (fun i => ∃ j : Nat, j ≤ n ∧ i = .int .i64 j ∧ ∀ t, (h : t < m[k].length) → t < j → cellOk m[k][t] = true) (fun i => n - (intOf i).toNat)
            case atStart => exact ⟨0, Nat.zero_le _, rfl, fun t _ h => absurd h (Nat.not_lt_zero _)⟩
            case round =>
              obtain ⟨j, hj, rfl, hall⟩ := hrel
              have HB := hide hall
              clear hall
              by_cases hlj : j < n
              · have hj' : j < m[k].length := by rw [← HN.out]; exact hlj
                have hy := HC'.out j hj'
                have hstep : cellOk m[k][j] = true → ∀ t, (h : t < m[k].length) → t < j + 1 → cellOk m[k][t] = true := fun hc t ht h => by
                  by_cases e : t = j
                  · subst e; exact hc
                  · exact HB.out t ht (by omega)
                have HS := hide hstep
                clear hstep
                have HNO := hide (fun h => okB_no3 (m := m) k hk' (by rw [HW.out]; exact rowOk_no2 j hj' h))
                obtain ⟨y, hyy⟩ : ∃ y, y = m[k][j] := ⟨_, rfl⟩
                rw [← hyy] at hy HS HNO
                clear hyy
                by_cases e0 : y = 0
                · subst e0
                  go_wp2
                  go_round
                  case rel => exact ⟨j + 1, by omega, by go_num, HS.out rfl⟩
                  case measure => simp [intOf]; omega
                · by_cases e1 : y = 1
                  · subst e1
                    clear e0
                    go_wp2
                    go_round
                    case rel => exact ⟨j + 1, by omega, by go_num, HS.out rfl⟩
                    case measure => simp [intOf]; omega
                  · have HF := hide (cellOk_no e0 e1)
                    have b0 : (y == 0) = false := by simp [e0]
                    have b1 : (y == 1) = false := by simp [e1]
                    have b2 : (y != 0) = true := by simp [e0]
                    have b3 : (y != 1) = true := by simp [e1]
                    clear e0 e1
                    go_wp2
                    go_ret
                    exact ⟨ret_bool (HNO.out HF.out).symm, rfl⟩
              · have HROW := hide (rowOk_yes (C := n) HN.out.symm (fun t ht => HB.out t ht (by have := HN.out; omega)))
                go_wp2
                go_round
                case rel =>
                  exact ⟨k + 1, by omega, by go_num, fun t ht h => by
                    by_cases e : t = k
                    · subst e; exact HROW.out
                    · exact HA.out t ht (by omega)⟩
                case measure => simp [intOf]; omega
          · have HF := hide (okB_no3 (m := m) k hk' (rowOk_no1 (by rw [HW.out, ← hn]; exact hlen)))
            clear hn
            have hne : ((n : Int) == (C : Int)) = false := by simp; omega
            go_wp2
            go_ret
            exact ⟨ret_bool HF.out.symm, rfl⟩
        · have HY := hide (okB_yes (m := m) H1.out (by rw [HW.out]; exact H2.out) (fun t ht => by rw [HW.out]; exact HA.out t ht (by have := HL.out; omega)))
          go_wp2
          go_ret
          exact ⟨ret_bool HY.out.symm, rfl⟩
    · have HK : Hid (decide ((1 : Int) ≤ C ∧ (C : Int) ≤ 5) = false) := hide (decide_eq_false (by omega))
      have HF := hide (okB_no2 (m := m) (by rw [HW.out]; exact h2))
      clear h1 h2
      go_enter Try.func52, Try.ntmps52
      go_wp2_with (first | (with_reducible refine (l01In_any (m.length : Int) 1 5 _).mono ?_; rw [HR.out]; rintro e w' ⟨rfl, rfl⟩) | (with_reducible refine (l01In_any (C : Int) 1 5 _).mono ?_; rw [HK.out]; rintro e w' ⟨rfl, rfl⟩))
      go_ret
      exact ⟨ret_bool HF.out.symm, rfl⟩
  · have HR : Hid (decide ((1 : Int) ≤ m.length ∧ (m.length : Int) ≤ 5) = false) := hide (decide_eq_false (by omega))
    have HF := hide (okB_no1 h1)
    clear hp h1
    go_enter Try.func52, Try.ntmps52
    go_wp2_with (first | (with_reducible refine (l01In_any (m.length : Int) 1 5 _).mono ?_; rw [HR.out]; rintro e w' ⟨rfl, rfl⟩))
    go_ret
    exact ⟨ret_bool HF.out.symm, rfl⟩

set_option maxRecDepth 100000 in
set_option maxHeartbeats 1000000 in
theorem implImageOk_any (v : Value) (m : List (List Int)) (w : World) (hin : InMat w v m) :
    Calls Try.prog 60 #[v] w fun e w' => e = .returned (.bool (okB m)) ∧ w = w' := by
  obtain ⟨a, c, rfl, hm, hp⟩ := hin
  unfold maxLen at hm
  by_cases h1 : 1 ≤ m.length ∧ m.length ≤ 5
  · obtain ⟨g, o, rfl, hg, hcell⟩ := hp.resolve_left (by omega)
    have HC := hide hcell
    clear hp hcell
    have hpos : 0 < m.length := by omega
    obtain ⟨u0, hx0, hr0⟩ := HC.out 0 hpos
    rw [Nat.add_zero] at hx0
    obtain ⟨a0, c0, rfl, hm0, -⟩ := hr0
    unfold maxLen at hm0
    have HW := hide (width_at m hpos)
    have hrec : ∃ C, C = m[0].length := ⟨_, rfl⟩
    obtain ⟨C, hC⟩ := hrec
    rw [← hC] at hx0 hm0
    have HW : Hid (widthM m = C) := hide (by rw [HW.out, hC])
    clear hC
    have hR : decide ((1 : Int) ≤ m.length ∧ (m.length : Int) ≤ 5) = true := decide_eq_true (by omega)
    have HR := hide hR; clear hR
    by_cases h2 : 1 ≤ C ∧ C ≤ 5
    · have HK : Hid (decide ((1 : Int) ≤ C ∧ (C : Int) ≤ 5) = true) := hide (decide_eq_true (by omega))
      obtain ⟨R, hRR⟩ : ∃ R, R = m.length := ⟨_, rfl⟩
      have HL := hide hRR
      have H1 := hide h1; have H2 := hide h2
      rw [← hRR] at hm hpos HR h1 ⊢
      clear hRR
      go_enter Try.func60, Try.ntmps60
      go_wp2_with (first | (with_reducible refine (sideOk_any (R : Int) _).mono ?_; rw [HR.out]; rintro e w' ⟨rfl, rfl⟩) | (with_reducible refine (sideOk_any (C : Int) _).mono ?_; rw [HK.out]; rintro e w' ⟨rfl, rfl⟩))
      go_loop [21] (fun i => ∃ k : Nat, k ≤ R ∧ i = .int .i64 k ∧ ∀ t, (h : t < m.length) → t < k → rowOk C m[t] = true) (fun i => R - (intOf i).toNat)
      case atStart => exact ⟨0, Nat.zero_le _, rfl, fun t _ h => absurd h (Nat.not_lt_zero _)⟩
      case round =>
        obtain ⟨k, hk, rfl, hall⟩ := hrel
        have HA := hide hall
        clear hall
        by_cases hlt : k < R
        · have hk' : k < m.length := by rw [← HL.out]; exact hlt
          obtain ⟨u, hx, hr⟩ := HC.out k hk'
          obtain ⟨a', c', rfl, hm', hp'⟩ := hr
          unfold maxLen at hm'
          obtain ⟨n, hn⟩ : ∃ n, n = m[k].length := ⟨_, rfl⟩
          have HN := hide hn
          rw [← hn] at hx hm'
          by_cases hlen : n = C
          · subst hlen
            obtain ⟨g', o', rfl, hg', hcell'⟩ := hp'.resolve_left (by omega)
            have HC' := hide hcell'
            clear hp' hcell' hn
            go_wp2
            go_loop [34] (fun i => ∃ j : Nat, j ≤ n ∧ i = .int .i64 j ∧ ∀ t, (h : t < m[k].length) → t < j → cellOk m[k][t] = true) (fun i => n - (intOf i).toNat)
            case atStart => exact ⟨0, Nat.zero_le _, rfl, fun t _ h => absurd h (Nat.not_lt_zero _)⟩
            case round =>
              obtain ⟨j, hj, rfl, hall⟩ := hrel
              have HB := hide hall
              clear hall
              by_cases hlj : j < n
              · have hj' : j < m[k].length := by rw [← HN.out]; exact hlj
                have hy := HC'.out j hj'
                have hstep : cellOk m[k][j] = true → ∀ t, (h : t < m[k].length) → t < j + 1 → cellOk m[k][t] = true := fun hc t ht h => by
                  by_cases e : t = j
                  · subst e; exact hc
                  · exact HB.out t ht (by omega)
                have HS := hide hstep
                clear hstep
                have HNO := hide (fun h => okB_no3 (m := m) k hk' (by rw [HW.out]; exact rowOk_no2 j hj' h))
                obtain ⟨y, hyy⟩ : ∃ y, y = m[k][j] := ⟨_, rfl⟩
                rw [← hyy] at hy HS HNO
                clear hyy
                by_cases e0 : y = 0
                · subst e0
                  go_wp2_with (go_at_call 109; refine (colorOk_any _ _).mono ?_; rw [show cellOk 0 = true from rfl]; rintro e w' ⟨rfl, rfl⟩)
                  go_round
                  case rel => exact ⟨j + 1, by omega, by go_num, HS.out rfl⟩
                  case measure => simp [intOf]; omega
                · by_cases e1 : y = 1
                  · subst e1
                    clear e0
                    go_wp2_with (go_at_call 109; refine (colorOk_any _ _).mono ?_; rw [show cellOk 1 = true from rfl]; rintro e w' ⟨rfl, rfl⟩)
                    go_round
                    case rel => exact ⟨j + 1, by omega, by go_num, HS.out rfl⟩
                    case measure => simp [intOf]; omega
                  · have HF := hide (cellOk_no e0 e1)
                    clear e0 e1
                    go_wp2_with (go_at_call 109; refine (colorOk_any _ _).mono ?_; rw [HF.out]; rintro e w' ⟨rfl, rfl⟩)
                    go_ret
                    exact ⟨ret_bool (HNO.out HF.out).symm, rfl⟩
              · have HROW := hide (rowOk_yes (C := n) HN.out.symm (fun t ht => HB.out t ht (by have := HN.out; omega)))
                go_wp2
                go_round
                case rel =>
                  exact ⟨k + 1, by omega, by go_num, fun t ht h => by
                    by_cases e : t = k
                    · subst e; exact HROW.out
                    · exact HA.out t ht (by omega)⟩
                case measure => simp [intOf]; omega
          · have HF := hide (okB_no3 (m := m) k hk' (rowOk_no1 (by rw [HW.out, ← hn]; exact hlen)))
            clear hn
            have hne : ((n : Int) == (C : Int)) = false := by simp; omega
            go_wp2
            go_ret
            exact ⟨ret_bool HF.out.symm, rfl⟩
        · have HY := hide (okB_yes (m := m) H1.out (by rw [HW.out]; exact H2.out) (fun t ht => by rw [HW.out]; exact HA.out t ht (by have := HL.out; omega)))
          go_wp2
          go_ret
          exact ⟨ret_bool HY.out.symm, rfl⟩
    · have HK : Hid (decide ((1 : Int) ≤ C ∧ (C : Int) ≤ 5) = false) := hide (decide_eq_false (by omega))
      have HF := hide (okB_no2 (m := m) (by rw [HW.out]; exact h2))
      clear h1 h2
      go_enter Try.func60, Try.ntmps60
      go_wp2_with (first | (with_reducible refine (sideOk_any (m.length : Int) _).mono ?_; rw [HR.out]; rintro e w' ⟨rfl, rfl⟩) | (with_reducible refine (sideOk_any (C : Int) _).mono ?_; rw [HK.out]; rintro e w' ⟨rfl, rfl⟩))
      go_ret
      exact ⟨ret_bool HF.out.symm, rfl⟩
  · have HR : Hid (decide ((1 : Int) ≤ m.length ∧ (m.length : Int) ≤ 5) = false) := hide (decide_eq_false (by omega))
    have HF := hide (okB_no1 h1)
    clear hp h1
    go_enter Try.func60, Try.ntmps60
    go_wp2_with (first | (with_reducible refine (sideOk_any (m.length : Int) _).mono ?_; rw [HR.out]; rintro e w' ⟨rfl, rfl⟩))
    go_ret
    exact ⟨ret_bool HF.out.symm, rfl⟩
end Go.Proofs.Ytcliiefedmiokaa
/-
  Directions: toDirection, the model's gcd, DirectionOk of both.
-/
namespace Go.Proofs.Ytcliiefedmiokaa
open Go.RowKit

/-- A direction that is valid. -/
def dirOk (dx dy : Int) : Bool := decide ((0 ≤ dx ∧ dx ≤ 3) ∧ (-3 ≤ dy ∧ dy ≤ 3)) && (Nat.gcd dx.natAbs dy.natAbs == 1) && (decide (0 < dx) || dy == 1)

set_option maxHeartbeats 400000 in
theorem toDirection_any (dx dy : Int) (w : World) :
    Calls Try.prog 24 #[.agg #[.int .i64 dx, .int .i64 dy]] w fun e w' => e = .returned (.agg #[.int .i64 dx, .int .i64 dy]) ∧ Below w.heap.size w w' := by
  go_enter Try.func24, Try.ntmps24
  go_wp2
  exact bodyPost_ret (v := .agg #[.int .i64 dx, .int .i64 dy]) (by simp [results, Try.results24, go_sem]) rfl ⟨rfl, (((Below.refl _ _).alloc (Nat.le_refl _) _).alloc (by simp) _).alloc (by simp; omega) _⟩

set_option maxHeartbeats 400000 in
theorem l03Gcd_any (a b : Int) (w : World) (ha : 0 ≤ a ∧ a ≤ 3) (hb : -3 ≤ b ∧ b ≤ 3) :
    Calls Try.prog 106 #[.int .i64 a, .int .i64 b] w fun e w' => e = .returned (.int .i64 (Nat.gcd a.natAbs b.natAbs)) ∧ w = w' := by
  obtain ⟨x, rfl⟩ : ∃ x : Nat, a = x := ⟨a.toNat, by omega⟩
  obtain ⟨y, hy⟩ : ∃ y : Nat, b = y ∨ (b = -(y : Int) ∧ 0 < y) := ⟨b.natAbs, by omega⟩
  have hG : Hid (Nat.gcd ((x : Int)).natAbs b.natAbs = Nat.gcd x y) := hide (by congr 1; omega)
  rw [hG.out]
  obtain ⟨G, hGG⟩ : ∃ G, G = Nat.gcd x y := ⟨_, rfl⟩
  rw [← hGG]
  have HG := hide hGG.symm
  clear hGG hG
  rcases hy with rfl | ⟨rfl, hpos⟩
  all_goals
    go_enter Try.func106, Try.ntmps106
    go_wp2
    go_loop [0, 1] (fun s t => ∃ p q : Nat, p ≤ 3 ∧ q ≤ 3 ∧ s = .int .i64 p ∧ t = .int .i64 q ∧ Nat.gcd p q = G) (fun _ t => (intOf t).toNat)
    case atStart => exact ⟨x, y, by omega, by omega, rfl, by simp, HG.out⟩
    case round =>
      obtain ⟨p, q, hp, hq, rfl, rfl, hpq⟩ := hrel
      have HP := hide hpq
      clear hpq
      by_cases h0 : q = 0
      · subst h0
        go_wp2
        go_ret
        exact ⟨ret_int (by have := HP.out; simp at this; omega), rfl⟩
      · have hb : ((q : Int) != 0) = true := by simp [h0]
        have hq0 : 0 < q := by omega
        have hlt := Nat.mod_lt p hq0
        go_wp2
        go_round
        case rel => exact ⟨q, p % q, by omega, by omega, rfl, by simp, by rw [Nat.gcd_comm, ← Nat.gcd_rec, Nat.gcd_comm]; exact HP.out⟩
        case measure => simp [intOf]; omega

set_option maxHeartbeats 1000000 in
theorem specDirectionOk_any (dx dy : Int) (w : World) :
    Calls Try.prog 57 #[.agg #[.int .i64 dx, .int .i64 dy]] w fun e w' => e = .returned (.bool (dirOk dx dy)) ∧ Below w.heap.size w w' := by
  by_cases h1 : 0 ≤ dx ∧ dx ≤ 3
  · have H1 := hide (decide_eq_true h1)
    by_cases h2 : -3 ≤ dy ∧ dy ≤ 3
    · have H2 := hide (decide_eq_true h2)
      have HG := fun w => l03Gcd_any dx dy w h1 h2
      obtain ⟨G, hG⟩ : ∃ G, G = Nat.gcd dx.natAbs dy.natAbs := ⟨_, rfl⟩
      rw [← hG] at HG
      have HH := hide HG
      clear HG
      have HR : Hid (dirOk dx dy = ((G == 1) && (decide (0 < dx) || dy == 1))) := hide (by rw [dirOk, decide_eq_true (show (0 ≤ dx ∧ dx ≤ 3) ∧ (-3 ≤ dy ∧ dy ≤ 3) from ⟨h1, h2⟩), ← hG, Bool.true_and])
      rw [HR.out]
      clear hG h1 h2
      by_cases h3 : G = 1
      · subst h3
        by_cases h4 : 0 < dx
        · go_enter Try.func57, Try.ntmps57
          go_wp2_with (first | (with_reducible refine (l01In_any dx 0 3 _).mono ?_; rw [H1.out]; rintro e w' ⟨rfl, rfl⟩) | (with_reducible refine (l01In_any dy (-3) 3 _).mono ?_; rw [H2.out]; rintro e w' ⟨rfl, rfl⟩) | (with_reducible refine (HH.out _).mono ?_; rintro e w' ⟨rfl, rfl⟩))
          go_ret
          exact ⟨ret_bool (by simp [h4]), (Below.refl _ _).alloc (Nat.le_refl _) _⟩
        · by_cases h5 : dy = 1
          · have hb : (dy == 1) = true := by simp [h5]
            clear h5
            go_enter Try.func57, Try.ntmps57
            go_wp2_with (first | (with_reducible refine (l01In_any dx 0 3 _).mono ?_; rw [H1.out]; rintro e w' ⟨rfl, rfl⟩) | (with_reducible refine (l01In_any dy (-3) 3 _).mono ?_; rw [H2.out]; rintro e w' ⟨rfl, rfl⟩) | (with_reducible refine (HH.out _).mono ?_; rintro e w' ⟨rfl, rfl⟩))
            go_ret
            exact ⟨ret_bool (by simp [hb]), (Below.refl _ _).alloc (Nat.le_refl _) _⟩
          · have hb : (dy == 1) = false := by simp [h5]
            clear h5
            go_enter Try.func57, Try.ntmps57
            go_wp2_with (first | (with_reducible refine (l01In_any dx 0 3 _).mono ?_; rw [H1.out]; rintro e w' ⟨rfl, rfl⟩) | (with_reducible refine (l01In_any dy (-3) 3 _).mono ?_; rw [H2.out]; rintro e w' ⟨rfl, rfl⟩) | (with_reducible refine (HH.out _).mono ?_; rintro e w' ⟨rfl, rfl⟩))
            go_ret
            exact ⟨ret_bool (by simp [hb]), (Below.refl _ _).alloc (Nat.le_refl _) _⟩
      · have hb : ((G : Int) == 1) = false := by simp; omega
        have hb2 : (G == 1) = false := by simp [h3]
        have HB := hide hb2
        clear hb2
        go_enter Try.func57, Try.ntmps57
        go_wp2_with (first | (with_reducible refine (l01In_any dx 0 3 _).mono ?_; rw [H1.out]; rintro e w' ⟨rfl, rfl⟩) | (with_reducible refine (l01In_any dy (-3) 3 _).mono ?_; rw [H2.out]; rintro e w' ⟨rfl, rfl⟩) | (with_reducible refine (HH.out _).mono ?_; rintro e w' ⟨rfl, rfl⟩))
        go_ret
        exact ⟨ret_bool (by rw [HB.out]; rfl), (Below.refl _ _).alloc (Nat.le_refl _) _⟩
    · have H2 := hide (decide_eq_false h2)
      have HR : Hid (dirOk dx dy = false) := hide (by rw [dirOk, decide_eq_false (fun h => h2 h.2), Bool.false_and, Bool.false_and])
      rw [HR.out]
      clear h1 h2
      go_enter Try.func57, Try.ntmps57
      go_wp2_with (first | (with_reducible refine (l01In_any dx 0 3 _).mono ?_; rw [H1.out]; rintro e w' ⟨rfl, rfl⟩) | (with_reducible refine (l01In_any dy (-3) 3 _).mono ?_; rw [H2.out]; rintro e w' ⟨rfl, rfl⟩))
      go_ret
      exact ⟨rfl, (Below.refl _ _).alloc (Nat.le_refl _) _⟩
  · have H1 := hide (decide_eq_false h1)
    have HR : Hid (dirOk dx dy = false) := hide (by rw [dirOk, decide_eq_false (fun h => h1 h.1), Bool.false_and, Bool.false_and])
    rw [HR.out]
    clear h1
    go_enter Try.func57, Try.ntmps57
    go_wp2_with (first | (with_reducible refine (l01In_any dx 0 3 _).mono ?_; rw [H1.out]; rintro e w' ⟨rfl, rfl⟩))
    go_ret
    exact ⟨rfl, (Below.refl _ _).alloc (Nat.le_refl _) _⟩

theorem dir_range {dx dy : Int} (h : ¬ ((0 ≤ dx ∧ dx ≤ 3) ∧ (-3 ≤ dy ∧ dy ≤ 3))) : dirOk dx dy = false := by rw [dirOk, decide_eq_false h, Bool.false_and, Bool.false_and]
set_option maxHeartbeats 4000000 in
theorem implDirectionOk_any (dx dy : Int) (w : World) :
    Calls Try.prog 61 #[.agg #[.int .i64 dx, .int .i64 dy]] w fun e w' => e = .returned (.bool (dirOk dx dy)) ∧ Below w.heap.size w w' := by
  by_cases h : (0 ≤ dx ∧ dx ≤ 3) ∧ (-3 ≤ dy ∧ dy ≤ 3)
  · have hx : dx = 0 ∨ dx = 1 ∨ dx = 2 ∨ dx = 3 := by omega
    have hy : dy = -3 ∨ dy = -2 ∨ dy = -1 ∨ dy = 0 ∨ dy = 1 ∨ dy = 2 ∨ dy = 3 := by omega
    clear h
    rcases hx with rfl | rfl | rfl | rfl <;> rcases hy with rfl | rfl | rfl | rfl | rfl | rfl | rfl
    all_goals
      go_enter Try.func61, Try.ntmps61
      go_wp2
      refine wp_loop_rounds 4 ?_
      repeat (rw [rounds_succ]; go_wp2)
      go_ret
      exact ⟨rfl, (Below.refl _ _).alloc (Nat.le_refl _) _⟩
  · rw [dir_range h]
    by_cases h1 : dx < 0
    · clear h
      go_enter Try.func61, Try.ntmps61
      go_wp2
      go_ret
      exact ⟨rfl, (Below.refl _ _).alloc (Nat.le_refl _) _⟩
    · by_cases h2 : 3 < dx
      · clear h
        go_enter Try.func61, Try.ntmps61
        go_wp2
        go_ret
        exact ⟨rfl, (Below.refl _ _).alloc (Nat.le_refl _) _⟩
      · by_cases h3 : dy < -3
        · clear h
          go_enter Try.func61, Try.ntmps61
          go_wp2
          go_ret
          exact ⟨rfl, (Below.refl _ _).alloc (Nat.le_refl _) _⟩
        · have h4 : 3 < dy := by omega
          clear h
          go_enter Try.func61, Try.ntmps61
          go_wp2
          go_ret
          exact ⟨rfl, (Below.refl _ _).alloc (Nat.le_refl _) _⟩
end Go.Proofs.Ytcliiefedmiokaa
/-
  A region that draws its order, met operation by operation: what each leaves in its slot, whatever came up before it.
-/
namespace Go.Proofs.Ytcliiefedmiokaa
open Go.RowKit

def unl (listed : Array Bool) : Nat → Nat
  | 0 => 0
  | k + 1 => unl listed k + if listed.getD k true then 0 else 1
theorem unl_set (listed : Array Bool) (i : Nat) (hi : listed.getD i true = false) : ∀ k, unl (listed.setIfInBounds i true) k + (if i < k then 1 else 0) = unl listed k
  | 0 => rfl
  | k + 1 => by
    have hlt : i < listed.size := by
      rcases Nat.lt_or_ge i listed.size with h' | h'
      · exact h'
      · simp [Array.getElem?_eq_none h'] at hi
    have ih := unl_set listed i hi k
    simp only [unl]
    by_cases e : i = k
    · subst e
      have h1 : (listed.setIfInBounds i true).getD i true = true := by simp [hlt]
      rw [h1, hi, if_neg (Nat.lt_irrefl i)] at *
      simp at ih ⊢; omega
    · rw [getD_set_ne true e]
      by_cases h : i < k
      · have h2 : (if i < k + 1 then 1 else 0) = 1 := if_pos (by omega)
        rw [if_pos h] at ih; rw [h2]; omega
      · have h2 : (if i < k + 1 then 1 else 0) = 0 := if_neg (by omega)
        rw [if_neg h] at ih; rw [h2]; omega

section
variable {P : Program} {md : Region.Mode} {ops : Array Oper} {Q : Exit → Act → World → Prop}

/-- Slot t is none that the region writes. -/
def outside (ops : Array Oper) (t : Tmp) : Bool := ops.all fun o => o.dst != some t
/-- Each slot is written once, and lies in the frame; each operation waits for earlier ones alone. -/
def orderly (md : Region.Mode) (n : Nat) : Nat → List Tmp → List Oper → Bool
  | _, _, [] => true
  | k, seen, o :: r => (match o.dst with | some d => decide (d < n) && !seen.contains d | none => true) && o.after.all (fun e => !Region.binds md e || decide (e.on < k)) && orderly md n (k + 1) (match o.dst with | some d => d :: seen | none => seen) r
theorem orderly_dst {md : Region.Mode} {n : Nat} : ∀ (l : List Oper) (k : Nat) (seen : List Tmp), orderly md n k seen l = true → ∀ (i : Nat) (o : Oper) (d : Tmp), l[i]? = some o → o.dst = some d → d < n ∧ d ∉ seen ∧ ∀ (j : Nat) (o' : Oper), l[j]? = some o' → i < j → o'.dst ≠ some d
  | [], _, _, _, i, o, d, h, _ => by simp at h
  | x :: r, k, seen, h, i, o, d, hi, hd => by
    simp only [orderly, Bool.and_eq_true] at h
    obtain ⟨⟨h1, -⟩, h2⟩ := h
    cases i with
    | zero =>
      simp only [List.getElem?_cons_zero, Option.some.injEq] at hi
      subst hi
      rw [hd] at h1 h2
      simp only [Bool.and_eq_true, decide_eq_true_eq, Bool.not_eq_true', List.contains_eq_mem, decide_eq_false_iff_not] at h1
      refine ⟨h1.1, h1.2, fun j o' hj hij e => ?_⟩
      cases j with
      | zero => omega
      | succ j =>
        simp only [List.getElem?_cons_succ] at hj
        exact (orderly_dst r (k + 1) (d :: seen) h2 j o' d hj e).2.1 (List.mem_cons_self)
    | succ i =>
      simp only [List.getElem?_cons_succ] at hi
      obtain ⟨q1, q2, q3⟩ := orderly_dst r (k + 1) _ h2 i o d hi hd
      refine ⟨q1, fun hs => q2 ?_, fun j o' hj hij => ?_⟩
      · cases x.dst with
        | none => exact hs
        | some d' => exact List.mem_cons_of_mem _ hs
      · cases j with
        | zero => omega
        | succ j =>
          simp only [List.getElem?_cons_succ] at hj
          exact q3 j o' hj (by omega)
theorem orderly_on {md : Region.Mode} {n : Nat} : ∀ (l : List Oper) (k : Nat) (seen : List Tmp), orderly md n k seen l = true → ∀ (i : Nat) (o : Oper), l[i]? = some o → ∀ e ∈ o.after, Region.binds md e = true → e.on < k + i
  | [], _, _, _, i, o, h => by simp at h
  | x :: r, k, seen, h, i, o, hi => by
    simp only [orderly, Bool.and_eq_true] at h
    obtain ⟨⟨-, h1⟩, h2⟩ := h
    cases i with
    | zero =>
      simp only [List.getElem?_cons_zero, Option.some.injEq] at hi
      subst hi
      intro e he hbd
      rw [Array.all_eq_true_iff_forall_mem] at h1
      have := h1 e he
      rw [hbd] at this
      simpa using this
    | succ i =>
      simp only [List.getElem?_cons_succ] at hi
      intro e he hbd
      have := orderly_on r (k + 1) _ h2 i o hi e he hbd
      omega

/-- The frame and the world while the region runs: what is listed holds in its slot. -/
structure Mid (ops : Array Oper) (a0 : Act) (S : World → Prop) (F : Nat → Value → World → Prop) (listed : Array Bool) (a : Act) (w : World) : Prop where
  size : listed.size = ops.size
  tmps : a.tmps.size = a0.tmps.size
  defers : a.defers = a0.defers
  out : ∀ t, outside ops t = true → a.tmps.getD t undef = a0.tmps.getD t undef
  world : S w
  held : ∀ (i : Nat) (o : Oper) (d : Tmp), ops[i]? = some o → o.dst = some d → listed.getD i false = true → F i (a.tmps.getD d undef) w

/-- What is asked of one operation: in whatever frame and world its forerunners have left, it ends, S stands, its slot holds what it should, and what held of the others still holds. -/
def Each (P : Program) (md : Region.Mode) (ops : Array Oper) (Q : Exit → Act → World → Prop) (a0 : Act) (S : World → Prop) (F : Nat → Value → World → Prop) (i : Nat) (o : Oper) : Prop :=
  ∀ (a : Act) (w : World), a.tmps.size = a0.tmps.size → a.defers = a0.defers → (∀ t, outside ops t = true → a.tmps.getD t undef = a0.tmps.getD t undef) → S w →
    (∀ e ∈ o.after, Region.binds md e = true → ∀ (oe : Oper) (d : Tmp), ops[e.on]? = some oe → oe.dst = some d → F e.on (a.tmps.getD d undef) w) →
    ∀ K : Act → World → Prop, (∀ v w', S w' → (∀ j u, F j u w → F j u w') → F i v w' → K (a.put o.dst v) w') → wpOp P ops Q i K a w

theorem ready_none {listed : Array Bool} (hs : listed.size = ops.size) (hon : ∀ (i : Nat) (o : Oper), ops[i]? = some o → ∀ e ∈ o.after, Region.binds md e = true → e.on < i) (h : Region.ready md ops listed = []) : ∀ i, i < ops.size → listed.getD i false = true := by
  intro i
  induction i using Nat.strongRecOn with
  | ind i ih =>
    intro hi
    cases hl : listed.getD i true with
    | true =>
      have hlt : i < listed.size := by omega
      simp [hlt] at hl ⊢; exact hl
    | false =>
      exfalso
      have : i ∈ Region.ready md ops listed := mem_ready.2 ⟨hl, ops[i], Array.getElem?_eq_getElem hi, fun e he hbd => ih e.on (hon i _ (Array.getElem?_eq_getElem hi) e he hbd) (by have := hon i _ (Array.getElem?_eq_getElem hi) e he hbd; omega)⟩
      rw [h] at this; cases this

theorem wpAny_each {a0 : Act} {S : World → Prop} {F : Nat → Value → World → Prop} (ho : orderly md a0.tmps.size 0 [] ops.toList = true)
    (hop : ∀ (i : Nat) (o : Oper), ops[i]? = some o → Each P md ops Q a0 S F i o)
    (hend : ∀ (a : Act) (w : World), a.tmps.size = a0.tmps.size → a.defers = a0.defers → (∀ t, outside ops t = true → a.tmps.getD t undef = a0.tmps.getD t undef) → S w → (∀ (i : Nat) (o : Oper) (d : Tmp), ops[i]? = some o → o.dst = some d → F i (a.tmps.getD d undef) w) → Q .normal a w) :
    ∀ (fuel : Nat) (listed : Array Bool) (a : Act) (w : World), Mid ops a0 S F listed a w → unl listed ops.size ≤ fuel → wpAny P md ops Q fuel listed a w := by
  have hon : ∀ (i : Nat) (o : Oper), ops[i]? = some o → ∀ e ∈ o.after, Region.binds md e = true → e.on < i := fun i o hi e he hbd => by
    have := orderly_on ops.toList 0 [] ho i o (by simpa using hi) e he hbd; omega
  have hdst : ∀ (i : Nat) (o : Oper) (d : Tmp), ops[i]? = some o → o.dst = some d → d < a0.tmps.size := fun i o d hi hd => (orderly_dst ops.toList 0 [] ho i o d (by simpa using hi) hd).1
  have hone : ∀ (i : Nat) (o : Oper) (d : Tmp), ops[i]? = some o → o.dst = some d → ∀ (j : Nat) (o' : Oper), ops[j]? = some o' → i ≠ j → o'.dst ≠ some d := fun i o d hi hd j o' hj hij e => by
    rcases Nat.lt_or_gt_of_ne hij with h | h
    · exact (orderly_dst ops.toList 0 [] ho i o d (by simpa using hi) hd).2.2 j o' (by simpa using hj) h e
    · exact (orderly_dst ops.toList 0 [] ho j o' d (by simpa using hj) e).2.2 i o (by simpa using hi) h hd
  have hfin : ∀ listed a w, Mid ops a0 S F listed a w → Region.ready md ops listed = [] → Q .normal a w := fun listed a w hm hr =>
    hend a w hm.tmps hm.defers hm.out hm.world fun i o d hi hd => hm.held i o d hi hd (ready_none hm.size hon hr i (Array.getElem?_eq_some_iff.1 hi).1)
  intro fuel
  induction fuel with
  | zero =>
    intro listed a w hm hf
    have hr : Region.ready md ops listed = [] := by
      rw [List.eq_nil_iff_forall_not_mem]
      intro i hi
      obtain ⟨hl, o, ho', -⟩ := mem_ready.1 hi
      have hlt : i < ops.size := (Array.getElem?_eq_some_iff.1 ho').1
      have := unl_set listed i hl ops.size
      rw [if_pos hlt] at this
      omega
    exact ⟨hr, hfin listed a w hm hr⟩
  | succ fuel ih =>
    intro listed a w hm hf
    refine ⟨fun hr => hfin listed a w hm hr, fun i hi => ?_⟩
    obtain ⟨hl, o, ho', hall⟩ := mem_ready.1 hi
    have hlt : i < ops.size := (Array.getElem?_eq_some_iff.1 ho').1
    refine hop i o ho' a w hm.tmps hm.defers hm.out hm.world (fun e he hb oe d hoe hd => hm.held e.on oe d hoe hd (hall e he hb)) _ fun v w' hS hst hF => ?_
    refine ih _ _ _ ⟨by simp [hm.size], ?_, ?_, fun t ht => ?_, hS, fun j oj d hj hd hlj => ?_⟩ ?_
    · cases o.dst <;> simp [Act.put, hm.tmps]
    · cases o.dst <;> simp [Act.put, hm.defers]
    · rw [← hm.out t ht]
      cases hd : o.dst with
      | none => rfl
      | some d =>
        have hne : d ≠ t := by
          intro e; subst e
          unfold outside at ht
          rw [Array.all_eq_true_iff_forall_mem] at ht
          have := ht o (Array.mem_of_getElem? ho')
          rw [hd] at this; simp at this
        simp [Act.put, Array.getElem?_setIfInBounds_ne hne]
    · by_cases e : i = j
      · subst e
        rw [ho'] at hj
        obtain rfl := Option.some.inj hj
        have hdl : d < a.tmps.size := by rw [hm.tmps]; exact hdst i o d ho' hd
        have : (a.put o.dst v).tmps.getD d undef = v := by rw [hd]; simp [Act.put, hdl]
        rw [this]; exact hF
      · have h1 : listed.getD j false = true := by rw [getD_set_ne false e] at hlj; exact hlj
        have h2 := hm.held j oj d hj hd h1
        have h3 : (a.put o.dst v).tmps.getD d undef = a.tmps.getD d undef := by
          cases hd' : o.dst with
          | none => rfl
          | some d' =>
            have hne : d' ≠ d := fun e' => hone j oj d hj hd i o ho' (Ne.symm e) (by rw [hd', e'])
            simp [Act.put, Array.getElem?_setIfInBounds_ne hne]
        rw [h3]; exact hst j _ h2
    · have := unl_set listed i hl ops.size
      rw [if_pos hlt] at this; omega

theorem wp_region_each {id : Nat} {a : Act} {w : World} {S : World → Prop} {F : Nat → Value → World → Prop} (hm : P.follows .mixedOrders = true) (ho : orderly .any a.tmps.size 0 [] ops.toList = true)
    (hS : S w.drew) (hop : ∀ (i : Nat) (o : Oper), ops[i]? = some o → Each P .any ops Q a S F i o)
    (hend : ∀ (a' : Act) (w' : World), a'.tmps.size = a.tmps.size → a'.defers = a.defers → (∀ t, outside ops t = true → a'.tmps.getD t undef = a.tmps.getD t undef) → S w' → (∀ (i : Nat) (o : Oper) (d : Tmp), ops[i]? = some o → o.dst = some d → F i (a'.tmps.getD d undef) w') → Q .normal a' w') :
    (Code.region id ops true).wp P Q a w := by
  refine wp_region_any hm (wpAny_each ho hop hend _ _ _ _ ⟨by simp, rfl, rfl, fun _ _ => rfl, hS, fun i o d hi _ hl => ?_⟩ ?_)
  · exfalso
    have hlt : i < ops.size := (Array.getElem?_eq_some_iff.1 hi).1
    simp [hlt] at hl
  · have : ∀ k, k ≤ ops.size → unl (Array.replicate ops.size false) k = k := by
      intro k
      induction k with
      | zero => intro _; rfl
      | succ k ih =>
        intro hk
        rw [unl, ih (by omega)]
        have : (Array.replicate ops.size false).getD k true = false := by simp [show k < ops.size by omega]
        rw [this]; rfl
    rw [this _ (Nat.le_refl _)]; exact Nat.le_refl _
end
end Go.Proofs.Ytcliiefedmiokaa
/-
  A region that draws its order and whose last operation waits for all others: each met alone, the last one behind them.
-/
namespace Go.Proofs.Ytcliiefedmiokaa
open Go.RowKit
section
variable {P : Program} {md : Region.Mode} {ops : Array Oper} {Q : Exit → Act → World → Prop}

/-- Each operation but the last has a later one that waits for it. -/
def tails (md : Region.Mode) (l : List Oper) : Bool :=
  (List.range (l.length - 1)).all fun j => (List.range l.length).any fun k => decide (j < k) && (match l[k]? with | some o => o.after.any (fun e => e.on == j && Region.binds md e) | none => false)
def Closed (md : Region.Mode) (ops : Array Oper) (listed : Array Bool) : Prop :=
  ∀ (k : Nat) (o : Oper), ops[k]? = some o → listed.getD k false = true → ∀ e ∈ o.after, Region.binds md e = true → listed.getD e.on false = true
theorem all_before {listed : Array Bool} (ht : tails md ops.toList = true) (hc : Closed md ops listed) {last : Oper} (hl : ops[ops.size - 1]? = some last)
    (hd : ∀ e ∈ last.after, Region.binds md e = true → listed.getD e.on false = true) : ∀ m j, ops.size - 1 - j ≤ m → j < ops.size - 1 → listed.getD j false = true
  | 0, j, hm, hj => by omega
  | m + 1, j, hm, hj => by
    have ht0 := ht
    unfold tails at ht
    rw [List.all_eq_true] at ht
    have := ht j (List.mem_range.2 (by simpa using hj))
    rw [List.any_eq_true] at this
    obtain ⟨k, hk, h⟩ := this
    rw [List.mem_range] at hk
    simp only [Bool.and_eq_true, decide_eq_true_eq] at h
    obtain ⟨hjk, h⟩ := h
    have hk' : k < ops.size := by simpa using hk
    have hko : ops.toList[k]? = some ops[k] := by simp [hk']
    rw [hko] at h
    simp only [Array.any_eq_true, Bool.and_eq_true, beq_iff_eq] at h
    obtain ⟨n, hn, he, hb⟩ := h
    have hmem : ops[k].after[n] ∈ ops[k].after := Array.getElem_mem hn
    by_cases e : k = ops.size - 1
    · subst e
      rw [Array.getElem?_eq_getElem hk'] at hl
      obtain rfl := Option.some.inj hl
      have := hd _ hmem hb
      rw [he] at this; exact this
    · have hkl := all_before ht0 hc hl hd m k (by omega) (by omega)
      have := hc k ops[k] (Array.getElem?_eq_getElem hk') hkl _ hmem hb
      rw [he] at this; exact this

theorem wpAny_tail {a0 : Act} {S : World → Prop} {F : Nat → Value → World → Prop} {last : Oper} (ho : orderly md a0.tmps.size 0 [] ops.toList = true) (ht : tails md ops.toList = true) (hl : ops[ops.size - 1]? = some last)
    (hop : ∀ (i : Nat) (o : Oper), ops[i]? = some o → i < ops.size - 1 → Each P md ops Q a0 S F i o)
    (hlast : ∀ (a : Act) (w : World), a.tmps.size = a0.tmps.size → a.defers = a0.defers → (∀ t, outside ops t = true → a.tmps.getD t undef = a0.tmps.getD t undef) → S w →
      (∀ (i : Nat) (o : Oper) (d : Tmp), ops[i]? = some o → i < ops.size - 1 → o.dst = some d → F i (a.tmps.getD d undef) w) → ∀ K : Act → World → Prop, (∀ a' w', Q .normal a' w' → K a' w') → wpOp P ops Q (ops.size - 1) K a w) :
    ∀ (fuel : Nat) (listed : Array Bool) (a : Act) (w : World), Mid ops a0 S F listed a w → Closed md ops listed → listed.getD (ops.size - 1) true = false → unl listed ops.size ≤ fuel → wpAny P md ops Q fuel listed a w := by
  have hlt0 : ops.size - 1 < ops.size := (Array.getElem?_eq_some_iff.1 hl).1
  have hon : ∀ (i : Nat) (o : Oper), ops[i]? = some o → ∀ e ∈ o.after, Region.binds md e = true → e.on < i := fun i o hi e he hbd => by
    have := orderly_on ops.toList 0 [] ho i o (by simpa using hi) e he hbd; omega
  have hdst : ∀ (i : Nat) (o : Oper) (d : Tmp), ops[i]? = some o → o.dst = some d → d < a0.tmps.size := fun i o d hi hd => (orderly_dst ops.toList 0 [] ho i o d (by simpa using hi) hd).1
  have hone : ∀ (i : Nat) (o : Oper) (d : Tmp), ops[i]? = some o → o.dst = some d → ∀ (j : Nat) (o' : Oper), ops[j]? = some o' → i ≠ j → o'.dst ≠ some d := fun i o d hi hd j o' hj hij e => by
    rcases Nat.lt_or_gt_of_ne hij with h | h
    · exact (orderly_dst ops.toList 0 [] ho i o d (by simpa using hi) hd).2.2 j o' (by simpa using hj) h e
    · exact (orderly_dst ops.toList 0 [] ho j o' d (by simpa using hj) e).2.2 i o (by simpa using hi) h hd
  intro fuel
  induction fuel with
  | zero =>
    intro listed a w hm hcl hul hf
    exfalso
    have := unl_set listed _ hul ops.size
    rw [if_pos hlt0] at this
    omega
  | succ fuel ih =>
    intro listed a w hm hcl hul hf
    refine ⟨fun hr => ?_, fun i hi => ?_⟩
    · exfalso
      have h1 := ready_none hm.size hon hr _ hlt0
      have hlt : ops.size - 1 < listed.size := by have := hm.size; omega
      simp [hlt] at hul h1
      rw [h1] at hul; cases hul
    obtain ⟨hul2, o, ho', hall⟩ := mem_ready.1 hi
    have hlt : i < ops.size := (Array.getElem?_eq_some_iff.1 ho').1
    by_cases e : i = ops.size - 1
    · subst e
      rw [hl] at ho'
      obtain rfl := Option.some.inj ho'
      have hab := fun j hj => all_before ht hcl hl hall _ j (Nat.le_refl _) hj
      refine hlast a w hm.tmps hm.defers hm.out hm.world (fun j oj d hj hjl hd => hm.held j oj d hj hd (hab j hjl)) _ fun a' w' hq => ?_
      have hrd : Region.ready md ops (listed.setIfInBounds (ops.size - 1) true) = [] := by
        rw [List.eq_nil_iff_forall_not_mem]
        intro j hj
        obtain ⟨hl', o', ho'', -⟩ := mem_ready.1 hj
        have hj' : j < ops.size := (Array.getElem?_eq_some_iff.1 ho'').1
        have hls : ops.size - 1 < listed.size := by have := hm.size; omega
        by_cases ej : ops.size - 1 = j
        · subst ej; simp [hls] at hl'
        · rw [getD_set_ne true ej] at hl'
          have h1 := hab j (by omega)
          have hjs : j < listed.size := by have := hm.size; omega
          simp [hjs] at hl' h1
          rw [h1] at hl'; cases hl'
      cases fuel with
      | zero => exact ⟨hrd, hq⟩
      | succ fuel => exact ⟨fun _ => hq, fun j hj => by rw [hrd] at hj; cases hj⟩
    · refine hop i o ho' (by omega) a w hm.tmps hm.defers hm.out hm.world (fun e he hb oe d hoe hd => hm.held e.on oe d hoe hd (hall e he hb)) _ fun v w' hS hst hF => ?_
      have hls : listed.size = ops.size := hm.size
      refine ih _ _ _ ⟨by simp [hm.size], ?_, ?_, fun t ht => ?_, hS, fun j oj d hj hd hlj => ?_⟩ (fun k ok hk hlk e' he' hb' => ?_) ?_ ?_
      · cases o.dst <;> simp [Act.put, hm.tmps]
      · cases o.dst <;> simp [Act.put, hm.defers]
      · rw [← hm.out t ht]
        cases hd : o.dst with
        | none => rfl
        | some d =>
          have hne : d ≠ t := by
            intro e; subst e
            unfold outside at ht
            rw [Array.all_eq_true_iff_forall_mem] at ht
            have := ht o (Array.mem_of_getElem? ho')
            rw [hd] at this; simp at this
          simp [Act.put, Array.getElem?_setIfInBounds_ne hne]
      · by_cases e : i = j
        · subst e
          rw [ho'] at hj
          obtain rfl := Option.some.inj hj
          have hdl : d < a.tmps.size := by rw [hm.tmps]; exact hdst i o d ho' hd
          have : (a.put o.dst v).tmps.getD d undef = v := by rw [hd]; simp [Act.put, hdl]
          rw [this]; exact hF
        · have h1 : listed.getD j false = true := by rw [getD_set_ne false e] at hlj; exact hlj
          have h2 := hm.held j oj d hj hd h1
          have h3 : (a.put o.dst v).tmps.getD d undef = a.tmps.getD d undef := by
            cases hd' : o.dst with
            | none => rfl
            | some d' =>
              have hne : d' ≠ d := fun e' => hone j oj d hj hd i o ho' (Ne.symm e) (by rw [hd', e'])
              simp [Act.put, Array.getElem?_setIfInBounds_ne hne]
          rw [h3]; exact hst j _ h2
      · have hne : i ≠ e'.on ∨ i = e'.on := (Nat.decEq i e'.on).byCases (fun h => .inr h) (fun h => .inl h)
        by_cases ek : i = k
        · subst ek
          rw [ho'] at hk
          obtain rfl := Option.some.inj hk
          have h1 := hall e' he' hb'
          have h2 : i ≠ e'.on := by have := hon i o ho' e' he' hb'; omega
          rw [getD_set_ne false h2]; exact h1
        · rw [getD_set_ne false ek] at hlk
          have h1 := hcl k ok hk hlk e' he' hb'
          by_cases e2 : i = e'.on
          · rw [← e2]; simp [show i < listed.size by omega]
          · rw [getD_set_ne false e2]; exact h1
      · rw [getD_set_ne true e]; exact hul
      · have := unl_set listed i hul2 ops.size
        rw [if_pos hlt] at this; omega

/-- What a slot holds, in a world. -/
abbrev FactP := Value → World → Prop
def isV (v : Value) : FactP := fun u _ => u = v
def factP (fs : List FactP) (i : Nat) : FactP := fs.getD i (isV undef)

def AllOps (ob : Nat → Oper → Prop) : Nat → List Oper → Prop
  | _, [] => True
  | k, o :: r => ob k o ∧ AllOps ob (k + 1) r
theorem allOps_at {ob : Nat → Oper → Prop} : ∀ (l : List Oper) (k : Nat), AllOps ob k l → ∀ (i : Nat) (o : Oper), l[i]? = some o → ob (k + i) o
  | [], _, _, i, o, h => by simp at h
  | x :: r, k, hl, i, o, h => by
    cases i with
    | zero => simp only [List.getElem?_cons_zero, Option.some.injEq] at h; subst h; exact hl.1
    | succ i =>
      simp only [List.getElem?_cons_succ] at h
      have := allOps_at r (k + 1) hl.2 i o h
      rwa [show k + 1 + i = k + (i + 1) by omega] at this

def depT (o : Oper) (j : Nat) : Bool := o.after.any fun e => e.on == j && Region.binds .any e
/-- What is asked of one operation, its forerunners' slots named. -/
def Obt (P : Program) (Q : Exit → Act → World → Prop) (base : List (Tmp × Value)) (dsts : List (Option Tmp)) (S : World → Prop) (fs : List FactP) (i : Nat) (o : Oper) : Prop :=
  ∀ (a : Act) (w : World), S w → (∀ t v, base.lookup t = some v → a.tmps.getD t undef = v) →
    (∀ j d, dsts[j]? = some (some d) → depT o j = true → factP fs j (a.tmps.getD d undef) w) →
    ∀ K : Act → World → Prop, (∀ v w', S w' → (∀ j u, factP fs j u w → factP fs j u w') → factP fs i v w' → K (a.put o.dst v) w') →
      (o.guard = none ∨ ∃ j d, o.guard = some (j, true) ∧ dsts[j]? = some (some d) ∧ a.tmps.getD d undef = .bool true) ∧ o.wp P a w K Q

theorem wp_region_tail {ops : Array Oper} {id : Nat} {a : Act} {w : World} {S : World → Prop} (fs : List FactP) (base : List (Tmp × Value)) (dsts : List (Option Tmp)) (last : Oper) (k : Nat)
    (hm : P.follows .mixedOrders = true) (hk : ops.size = k + 1) (hlk : ops[k]? = some last) (ho : orderly .any a.tmps.size 0 [] ops.toList = true) (ht : tails .any ops.toList = true) (hd : ops.toList.map (·.dst) = dsts)
    (hbo : base.all (fun p => outside ops p.1) = true) (hb : ∀ t v, base.lookup t = some v → a.tmps.getD t undef = v)
    (hS : S w.drew) (hob : AllOps (Obt P Q base dsts S fs) 0 ops.toList.dropLast) (hgl : last.guard = none)
    (hlast : ∀ (a' : Act) (w' : World), a'.tmps.size = a.tmps.size → a'.defers = a.defers → (∀ t, outside ops t = true → a'.tmps.getD t undef = a.tmps.getD t undef) → S w' →
      (∀ j d, dsts[j]? = some (some d) → j < k → factP fs j (a'.tmps.getD d undef) w') → ∀ K : Act → World → Prop, (∀ v w2, Q .normal (a'.put last.dst v) w2 → K (a'.put last.dst v) w2) → last.wp P a' w' K Q) :
    (Code.region id ops true).wp P Q a w := by
  have hl : ops[ops.size - 1]? = some last := by rw [hk]; exact hlk
  have hdst' : ∀ (j : Nat) (d : Tmp), dsts[j]? = some (some d) → ∃ o, ops[j]? = some o ∧ o.dst = some d := fun j d h => by
    rw [← hd, List.getElem?_map] at h
    cases hj : ops.toList[j]? with
    | none => rw [hj] at h; simp at h
    | some o =>
      rw [hj] at h
      exact ⟨o, by simpa using hj, by simpa using h⟩
  have hmem : ∀ (t : Tmp) (v : Value) (l : List (Tmp × Value)), l.lookup t = some v → ∃ p ∈ l, p.1 = t := fun t v l => by
    induction l with
    | nil => intro h; simp at h
    | cons x r ih =>
      intro h
      rw [List.lookup_cons] at h
      by_cases e : t == x.1
      · exact ⟨x, List.mem_cons_self, (by simpa using e : t = x.1).symm⟩
      · have e' : (t == x.1) = false := by simpa using e
        rw [e'] at h
        obtain ⟨p, hp, hpt⟩ := ih h
        exact ⟨p, List.mem_cons_of_mem _ hp, hpt⟩
  have hstart : ∀ k, k ≤ ops.size → unl (Array.replicate ops.size false) k = k := by
    intro k
    induction k with
    | zero => intro _; rfl
    | succ k ih =>
      intro hk
      rw [unl, ih (by omega)]
      have : (Array.replicate ops.size false).getD k true = false := by simp [show k < ops.size by omega]
      rw [this]; rfl
  refine wp_region_any hm (wpAny_tail (F := fun i u w => factP fs i u w) ho ht hl (fun i o hi hil a' w' hts hds hout hSw hdep K hK => ?_) (fun a' w' h1 h2 h3 h4 h5 K hK => ?_) _ _ _ _ ⟨by simp, rfl, rfl, fun _ _ => rfl, hS, fun i o d hi _ hl => ?_⟩ (fun k o hk hlk => ?_) ?_ ?_)
  · have hbase : ∀ t v, base.lookup t = some v → a'.tmps.getD t undef = v := fun t v h => by
      obtain ⟨p, hp, rfl⟩ := hmem t v base h
      rw [List.all_eq_true] at hbo
      rw [hout p.1 (hbo p hp)]; exact hb p.1 v h
    have hdep' : ∀ j d, dsts[j]? = some (some d) → depT o j = true → factP fs j (a'.tmps.getD d undef) w' := fun j d h he => by
      unfold depT at he
      rw [Array.any_eq_true] at he
      obtain ⟨n, hn, he⟩ := he
      simp only [Bool.and_eq_true, beq_iff_eq] at he
      obtain ⟨oe, hoe, hde⟩ := hdst' j d h
      have := hdep (o.after[n]) (Array.getElem_mem hn) he.2 oe d (by rw [he.1]; exact hoe) hde
      rw [he.1] at this; exact this
    have hip : ops.toList.dropLast[i]? = some o := by
      have : ops.toList[i]? = some o := by simpa using hi
      rw [List.getElem?_dropLast, if_pos (by simpa using hil)]; exact this
    have hobi := allOps_at _ 0 hob i o hip
    rw [Nat.zero_add] at hobi
    obtain ⟨hg, hwp⟩ := hobi a' w' hSw hbase hdep' K hK
    have hwant : Region.wanted o (yielded ops a'.tmps) = true := by
      rcases hg with hg | ⟨j, d, hg, hj, hv⟩
      · simp [Region.wanted, hg]
      · obtain ⟨oj, hoj, hdj⟩ := hdst' j d hj
        have h1 : a'.tmps[d]? = some (.bool true) := by
          cases h : a'.tmps[d]? with
          | none => simp [h] at hv; cases hv
          | some u => simp [h] at hv; rw [hv]
        simp [Region.wanted, hg, yielded, hoj, hdj, h1]
    unfold wpOp
    simp only [hi, hwant, if_true]
    exact .inl hwp
  · have hw := hlast a' w' h1 h2 h3 h4 (fun j d h hj => by
      obtain ⟨o, ho', hd'⟩ := hdst' j d h
      exact h5 j o d ho' (by omega) hd') K fun v w2 hq => hK _ _ hq
    unfold wpOp
    have hwant : Region.wanted last (yielded ops a'.tmps) = true := by simp [Region.wanted, hgl]
    simp only [hl, hwant, if_true]
    exact .inl hw
  · exfalso
    have hlt : i < ops.size := (Array.getElem?_eq_some_iff.1 hi).1
    simp [hlt] at hl
  · exfalso
    have hlt : k < ops.size := (Array.getElem?_eq_some_iff.1 hk).1
    simp [hlt] at hlk
  · have hlt : ops.size - 1 < ops.size := by omega
    simp [hlt]
  · rw [hstart _ (Nat.le_refl _)]; exact Nat.le_refl _
end
end Go.Proofs.Ytcliiefedmiokaa
/-
  The operations of such a region, kind by kind.
-/
namespace Go.Proofs.Ytcliiefedmiokaa
open Go.RowKit

/-- What an operand reads as: a slot from before, a slot of a forerunner, a constant. -/
def SrcT (base : List (Tmp × Value)) (dsts : List (Option Tmp)) (fs : List FactP) (o : Oper) (x : Operand) (v : Value) : Prop :=
  (∃ t, x = .tmp t ∧ base.lookup t = some v) ∨ (∃ j d, x = .tmp d ∧ dsts[j]? = some (some d) ∧ depT o j = true ∧ factP fs j = isV v) ∨ x = .const v
theorem srt_b {base : List (Tmp × Value)} {dsts : List (Option Tmp)} {fs : List FactP} {o : Oper} {v : Value} (t : Tmp) (h : base.lookup t = some v) : SrcT base dsts fs o (.tmp t) v := .inl ⟨t, rfl, h⟩
theorem srt_j {base : List (Tmp × Value)} {dsts : List (Option Tmp)} {fs : List FactP} {o : Oper} {v : Value} {d : Tmp} (j : Nat) (h1 : dsts[j]? = some (some d)) (h2 : depT o j = true) (h3 : factP fs j = isV v) : SrcT base dsts fs o (.tmp d) v := .inr (.inl ⟨j, d, rfl, h1, h2, h3⟩)
theorem srt_c {base : List (Tmp × Value)} {dsts : List (Option Tmp)} {fs : List FactP} {o : Oper} {v : Value} : SrcT base dsts fs o (.const v) v := .inr (.inr rfl)
def SrcsT (base : List (Tmp × Value)) (dsts : List (Option Tmp)) (fs : List FactP) (o : Oper) : List Operand → List Value → Prop
  | [], [] => True
  | x :: l, v :: r => SrcT base dsts fs o x v ∧ SrcsT base dsts fs o l r
  | _, _ => False
/-- A slot whose fact is no bare value. -/
def SlotT (dsts : List (Option Tmp)) (o : Oper) (j : Nat) (d : Tmp) : Prop := dsts[j]? = some (some d) ∧ depT o j = true

/-- A fact that stands while nothing that was there turns. -/
def StableP (f : FactP) : Prop := ∀ u w w', Below w.heap.size w w' → f u w → f u w'
theorem stable_v (v : Value) : StableP (isV v) := fun _ _ _ _ h => h
theorem stable_all {fs : List FactP} (h : ∀ f ∈ fs, StableP f) (j : Nat) : StableP (factP fs j) := by
  unfold factP
  rw [List.getD_eq_getElem?_getD]
  cases hj : fs[j]? with
  | none => exact stable_v _
  | some f => exact h f (List.mem_of_getElem? hj)

theorem run_value {P : Program} {Q : Exit → Act → World → Prop} {o : Oper} {a : Act} {w w' : World} {K : Act → World → Prop} (v : Value) (hr : (execOp a.eval o).run P w = .ok (.value v) w') (h : K (a.put o.dst v) w') : o.wp P a w K Q := by
  unfold Oper.wp; rw [hr]; exact h
theorem run_skip {P : Program} {Q : Exit → Act → World → Prop} {o : Oper} {a : Act} {w w' : World} {K : Act → World → Prop} (hr : (execOp a.eval o).run P w = .ok .skip w') (h : K (a.put o.dst undef) w') : o.wp P a w K Q := by
  unfold Oper.wp; rw [hr]; exact h
theorem run_call {P : Program} {Q : Exit → Act → World → Prop} {o : Oper} {a : Act} {w : World} {K : Act → World → Prop} {f : FuncId} {xs : Array Operand} {ts : Array TypeId} (ho : o.op = .call { callee := .value (.func f), args := xs, argTypes := ts })
    {fn : Func} (hfn : P.funcs[f]? = some fn) (hn : (fn.name == "runtime.NumGoroutine") = false) (hb : fn.body.isSome = true) (args : Array Value) (hx : xs.map a.eval = args) (h : Calls P f args w fun e w' => ∃ v, e = .returned v ∧ K (a.put o.dst v) w') : o.wp P a w K Q := by
  subst hx
  unfold Oper.wp
  have hf : a.eval (.func f) = .func (.func f) #[] #[] := rfl
  simp only [execOp, ho, resolve, hf, Deferred.ofValue]
  have hn' : ¬ fn.name = "runtime.NumGoroutine" := by simpa using hn
  have hb' : ¬ fn.body = none := by intro e; rw [e] at hb; cases hb
  simp [invoke, callFunc, Oper.upon, hfn, hn', hb', Result.andThen]
  refine Calls.mono h ?_
  rintro e w' ⟨v, rfl, hk⟩
  exact hk

section
variable {P : Program} {Q : Exit → Act → World → Prop} {base : List (Tmp × Value)} {dsts : List (Option Tmp)} {S : World → Prop} {fs : List FactP} {i : Nat} {o : Oper}
theorem srt_val {a : Act} {w : World} {x : Operand} {v : Value} (h : SrcT base dsts fs o x v) (hb : ∀ t v, base.lookup t = some v → a.tmps.getD t undef = v)
    (hd : ∀ j d, dsts[j]? = some (some d) → depT o j = true → factP fs j (a.tmps.getD d undef) w) : a.eval x = v := by
  rcases h with ⟨t, rfl, h⟩ | ⟨j, d, rfl, h1, h2, h3⟩ | rfl
  · exact hb t v h
  · have := hd j d h1 h2
    rw [h3] at this; exact this
  · rfl
theorem srts_val {a : Act} {w : World} (hB : ∀ t v, base.lookup t = some v → a.tmps.getD t undef = v) (hD : ∀ j d, dsts[j]? = some (some d) → depT o j = true → factP fs j (a.tmps.getD d undef) w) : ∀ (l : List Operand) (r : List Value), SrcsT base dsts fs o l r → l.map a.eval = r := fun l => by
  induction l with
  | nil => intro r h; cases r with
    | nil => rfl
    | cons v r => exact h.elim
  | cons x l ih => intro r h; cases r with
    | nil => exact h.elim
    | cons v r => rw [List.map_cons, srt_val h.1 hB hD, ih r h.2]

/-- An operation that yields v of what its operands read as, in whatever world meets S. -/
theorem obt_run (v : Value) (hf : factP fs i = isV v) (hg : o.guard = none) (hr : ∀ (ρ : Operand → Value) (w : World), S w → (∀ x u, SrcT base dsts fs o x u → ρ x = u) → (execOp ρ o).run P w = .ok (.value v) w) : Obt P Q base dsts S fs i o :=
  fun a w hS hB hD K hK => ⟨.inl hg, run_value v (hr a.eval w hS fun x u hx => srt_val hx hB hD) (hK _ _ hS (fun _ _ h => h) (by rw [hf]; rfl))⟩
theorem obt_move {x : Operand} (v : Value) (ho : o.op = .move x) (hf : factP fs i = isV v) (hg : o.guard = none) (hx : SrcT base dsts fs o x v) : Obt P Q base dsts S fs i o :=
  obt_run v hf hg fun a w _ hs => by unfold execOp; rw [ho]; simp only [hs x v hx]; rfl
theorem obt_none (v : Value) (hf : factP fs i = isV v) (hg : o.guard = none) (hr : ∀ (ρ : Operand → Value) (w : World), S w → (execOp ρ o).run P w = .ok (.value v) w) : Obt P Q base dsts S fs i o :=
  obt_run v hf hg fun ρ w hS _ => hr ρ w hS
theorem obt_one {x : Operand} {u : Value} (v : Value) (hf : factP fs i = isV v) (hg : o.guard = none) (hx : SrcT base dsts fs o x u) (hr : ∀ (ρ : Operand → Value) (w : World), S w → ρ x = u → (execOp ρ o).run P w = .ok (.value v) w) : Obt P Q base dsts S fs i o :=
  obt_run v hf hg fun ρ w hS hs => hr ρ w hS (hs x u hx)
theorem obt_two {x y : Operand} {u t : Value} (v : Value) (hf : factP fs i = isV v) (hg : o.guard = none) (hx : SrcT base dsts fs o x u) (hy' : SrcT base dsts fs o y t) (hr : ∀ (ρ : Operand → Value) (w : World), S w → ρ x = u → ρ y = t → (execOp ρ o).run P w = .ok (.value v) w) : Obt P Q base dsts S fs i o :=
  obt_run v hf hg fun ρ w hS hs => hr ρ w hS (hs x u hx) (hs y t hy')
/-- An operation that makes memory. -/
theorem obt_make (hst : ∀ f ∈ fs, StableP f) (hg : o.guard = none) (hr : ∀ (a : Act) (w : World), S w → (∀ x u, SrcT base dsts fs o x u → a.eval x = u) → ∃ v w', (execOp a.eval o).run P w = .ok (.value v) w' ∧ S w' ∧ Below w.heap.size w w' ∧ factP fs i v w') : Obt P Q base dsts S fs i o :=
  fun a w hS hB hD K hK => by
    obtain ⟨v, w', h1, h2, h3, h4⟩ := hr a w hS fun x u hx => srt_val hx hB hD
    exact ⟨.inl hg, run_value v h1 (hK _ _ h2 (fun j u h => stable_all hst j u _ _ h3 h) h4)⟩
/-- A call, its arguments all values. -/
theorem obt_call {f : FuncId} {xs : Array Operand} {ts : Array TypeId} {fn : Func} (hst : ∀ f ∈ fs, StableP f) (args : List Value) (ho : o.op = .call { callee := .value (.func f), args := xs, argTypes := ts }) (hfn : P.funcs[f]? = some fn) (hn : (fn.name == "runtime.NumGoroutine") = false) (hb : fn.body.isSome = true)
    (hg : o.guard = none) (hx : SrcsT base dsts fs o xs.toList args)
    (hc : ∀ w, S w → Calls P f args.toArray w fun e w' => ∃ v, e = .returned v ∧ S w' ∧ Below w.heap.size w w' ∧ factP fs i v w') : Obt P Q base dsts S fs i o :=
  fun a w hS hB hD K hK => ⟨.inl hg, run_call ho hfn hn hb args.toArray (by
    rw [← srts_val hB hD _ _ hx]; exact Array.toList_inj.1 (by simp)) ((hc w hS).mono fun e w' ⟨v, he, h1, h2, h3⟩ => ⟨v, he, hK _ _ h1 (fun j u h => stable_all hst j u _ _ h2 h) h3⟩)⟩
/-- A call of two arguments, the first of which a forerunner has made; .. the second of which. -/
theorem obt_call_l {f : FuncId} {d : Tmp} {y : Operand} {ts : Array TypeId} {fn : Func} {u : Value} (hst : ∀ f ∈ fs, StableP f) (j : Nat) (ho : o.op = .call { callee := .value (.func f), args := #[.tmp d, y], argTypes := ts }) (hfn : P.funcs[f]? = some fn) (hn : (fn.name == "runtime.NumGoroutine") = false) (hb : fn.body.isSome = true)
    (hg : o.guard = none) (h1 : dsts[j]? = some (some d)) (h2 : depT o j = true) (hx : SrcT base dsts fs o y u)
    (hc : ∀ v w, S w → factP fs j v w → Calls P f #[v, u] w fun e w' => ∃ r, e = .returned r ∧ S w' ∧ Below w.heap.size w w' ∧ factP fs i r w') : Obt P Q base dsts S fs i o :=
  fun a w hS hB hD K hK => ⟨.inl hg, run_call ho hfn hn hb #[a.tmps.getD d undef, u] (by
    have := srt_val hx hB hD
    simp only [List.map_toArray, List.map_cons, List.map_nil, this]; rfl) ((hc _ w hS (hD j d h1 h2)).mono fun e w' ⟨v, he, g1, g2, g3⟩ => ⟨v, he, hK _ _ g1 (fun j u h => stable_all hst j u _ _ g2 h) g3⟩)⟩
theorem obt_call_r {f : FuncId} {d : Tmp} {y : Operand} {ts : Array TypeId} {fn : Func} {u : Value} (hst : ∀ f ∈ fs, StableP f) (j : Nat) (ho : o.op = .call { callee := .value (.func f), args := #[y, .tmp d], argTypes := ts }) (hfn : P.funcs[f]? = some fn) (hn : (fn.name == "runtime.NumGoroutine") = false) (hb : fn.body.isSome = true)
    (hg : o.guard = none) (h1 : dsts[j]? = some (some d)) (h2 : depT o j = true) (hx : SrcT base dsts fs o y u)
    (hc : ∀ v w, S w → factP fs j v w → Calls P f #[u, v] w fun e w' => ∃ r, e = .returned r ∧ S w' ∧ Below w.heap.size w w' ∧ factP fs i r w') : Obt P Q base dsts S fs i o :=
  fun a w hS hB hD K hK => ⟨.inl hg, run_call ho hfn hn hb #[u, a.tmps.getD d undef] (by
    have := srt_val hx hB hD
    simp only [List.map_toArray, List.map_cons, List.map_nil, this]; rfl) ((hc _ w hS (hD j d h1 h2)).mono fun e w' ⟨v, he, g1, g2, g3⟩ => ⟨v, he, hK _ _ g1 (fun j u h => stable_all hst j u _ _ g2 h) g3⟩)⟩

/-- The last operation: an assignment of what a forerunner has left. -/
theorem tail_assign {last : Oper} {a' : Act} {w' : World} {x : Operand} {v : Value} (ho : last.op = .assign x) (hx : a'.eval x = v) (hq : Q .normal (a'.put last.dst v) w') (K : Act → World → Prop) (hK : ∀ v w2, Q .normal (a'.put last.dst v) w2 → K (a'.put last.dst v) w2) : last.wp P a' w' K Q :=
  run_value v (by unfold execOp; rw [ho]; simp only [hx]; rfl) (hK v w' hq)
/-- A frame that is written out. -/
def frameAt (a : Act) : Nat → List Value → Prop
  | _, [] => True
  | k, x :: r => a.tmps.getD k undef = x ∧ frameAt a (k + 1) r
theorem frameAt_get (a : Act) : ∀ (l : List Value) (k i : Nat) (x : Value), frameAt a k l → l[i]? = some x → a.tmps.getD (k + i) undef = x
  | [], k, i, x, _, h => by simp at h
  | y :: r, k, i, x, hf, h => by
    cases i with
    | zero => simp only [List.getElem?_cons_zero, Option.some.injEq] at h; subst h; exact hf.1
    | succ i =>
      simp only [List.getElem?_cons_succ] at h
      have := frameAt_get a r (k + 1) i x hf.2 h
      rwa [show k + 1 + i = k + (i + 1) by omega] at this
theorem frame_eq {a : Act} (l : List Value) {ds : List Deferred} (hs : a.tmps.size = l.length) (hd : a.defers = ds) (h : frameAt a 0 l) : a = ⟨l.toArray, ds⟩ := by
  obtain ⟨ts, df⟩ := a
  simp only at hs hd
  subst hd
  congr 1
  apply Array.ext
  · simpa using hs
  · intro i h1 h2
    have hl : l[i]? = some l[i] := List.getElem?_eq_getElem (by simpa using h2)
    have := frameAt_get _ l 0 i _ h hl
    rw [Nat.zero_add] at this
    simp only [Array.getD_eq_getD_getElem?, Array.getElem?_eq_getElem h1, Option.getD_some] at this
    rw [this]; simp
end
end Go.Proofs.Ytcliiefedmiokaa
/-
  Line numbers: lineNumber, l03Least, LineOf of both.
-/
namespace Go.Proofs.Ytcliiefedmiokaa
open Go.RowKit

def least (dy cols : Int) : Int := min 0 (-dy * (cols - 1))
/-- The number of a cell's line. -/
def lnum (dx dy cols y x : Int) : Int := dx * y - dy * x - least dy cols
structure Near (dx dy : Int) : Prop where
  x1 : 0 ≤ dx
  x2 : dx ≤ 3
  y1 : -3 ≤ dy
  y2 : dy ≤ 3
theorem near_of {dx dy : Int} (h : dirOk dx dy = true) : Near dx dy := by
  simp only [dirOk, Bool.and_eq_true, decide_eq_true_eq] at h
  obtain ⟨⟨⟨⟨h1, h2⟩, h3, h4⟩, -⟩, -⟩ := h
  exact ⟨h1, h2, h3, h4⟩
theorem mul_dx {a b : Int} (h1 : 0 ≤ a) (h2 : a ≤ 3) (h3 : 0 ≤ b) (h4 : b ≤ 5) : 0 ≤ a * b ∧ a * b ≤ 15 := by
  have : a = 0 ∨ a = 1 ∨ a = 2 ∨ a = 3 := by omega
  rcases this with rfl | rfl | rfl | rfl <;> omega
theorem mul_dy {a b : Int} (h1 : -3 ≤ a) (h2 : a ≤ 3) (h3 : 0 ≤ b) (h4 : b ≤ 5) : -15 ≤ a * b ∧ a * b ≤ 15 := by
  have : a = -3 ∨ a = -2 ∨ a = -1 ∨ a = 0 ∨ a = 1 ∨ a = 2 ∨ a = 3 := by omega
  rcases this with rfl | rfl | rfl | rfl | rfl | rfl | rfl <;> omega

set_option maxHeartbeats 400000 in
theorem l03Least_any (dx dy cols : Int) (w : World) (hn : Near dx dy) (hc : 1 ≤ cols ∧ cols ≤ 5) :
    Calls Try.prog 108 #[.int .i64 cols, .agg #[.int .i64 dx, .int .i64 dy]] w fun e w' => e = .returned (.int .i64 (least dy cols)) ∧ Below w.heap.size w w' := by
  obtain ⟨h1, h2, h3, h4⟩ := hn
  obtain ⟨h5, h6⟩ := hc
  have hm := mul_dy (a := -dy) (b := cols - 1) (by omega) (by omega) (by omega) (by omega)
  have HL : Hid (least dy cols = min 0 (-dy * (cols - 1))) := hide rfl
  obtain ⟨hm1, hm2⟩ := hm
  by_cases h : 0 ≤ -dy * (cols - 1)
  · have HR : Hid (least dy cols = 0) := hide (by rw [HL.out]; omega)
    go_enter Try.func108, Try.ntmps108
    go_wp2
    trace_state
    go_ret
    exact ⟨ret_int (by rw [HR.out]), (Below.refl _ _).alloc (Nat.le_refl _) _⟩
  · have HR : Hid (least dy cols = -dy * (cols - 1)) := hide (by rw [HL.out]; omega)
    go_enter Try.func108, Try.ntmps108
    go_wp2
    go_ret
    exact ⟨ret_int (by rw [HR.out]), (Below.refl _ _).alloc (Nat.le_refl _) _⟩

set_option maxHeartbeats 400000 in
theorem lineNumber_any (dx dy cols y x : Int) (w : World) (hn : Near dx dy) (hc : 1 ≤ cols ∧ cols ≤ 5) (hy : 0 ≤ y ∧ y < 5) (hx : 0 ≤ x ∧ x < 5) :
    Calls Try.prog 112 #[.int .i64 cols, .agg #[.int .i64 dx, .int .i64 dy], .int .i64 y, .int .i64 x] w fun e w' => e = .returned (.int .i64 (lnum dx dy cols y x)) ∧ Below w.heap.size w w' := by
  obtain ⟨h1, h2, h3, h4⟩ := hn
  obtain ⟨h5, h6⟩ := hc
  obtain ⟨y1, y2⟩ := hy
  obtain ⟨x1, x2⟩ := hx
  obtain ⟨hm1, hm2⟩ := mul_dy (a := -dy) (b := cols - 1) (by omega) (by omega) (by omega) (by omega)
  obtain ⟨hp1, hp2⟩ := mul_dx h1 h2 y1 (by omega)
  obtain ⟨hq1, hq2⟩ := mul_dy h3 h4 x1 (by omega)
  have HL : Hid (lnum dx dy cols y x = dx * y - dy * x - min 0 (-dy * (cols - 1))) := hide rfl
  by_cases h : 0 ≤ -dy * (cols - 1)
  · have HR : Hid (lnum dx dy cols y x = dx * y - dy * x - 0) := hide (by rw [HL.out]; omega)
    go_enter Try.func112, Try.ntmps112
    go_wp2
    trace_state
    go_ret
    exact ⟨ret_int (by rw [HR.out]; omega), (Below.refl _ _).alloc (Nat.le_refl _) _⟩
  · have HR : Hid (lnum dx dy cols y x = dx * y - dy * x - (-dy * (cols - 1))) := hide (by rw [HL.out]; omega)
    go_enter Try.func112, Try.ntmps112
    go_wp2
    go_ret
    exact ⟨ret_int (by rw [HR.out]), (Below.refl _ _).alloc (Nat.le_refl _) _⟩
end Go.Proofs.Ytcliiefedmiokaa
