/-
  Texts of this claim, one behind the other: Ok, MatR, Img, White, Arr, SpecE, Dir, Each, Tail.
-/
import Derived.Test.YtinhdcchfeokpaaPackA
import Derived.Laws.CopyOwn
import Derived.Orders
import Derived.OrdersHeld
/-
  ImageOk, of the model and of the program.
-/
namespace Go.Proofs.Ytinhdcchfeokpaa
open Go.RowKit

def cellOk (x : Int) : Bool := x == 0 || x == 1
def rowOk (C : Nat) (r : List Int) : Bool := r.length == C && r.all cellOk
def widthM (m : List (List Int)) : Nat := (m.headD []).length
def okB (m : List (List Int)) : Bool := decide (1 ≤ m.length ∧ m.length ≤ 5) && decide (1 ≤ widthM m ∧ widthM m ≤ 5) && m.all (rowOk (widthM m))
theorem okB_no1 {m : List (List Int)} (h : ¬ (1 ≤ m.length ∧ m.length ≤ 5)) : okB m = false := by simp only [okB, decide_eq_false h, Bool.false_and]
theorem okB_no2 {m : List (List Int)} (h : ¬ (1 ≤ widthM m ∧ widthM m ≤ 5)) : okB m = false := by simp only [okB, decide_eq_false h, Bool.and_false, Bool.false_and]
theorem okB_no3 {m : List (List Int)} (k : Nat) (hk : k < m.length) (h : rowOk (widthM m) m[k] = false) : okB m = false := by
  have : m.all (rowOk (widthM m)) = false := by
    rw [Bool.eq_false_iff]; intro e
    rw [List.all_eq_true] at e
    have := e _ (List.getElem_mem hk)
    rw [h] at this; cases this
  simp only [okB, this, Bool.and_false]
theorem okB_yes {m : List (List Int)} (h1 : 1 ≤ m.length ∧ m.length ≤ 5) (h2 : 1 ≤ widthM m ∧ widthM m ≤ 5) (h3 : ∀ k, (h : k < m.length) → rowOk (widthM m) m[k] = true) : okB m = true := by
  have : m.all (rowOk (widthM m)) = true := by
    rw [List.all_eq_true]; intro r hr
    obtain ⟨k, hk, rfl⟩ := List.getElem_of_mem hr
    exact h3 k hk
  simp only [okB, decide_eq_true h1, decide_eq_true h2, this, Bool.and_self]
theorem rowOk_no1 {C : Nat} {r : List Int} (h : r.length ≠ C) : rowOk C r = false := by simp [rowOk, h]
theorem rowOk_no2 {C : Nat} {r : List Int} (j : Nat) (hj : j < r.length) (h : cellOk r[j] = false) : rowOk C r = false := by
  have : r.all cellOk = false := by
    rw [Bool.eq_false_iff]; intro e
    rw [List.all_eq_true] at e
    have := e _ (List.getElem_mem hj)
    rw [h] at this; cases this
  simp only [rowOk, this, Bool.and_false]
theorem rowOk_yes {C : Nat} {r : List Int} (h : r.length = C) (h3 : ∀ j, (h : j < r.length) → cellOk r[j] = true) : rowOk C r = true := by
  have : r.all cellOk = true := by
    rw [List.all_eq_true]; intro x hx
    obtain ⟨k, hk, rfl⟩ := List.getElem_of_mem hx
    exact h3 k hk
  simp [rowOk, h, this]
theorem cellOk_no {x : Int} (h0 : x ≠ 0) (h1 : x ≠ 1) : cellOk x = false := by simp [cellOk, h0, h1]
theorem width_at (m : List (List Int)) (h : 0 < m.length) : widthM m = m[0].length := by
  cases m with
  | nil => simp at h
  | cons r t => rfl

theorem l01In_any (n lo hi : Int) (w : World) :
    Calls Try.prog 17 #[.int .i64 n, .int .i64 lo, .int .i64 hi] w fun e w' => e = .returned (.bool (decide (lo ≤ n ∧ n ≤ hi))) ∧ w = w' := by
  by_cases h1 : lo ≤ n
  · by_cases h2 : n ≤ hi
    all_goals
      go_enter Try.func17, Try.ntmps17
      go_wp2
      go_ret
      exact ⟨ret_bool (by simp [h1, h2]; try omega), rfl⟩
  · go_enter Try.func17, Try.ntmps17
    go_wp2
    go_ret
    exact ⟨ret_bool (by simp; omega), rfl⟩
theorem sideOk_any (n : Int) (w : World) :
    Calls Try.prog 32 #[.int .i64 n] w fun e w' => e = .returned (.bool (decide (1 ≤ n ∧ n ≤ 5))) ∧ w = w' := by
  by_cases h1 : 1 ≤ n
  · by_cases h2 : n ≤ 5
    all_goals
      go_enter Try.func32, Try.ntmps32
      go_wp2
      go_ret
      exact ⟨ret_bool (by simp [h1, h2]; try omega), rfl⟩
  · go_enter Try.func32, Try.ntmps32
    go_wp2
    go_ret
    exact ⟨ret_bool (by simp; omega), rfl⟩
theorem colorOk_any (x : Int) (w : World) :
    Calls Try.prog 33 #[.int .i64 x] w fun e w' => e = .returned (.bool (cellOk x)) ∧ w = w' := by
  by_cases h1 : x = 0
  · subst h1
    go_enter Try.func33, Try.ntmps33
    go_wp2
    go_ret
    exact ⟨rfl, rfl⟩
  · have h0 : (x == 0) = false := by simp [h1]
    go_enter Try.func33, Try.ntmps33
    go_wp2
    go_ret
    exact ⟨ret_bool (by simp [cellOk, h1]), rfl⟩

set_option maxRecDepth 100000 in
set_option maxHeartbeats 1000000 in
theorem specImageOk_any (v : Value) (m : List (List Int)) (w : World) (hin : InMat w v m) :
    Calls Try.prog 21 #[v] w fun e w' => e = .returned (.bool (okB m)) ∧ w = w' := by
  obtain ⟨a, c, rfl, hm, hp⟩ := hin
  unfold maxLen at hm
  by_cases h1 : 1 ≤ m.length ∧ m.length ≤ 5
  · obtain ⟨g, o, rfl, hg, hcell⟩ := hp.resolve_left (by omega)
    have HC := hide hcell
    clear hp hcell
    have hpos : 0 < m.length := by omega
    obtain ⟨u0, hx0, hr0⟩ := HC.out 0 hpos
    rw [Nat.add_zero] at hx0
    obtain ⟨a0, c0, rfl, hm0, -⟩ := hr0
    unfold maxLen at hm0
    have HW := hide (width_at m hpos)
    have hrec : ∃ C, C = m[0].length := ⟨_, rfl⟩
    obtain ⟨C, hC⟩ := hrec
    rw [← hC] at hx0 hm0
    have HW : Hid (widthM m = C) := hide (by rw [HW.out, hC])
    clear hC
    have hR : decide ((1 : Int) ≤ m.length ∧ (m.length : Int) ≤ 5) = true := decide_eq_true (by omega)
    have HR := hide hR; clear hR
    by_cases h2 : 1 ≤ C ∧ C ≤ 5
    · have HK : Hid (decide ((1 : Int) ≤ C ∧ (C : Int) ≤ 5) = true) := hide (decide_eq_true (by omega))
      obtain ⟨R, hRR⟩ : ∃ R, R = m.length := ⟨_, rfl⟩
      have HL := hide hRR
      have H1 := hide h1; have H2 := hide h2
      rw [← hRR] at hm hpos HR h1 ⊢
      clear hRR
      go_enter Try.func21, Try.ntmps21
      go_wp2_with (first | (with_reducible refine (l01In_any (R : Int) 1 5 _).mono ?_; rw [HR.out]; rintro e w' ⟨rfl, rfl⟩) | (with_reducible refine (l01In_any (C : Int) 1 5 _).mono ?_; rw [HK.out]; rintro e w' ⟨rfl, rfl⟩))
      go_loop [21] (fun i => ∃ k : Nat, k ≤ R ∧ i = .int .i64 k ∧ ∀ t, (h : t < m.length) → t < k → rowOk C m[t] = true) (fun i => R - (intOf i).toNat)
      case atStart => exact ⟨0, Nat.zero_le _, rfl, fun t _ h => absurd h (Nat.not_lt_zero _)⟩
      case round =>
        obtain ⟨k, hk, rfl, hall⟩ := hrel
        have HA := hide hall
        clear hall
        by_cases hlt : k < R
        · have hk' : k < m.length := by rw [← HL.out]; exact hlt
          obtain ⟨u, hx, hr⟩ := HC.out k hk'
          obtain ⟨a', c', rfl, hm', hp'⟩ := hr
          unfold maxLen at hm'
          obtain ⟨n, hn⟩ : ∃ n, n = m[k].length := ⟨_, rfl⟩
          have HN := hide hn
          rw [← hn] at hx hm'
          by_cases hlen : n = C
          · subst hlen
            obtain ⟨g', o', rfl, hg', hcell'⟩ := hp'.resolve_left (by omega)
            have HC' := hide hcell'
            clear hp' hcell' hn
            go_wp2
            go_loop [34] (fun i => ∃ j : Nat, j ≤ n ∧ i = .int .i64 j ∧ ∀ t, (h : t < m[k].length) → t < j → cellOk m[k][t] = true) (fun i => n - (intOf i).toNat)
            case atStart => exact ⟨0, Nat.zero_le _, rfl, fun t _ h => absurd h (Nat.not_lt_zero _)⟩
            case round =>
              obtain ⟨j, hj, rfl, hall⟩ := hrel
              have HB := hide hall
              clear hall
              by_cases hlj : j < n
              · have hj' : j < m[k].length := by rw [← HN.out]; exact hlj
                have hy := HC'.out j hj'
                have hstep : cellOk m[k][j] = true → ∀ t, (h : t < m[k].length) → t < j + 1 → cellOk m[k][t] = true := fun hc t ht h => by
                  by_cases e : t = j
                  · subst e; exact hc
                  · exact HB.out t ht (by omega)
                have HS := hide hstep
                clear hstep
                have HNO := hide (fun h => okB_no3 (m := m) k hk' (by rw [HW.out]; exact rowOk_no2 j hj' h))
                obtain ⟨y, hyy⟩ : ∃ y, y = m[k][j] := ⟨_, rfl⟩
                rw [← hyy] at hy HS HNO
                clear hyy
                by_cases e0 : y = 0
                · subst e0
                  go_wp2
                  go_round
                  case rel => exact ⟨j + 1, by omega, by go_num, HS.out rfl⟩
                  case measure => simp [intOf]; omega
                · by_cases e1 : y = 1
                  · subst e1
                    clear e0
                    go_wp2
                    go_round
                    case rel => exact ⟨j + 1, by omega, by go_num, HS.out rfl⟩
                    case measure => simp [intOf]; omega
                  · have HF := hide (cellOk_no e0 e1)
                    have b0 : (y == 0) = false := by simp [e0]
                    have b1 : (y == 1) = false := by simp [e1]
                    have b2 : (y != 0) = true := by simp [e0]
                    have b3 : (y != 1) = true := by simp [e1]
                    clear e0 e1
                    go_wp2
                    go_ret
                    exact ⟨ret_bool (HNO.out HF.out).symm, rfl⟩
              · have HROW := hide (rowOk_yes (C := n) HN.out.symm (fun t ht => HB.out t ht (by have := HN.out; omega)))
                go_wp2
                go_round
                case rel =>
                  exact ⟨k + 1, by omega, by go_num, fun t ht h => by
                    by_cases e : t = k
                    · subst e; exact HROW.out
                    · exact HA.out t ht (by omega)⟩
                case measure => simp [intOf]; omega
          · have HF := hide (okB_no3 (m := m) k hk' (rowOk_no1 (by rw [HW.out, ← hn]; exact hlen)))
            clear hn
            have hne : ((n : Int) == (C : Int)) = false := by simp; omega
            go_wp2
            go_ret
            exact ⟨ret_bool HF.out.symm, rfl⟩
        · have HY := hide (okB_yes (m := m) H1.out (by rw [HW.out]; exact H2.out) (fun t ht => by rw [HW.out]; exact HA.out t ht (by have := HL.out; omega)))
          go_wp2
          go_ret
          exact ⟨ret_bool HY.out.symm, rfl⟩
    · have HK : Hid (decide ((1 : Int) ≤ C ∧ (C : Int) ≤ 5) = false) := hide (decide_eq_false (by omega))
      have HF := hide (okB_no2 (m := m) (by rw [HW.out]; exact h2))
      clear h1 h2
      go_enter Try.func21, Try.ntmps21
      go_wp2_with (first | (with_reducible refine (l01In_any (m.length : Int) 1 5 _).mono ?_; rw [HR.out]; rintro e w' ⟨rfl, rfl⟩) | (with_reducible refine (l01In_any (C : Int) 1 5 _).mono ?_; rw [HK.out]; rintro e w' ⟨rfl, rfl⟩))
      go_ret
      exact ⟨ret_bool HF.out.symm, rfl⟩
  · have HR : Hid (decide ((1 : Int) ≤ m.length ∧ (m.length : Int) ≤ 5) = false) := hide (decide_eq_false (by omega))
    have HF := hide (okB_no1 h1)
    clear hp h1
    go_enter Try.func21, Try.ntmps21
    go_wp2_with (first | (with_reducible refine (l01In_any (m.length : Int) 1 5 _).mono ?_; rw [HR.out]; rintro e w' ⟨rfl, rfl⟩))
    go_ret
    exact ⟨ret_bool HF.out.symm, rfl⟩

set_option maxRecDepth 100000 in
set_option maxHeartbeats 1000000 in
theorem implImageOk_any (v : Value) (m : List (List Int)) (w : World) (hin : InMat w v m) :
    Calls Try.prog 25 #[v] w fun e w' => e = .returned (.bool (okB m)) ∧ w = w' := by
  obtain ⟨a, c, rfl, hm, hp⟩ := hin
  unfold maxLen at hm
  by_cases h1 : 1 ≤ m.length ∧ m.length ≤ 5
  · obtain ⟨g, o, rfl, hg, hcell⟩ := hp.resolve_left (by omega)
    have HC := hide hcell
    clear hp hcell
    have hpos : 0 < m.length := by omega
    obtain ⟨u0, hx0, hr0⟩ := HC.out 0 hpos
    rw [Nat.add_zero] at hx0
    obtain ⟨a0, c0, rfl, hm0, -⟩ := hr0
    unfold maxLen at hm0
    have HW := hide (width_at m hpos)
    have hrec : ∃ C, C = m[0].length := ⟨_, rfl⟩
    obtain ⟨C, hC⟩ := hrec
    rw [← hC] at hx0 hm0
    have HW : Hid (widthM m = C) := hide (by rw [HW.out, hC])
    clear hC
    have hR : decide ((1 : Int) ≤ m.length ∧ (m.length : Int) ≤ 5) = true := decide_eq_true (by omega)
    have HR := hide hR; clear hR
    by_cases h2 : 1 ≤ C ∧ C ≤ 5
    · have HK : Hid (decide ((1 : Int) ≤ C ∧ (C : Int) ≤ 5) = true) := hide (decide_eq_true (by omega))
      obtain ⟨R, hRR⟩ : ∃ R, R = m.length := ⟨_, rfl⟩
      have HL := hide hRR
      have H1 := hide h1; have H2 := hide h2
      rw [← hRR] at hm hpos HR h1 ⊢
      clear hRR
      go_enter Try.func25, Try.ntmps25
      go_wp2_with (first | (with_reducible refine (sideOk_any (R : Int) _).mono ?_; rw [HR.out]; rintro e w' ⟨rfl, rfl⟩) | (with_reducible refine (sideOk_any (C : Int) _).mono ?_; rw [HK.out]; rintro e w' ⟨rfl, rfl⟩))
      go_loop [21] (fun i => ∃ k : Nat, k ≤ R ∧ i = .int .i64 k ∧ ∀ t, (h : t < m.length) → t < k → rowOk C m[t] = true) (fun i => R - (intOf i).toNat)
      case atStart => exact ⟨0, Nat.zero_le _, rfl, fun t _ h => absurd h (Nat.not_lt_zero _)⟩
      case round =>
        obtain ⟨k, hk, rfl, hall⟩ := hrel
        have HA := hide hall
        clear hall
        by_cases hlt : k < R
        · have hk' : k < m.length := by rw [← HL.out]; exact hlt
          obtain ⟨u, hx, hr⟩ := HC.out k hk'
          obtain ⟨a', c', rfl, hm', hp'⟩ := hr
          unfold maxLen at hm'
          obtain ⟨n, hn⟩ : ∃ n, n = m[k].length := ⟨_, rfl⟩
          have HN := hide hn
          rw [← hn] at hx hm'
          by_cases hlen : n = C
          · subst hlen
            obtain ⟨g', o', rfl, hg', hcell'⟩ := hp'.resolve_left (by omega)
            have HC' := hide hcell'
            clear hp' hcell' hn
            go_wp2
            go_loop [34] (fun i => ∃ j : Nat, j ≤ n ∧ i = .int .i64 j ∧ ∀ t, (h : t < m[k].length) → t < j → cellOk m[k][t] = true) (fun i => n - (intOf i).toNat)
            case atStart => exact ⟨0, Nat.zero_le _, rfl, fun t _ h => absurd h (Nat.not_lt_zero _)⟩
            case round =>
              obtain ⟨j, hj, rfl, hall⟩ := hrel
              have HB := hide hall
              clear hall
              by_cases hlj : j < n
              · have hj' : j < m[k].length := by rw [← HN.out]; exact hlj
                have hy := HC'.out j hj'
                have hstep : cellOk m[k][j] = true → ∀ t, (h : t < m[k].length) → t < j + 1 → cellOk m[k][t] = true := fun hc t ht h => by
                  by_cases e : t = j
                  · subst e; exact hc
                  · exact HB.out t ht (by omega)
                have HS := hide hstep
                clear hstep
                have HNO := hide (fun h => okB_no3 (m := m) k hk' (by rw [HW.out]; exact rowOk_no2 j hj' h))
                obtain ⟨y, hyy⟩ : ∃ y, y = m[k][j] := ⟨_, rfl⟩
                rw [← hyy] at hy HS HNO
                clear hyy
                by_cases e0 : y = 0
                · subst e0
                  go_wp2_with (go_at_call 33; refine (colorOk_any _ _).mono ?_; rw [show cellOk 0 = true from rfl]; rintro e w' ⟨rfl, rfl⟩)
                  go_round
                  case rel => exact ⟨j + 1, by omega, by go_num, HS.out rfl⟩
                  case measure => simp [intOf]; omega
                · by_cases e1 : y = 1
                  · subst e1
                    clear e0
                    go_wp2_with (go_at_call 33; refine (colorOk_any _ _).mono ?_; rw [show cellOk 1 = true from rfl]; rintro e w' ⟨rfl, rfl⟩)
                    go_round
                    case rel => exact ⟨j + 1, by omega, by go_num, HS.out rfl⟩
                    case measure => simp [intOf]; omega
                  · have HF := hide (cellOk_no e0 e1)
                    clear e0 e1
                    go_wp2_with (go_at_call 33; refine (colorOk_any _ _).mono ?_; rw [HF.out]; rintro e w' ⟨rfl, rfl⟩)
                    go_ret
                    exact ⟨ret_bool (HNO.out HF.out).symm, rfl⟩
              · have HROW := hide (rowOk_yes (C := n) HN.out.symm (fun t ht => HB.out t ht (by have := HN.out; omega)))
                go_wp2
                go_round
                case rel =>
                  exact ⟨k + 1, by omega, by go_num, fun t ht h => by
                    by_cases e : t = k
                    · subst e; exact HROW.out
                    · exact HA.out t ht (by omega)⟩
                case measure => simp [intOf]; omega
          · have HF := hide (okB_no3 (m := m) k hk' (rowOk_no1 (by rw [HW.out, ← hn]; exact hlen)))
            clear hn
            have hne : ((n : Int) == (C : Int)) = false := by simp; omega
            go_wp2
            go_ret
            exact ⟨ret_bool HF.out.symm, rfl⟩
        · have HY := hide (okB_yes (m := m) H1.out (by rw [HW.out]; exact H2.out) (fun t ht => by rw [HW.out]; exact HA.out t ht (by have := HL.out; omega)))
          go_wp2
          go_ret
          exact ⟨ret_bool HY.out.symm, rfl⟩
    · have HK : Hid (decide ((1 : Int) ≤ C ∧ (C : Int) ≤ 5) = false) := hide (decide_eq_false (by omega))
      have HF := hide (okB_no2 (m := m) (by rw [HW.out]; exact h2))
      clear h1 h2
      go_enter Try.func25, Try.ntmps25
      go_wp2_with (first | (with_reducible refine (sideOk_any (m.length : Int) _).mono ?_; rw [HR.out]; rintro e w' ⟨rfl, rfl⟩) | (with_reducible refine (sideOk_any (C : Int) _).mono ?_; rw [HK.out]; rintro e w' ⟨rfl, rfl⟩))
      go_ret
      exact ⟨ret_bool HF.out.symm, rfl⟩
  · have HR : Hid (decide ((1 : Int) ≤ m.length ∧ (m.length : Int) ≤ 5) = false) := hide (decide_eq_false (by omega))
    have HF := hide (okB_no1 h1)
    clear hp h1
    go_enter Try.func25, Try.ntmps25
    go_wp2_with (first | (with_reducible refine (sideOk_any (m.length : Int) _).mono ?_; rw [HR.out]; rintro e w' ⟨rfl, rfl⟩))
    go_ret
    exact ⟨ret_bool HF.out.symm, rfl⟩
end Go.Proofs.Ytinhdcchfeokpaa
/-
  What a call answers: a list of lists of its own, alone or with a bool.
-/
namespace Go.Proofs.Ytinhdcchfeokpaa
open Go.RowKit

/-- The call answers a list of lists of its own. -/
def MatRes (rows : List (List Int)) (w : World) (e : Ending) (w' : World) : Prop := ∃ v, e = .returned v ∧ OwnMat w' w.heap.size w'.heap.size v rows ∧ Below w.heap.size w w'
theorem matRes_nil {w w' : World} (h : Below w.heap.size w w') : MatRes [] w (.returned (.slice none 0 0)) w' := ⟨_, rfl, ownMat_nil _ _ _, h⟩
/-- The call answers a list of lists of its own, and a bool. -/
def MatRes2 (rows : List (List Int)) (b : Bool) (w : World) (e : Ending) (w' : World) : Prop := ∃ v, e = .returned (.tuple #[v, .bool b]) ∧ OwnMat w' w.heap.size w'.heap.size v rows ∧ Below w.heap.size w w'
theorem matRes2_nil {w w' : World} (h : Below w.heap.size w w') : MatRes2 [] false w (.returned (.tuple #[.slice none 0 0, .bool false])) w' := ⟨_, rfl, ownMat_nil _ _ _, h⟩
theorem ownMat_some {w : World} {lo hi : Nat} {v : Value} {m : List (List Int)} (h : OwnMat w lo hi v m) (h0 : 0 < m.length) : ∃ g c, v = .slice (some ⟨g, 0, none⟩) m.length c := by
  obtain ⟨vs, hv, -⟩ := h
  obtain ⟨g, c, rfl, -⟩ := own_some hv h0
  exact ⟨g, c, rfl⟩
end Go.Proofs.Ytinhdcchfeokpaa
/-
  Images by their cells: plain lists, what reads them and what owns them.
-/
namespace Go.Proofs.Ytinhdcchfeokpaa
open Go.RowKit

def rowF (C : Nat) (f : Nat → Int) : List Int := (List.range C).map f
/-- The list of R rows of C cells. -/
def mkM (R C : Nat) (f : Nat → Nat → Int) : List (List Int) := (List.range R).map fun y => rowF C (f y)
theorem rowF_len (C : Nat) (f : Nat → Int) : (rowF C f).length = C := by simp [rowF]
theorem rowF_at (C : Nat) (f : Nat → Int) (x : Nat) (h : x < (rowF C f).length) : (rowF C f)[x] = f x := by simp [rowF]
theorem mkM_len (R C : Nat) (f : Nat → Nat → Int) : (mkM R C f).length = R := by simp [mkM]
theorem mkM_at (R C : Nat) (f : Nat → Nat → Int) (y : Nat) (h : y < (mkM R C f).length) : (mkM R C f)[y] = rowF C (f y) := by simp [mkM]
theorem rowF_congr {C : Nat} {f g : Nat → Int} (h : ∀ x, x < C → f x = g x) : rowF C f = rowF C g := List.map_congr_left fun x hx => h x (List.mem_range.1 hx)
theorem mkM_congr {R C : Nat} {f g : Nat → Nat → Int} (h : ∀ y x, y < R → x < C → f y x = g y x) : mkM R C f = mkM R C g :=
  List.map_congr_left fun y hy => rowF_congr fun x hx => h y x (List.mem_range.1 hy) hx
theorem mkM_succ (R C : Nat) (f : Nat → Nat → Int) : mkM (R + 1) C f = mkM R C f ++ [rowF C (f R)] := by simp [mkM, List.range_succ]
theorem rowF_set (C : Nat) (f : Nat → Int) (x : Nat) (v : Int) : (rowF C f).set x v = rowF C fun j => if j = x then v else f j := by
  apply List.ext_getElem
  · simp [rowF]
  · intro j h1 h2
    rw [List.getElem_set]
    by_cases e : x = j
    · subst e; simp [rowF]
    · simp [rowF, e, Ne.symm e]
theorem mkM_set (R C : Nat) (f : Nat → Nat → Int) (y x : Nat) (v : Int) : (mkM R C f).set y (rowF C fun j => if j = x then v else f y j) = mkM R C fun a b => if a = y ∧ b = x then v else f a b := by
  apply List.ext_getElem
  · simp [mkM]
  · intro j h1 h2
    rw [List.getElem_set]
    by_cases e : y = j
    · subst e; simp [mkM]
    · simp [mkM, e, Ne.symm e]
theorem cells_mkM (R C : Nat) (f : Nat → Nat → Int) : cellsM (mkM R C f) = R * C := by
  induction R with
  | zero => simp [mkM, cellsM]
  | succ R ih =>
    rw [mkM_succ]
    simp only [cellsM, List.map_append, List.sum_append, List.map_cons, List.map_nil, List.sum_cons, List.sum_nil, rowF_len] at ih ⊢
    rw [ih, Nat.succ_mul]; omega

/-- The cells of a valid image. -/
structure Img (R C : Nat) (f : Nat → Nat → Int) : Prop where
  r1 : 1 ≤ R
  r2 : R ≤ 5
  c1 : 1 ≤ C
  c2 : C ≤ 5
  cell : ∀ y x, y < R → x < C → f y x = 0 ∨ f y x = 1
theorem ok_img {m : List (List Int)} (h : okB m = true) : ∃ R C f, m = mkM R C f ∧ Img R C f := by
  simp only [okB, Bool.and_eq_true, decide_eq_true_eq, List.all_eq_true] at h
  obtain ⟨⟨⟨h1, h2⟩, h3, h4⟩, h5⟩ := h
  have hrow : ∀ y, (hy : y < m.length) → m[y].length = widthM m ∧ ∀ x, (hx : x < m[y].length) → m[y][x] = 0 ∨ m[y][x] = 1 := fun y hy => by
    have := h5 _ (List.getElem_mem hy)
    simp only [rowOk, Bool.and_eq_true, beq_iff_eq, List.all_eq_true] at this
    refine ⟨this.1, fun x hx => ?_⟩
    have := this.2 _ (List.getElem_mem hx)
    simpa [cellOk] using this
  refine ⟨m.length, widthM m, fun y x => (m.getD y []).getD x 0, ?_, h1, h2, h3, h4, fun y x hy hx => ?_⟩
  · apply List.ext_getElem
    · simp [mkM]
    · intro y hy1 hy2
      rw [mkM_at]
      apply List.ext_getElem
      · rw [rowF_len, (hrow y hy1).1]
      · intro x hx1 hx2
        rw [rowF_at, List.getD_eq_getElem?_getD, List.getD_eq_getElem?_getD, List.getElem?_eq_getElem hy1, Option.getD_some, List.getElem?_eq_getElem hx1]; rfl
  · have hx' : x < m[y].length := by rw [(hrow y hy).1]; exact hx
    have := (hrow y hy).2 x hx'
    simpa [List.getD_eq_getElem?_getD, List.getElem?_eq_getElem hy, List.getElem?_eq_getElem hx'] using this
theorem width_mkM {R C : Nat} {f : Nat → Nat → Int} (h : 0 < R) : widthM (mkM R C f) = C := by
  rw [width_at _ (by rw [mkM_len]; exact h), mkM_at, rowF_len]
theorem img_ok {R C : Nat} {f : Nat → Nat → Int} (h : Img R C f) : okB (mkM R C f) = true := by
  have hw := width_mkM (C := C) (f := f) (show 0 < R by have := h.r1; omega)
  refine okB_yes (by rw [mkM_len]; exact ⟨h.r1, h.r2⟩) (by rw [hw]; exact ⟨h.c1, h.c2⟩) fun k hk => ?_
  rw [hw, mkM_at]
  have hk' : k < R := by rw [mkM_len] at hk; exact hk
  refine rowOk_yes (rowF_len _ _) fun j hj => ?_
  rw [rowF_len] at hj
  rw [rowF_at]
  rcases h.cell k j hk' hj with e | e <;> rw [e] <;> rfl

/-- An image that is read: its rows' slices and its cells. -/
theorem inMat_img {w : World} {v : Value} {R C : Nat} {f : Nat → Nat → Int} (h : InMat w v (mkM R C f)) (hR : 0 < R) (hC : 0 < C) :
    ∃ g o c, v = .slice (some ⟨g, o, none⟩) R c ∧ g < w.heap.size ∧ ∀ y, y < R → ∃ g' o' c', w.cell? ⟨g, o + y, none⟩ = some (.slice (some ⟨g', o', none⟩) C c') ∧ g' < w.heap.size ∧ ∀ x, x < C → w.cell? ⟨g', o' + x, none⟩ = some (.int .i64 (f y x)) := by
  obtain ⟨a, c, rfl, -, hp⟩ := h
  obtain ⟨g, o, rfl, hg, hc⟩ := hp.resolve_left (by rw [mkM_len]; omega)
  refine ⟨g, o, c, by rw [mkM_len], hg, fun y hy => ?_⟩
  obtain ⟨u, hu, hr⟩ := hc y (by rw [mkM_len]; exact hy)
  rw [mkM_at] at hr
  obtain ⟨a', c', rfl, -, hp'⟩ := hr
  obtain ⟨g', o', rfl, hg', hc'⟩ := hp'.resolve_left (by rw [rowF_len]; omega)
  rw [rowF_len] at hu
  refine ⟨g', o', c', hu, hg', fun x hx => ?_⟩
  rw [hc' x (by rw [rowF_len]; exact hx), rowF_at]

/-- A cell of an image that the call owns: where it lies, and the image with another number in it. -/
theorem ownMat_cell {w : World} {lo hi g n c R C : Nat} {f : Nat → Nat → Int} (h : OwnMat w lo hi (.slice (some ⟨g, 0, none⟩) n c) (mkM R C f)) (y x : Nat) (hy : y < R) (hx : x < C) :
    ∃ g' c', w.cell? ⟨g, y, none⟩ = some (.slice (some ⟨g', 0, none⟩) C c') ∧ w.cell? ⟨g', x, none⟩ = some (.int .i64 (f y x)) ∧ w.frozen? ⟨g', x, none⟩ = false ∧ lo ≤ g' ∧ g' < hi ∧
      ∀ z : Int, OwnMat (w.setCell ⟨g', x, none⟩ (.int .i64 z)) lo hi (.slice (some ⟨g, 0, none⟩) n c) (mkM R C fun a b => if a = y ∧ b = x then z else f a b) := by
  obtain ⟨u, hu, -, hr, hh, hset⟩ := ownMat_row h y (by rw [mkM_len]; exact hy)
  rw [mkM_at, rowF_len] at hr hset
  obtain ⟨g', c', rfl, hlo, -, -, -, hc, hf⟩ := own_some hr (by omega)
  refine ⟨g', c', hu, ?_, hf x, hlo, hh _ rfl, fun z => ?_⟩
  · rw [hc x hx, ints_at _ x (by rw [rowF_len]; exact hx), rowF_at]
  · obtain ⟨h1, h2⟩ := hr.stored x (.int .i64 z)
    rw [ints_set, rowF_set] at h1
    have := hset _ _ h1 (rowF_len _ _) h2
    rw [mkM_set] at this; exact this

/-- The image as rows of five numbers, -1 where it has no cell. -/
def imgF (R C : Nat) (f : Nat → Nat → Int) (i : Nat) : Int := if i / 5 < R ∧ i % 5 < C then f (i / 5) (i % 5) else -1
theorem imgF_at (R C : Nat) (f : Nat → Nat → Int) (y x : Nat) (h : x < 5) : imgF R C f (5 * y + x) = if y < R ∧ x < C then f y x else -1 := by
  rw [imgF, show (5 * y + x) / 5 = y by omega, show (5 * y + x) % 5 = x by omega]
theorem imgF_range {R C : Nat} {f : Nat → Nat → Int} (h : Img R C f) (i : Nat) : imgF R C f i = -1 ∨ imgF R C f i = 0 ∨ imgF R C f i = 1 := by
  unfold imgF
  split
  · rename_i hh; rcases h.cell _ _ hh.1 hh.2 with e | e <;> simp [e]
  · exact .inl rfl

/-- How many of the first k numbers have p. -/
def cnt (p : Nat → Bool) : Nat → Nat
  | 0 => 0
  | k + 1 => cnt p k + if p k then 1 else 0
theorem cnt_yes {p : Nat → Bool} {k : Nat} (h : p k = true) : cnt p (k + 1) = cnt p k + 1 := by rw [cnt, if_pos h]
theorem cnt_no {p : Nat → Bool} {k : Nat} (h : p k = false) : cnt p (k + 1) = cnt p k := by rw [cnt, if_neg (by simp [h])]; rfl
theorem cnt_skip {p : Nat → Bool} {k l : Nat} (hkl : k ≤ l) (h : ∀ i, k ≤ i → i < l → p i = false) : cnt p l = cnt p k := by
  induction l with
  | zero => obtain rfl : k = 0 := by omega
            rfl
  | succ l ih =>
    by_cases e : k = l + 1
    · rw [e]
    · rw [cnt_no (h l (by omega) (by omega)), ih (by omega) fun i h1 h2 => h i h1 (by omega)]
theorem cnt_le (p : Nat → Bool) (k : Nat) : cnt p k ≤ k := by
  induction k with
  | zero => exact Nat.le_refl _
  | succ k ih => rw [cnt]; split <;> omega
def zeroM (_y _x : Nat) : Int := 0
end Go.Proofs.Ytinhdcchfeokpaa
/-
  whiteImage.
-/
namespace Go.Proofs.Ytinhdcchfeokpaa
open Go.RowKit

def whiteF (r c : Int) (i : Nat) : Int := if r ≤ (i / 5 : Nat) ∨ c ≤ (i % 5 : Nat) then -1 else 0
def upF (F : Nat → Int) (k : Nat) (i : Nat) : Int := if i < k then F i else 0
theorem upF_zero (F : Nat → Int) : upF F 0 = fun _ => 0 := by funext i; simp [upF]
theorem upF_set (F : Nat → Int) (k : Nat) (v : Int) (h : F k = v) : (fun j => if j = k then v else upF F k j) = upF F (k + 1) := by
  funext j
  simp only [upF]
  by_cases e : j = k
  · subst e; simp [h]
  · rw [if_neg e]
    by_cases hl : j < k
    · rw [if_pos hl, if_pos (by omega)]
    · rw [if_neg hl, if_neg (by omega)]
theorem upF_skip (F : Nat → Int) (k : Nat) (h : F k = 0) : upF F k = upF F (k + 1) := by
  funext j
  simp only [upF]
  by_cases hl : j < k
  · rw [if_pos hl, if_pos (by omega)]
  · by_cases e : j = k
    · subst e; simp [h]
    · rw [if_neg hl, if_neg (by omega)]
theorem upF_all (F : Nat → Int) (n k : Nat) (h : n ≤ k) : ∀ i, i < n → upF F k i = F i := fun i hi => by rw [upF, if_pos (by omega)]
theorem whiteF_at (r c : Int) (y x : Nat) (h : x < 5) : whiteF r c (5 * y + x) = if r ≤ (y : Nat) ∨ c ≤ (x : Nat) then -1 else 0 := by
  rw [whiteF, show (5 * y + x) / 5 = y by omega, show (5 * y + x) % 5 = x by omega]

end Go.Proofs.Ytinhdcchfeokpaa
/-
  The program's images: imageOf, size, lists.
-/
namespace Go.Proofs.Ytinhdcchfeokpaa
open Go.RowKit

theorem results_vec_tmp {P : Program} {fn : Func} {p t : Tmp} {ty : TypeId} (h : fn.results = #[.cell p ty, .tmp t]) (tmps : Array Value) (w : World) (g n m : Nat) (T e : TypeId) (F : Nat → Int)
    (hp : tmps.getD p undef = .pointer (some ⟨g, 0, none⟩)) (hb : Blk w g T n F) (hu : P.underlying ty = some (.array m e)) (hi : (P.info? ty).map (·.size) = some n) :
    (results fn tmps).run P w = .ok (.tuple #[.agg (vec n F), tmps.getD t undef]) w := by
  have hp' : tmps[p]?.getD undef = .pointer (some ⟨g, 0, none⟩) := by simpa using hp
  simp [results, h, hp', asAddr, run_loadVar_row w g T ty (vec n F) (0, 0) _ hb hu rfl (by rw [hi, vec_size])]
theorem results_vec {P : Program} {fn : Func} {p : Tmp} {ty : TypeId} (h : fn.results = #[.cell p ty]) (tmps : Array Value) (w : World) (g n m : Nat) (T e : TypeId) (F : Nat → Int)
    (hp : tmps.getD p undef = .pointer (some ⟨g, 0, none⟩)) (hb : Blk w g T n F) (hu : P.underlying ty = some (.array m e)) (hi : (P.info? ty).map (·.size) = some n) :
    (results fn tmps).run P w = .ok (.agg (vec n F)) w :=
  results_cell_row h tmps w g T (vec n F) (0, 0) _ hp hb hu rfl (by rw [hi, vec_size])

/-- The rows so far: of row y the first x cells, too. -/
def upRow (R C : Nat) (f : Nat → Nat → Int) (y : Nat) (i : Nat) : Int := if i / 5 < y then imgF R C f i else whiteF R C i
theorem upRow_zero (R C : Nat) (f : Nat → Nat → Int) : upRow R C f 0 = whiteF R C := by funext i; simp [upRow]
theorem upRow_all (R C : Nat) (f : Nat → Nat → Int) : ∀ i, i < 25 → upRow R C f R i = imgF R C f i := by
  intro i hi
  unfold upRow
  split
  · rfl
  · rename_i h; rw [whiteF, if_pos (by left; omega), imgF, if_neg (by omega)]
theorem upRow_step (R C : Nat) (f : Nat → Nat → Int) (y : Nat) (hy : y < R) (hR : R ≤ 5) (hC : C ≤ 5) : splice (vecL 25 (upRow R C f y)) (y * 5) (ints (rowF C (f y))) = vecL 25 (upRow R C f (y + 1)) := by
  have hl : (splice (vecL 25 (upRow R C f y)) (y * 5) (ints (rowF C (f y)))).length = 25 := by
    rw [length_splice _ _ _ (by rw [vecL_len, ints_len, rowF_len]; omega), vecL_len]
  apply List.ext_getElem
  · rw [hl, vecL_len]
  · intro i h1 h2
    have hi : i < 25 := by rw [hl] at h1; exact h1
    simp only [splice, vecL, ints, rowF]
    simp only [List.getElem_append, List.length_take, List.length_map, List.length_range, List.getElem_take, List.getElem_map, List.getElem_range, List.getElem_drop]
    by_cases a : i < y * 5
    · have : i < min (y * 5) 25 := by omega
      simp only [this, dif_pos]
      rw [upRow, upRow, if_pos (by omega), if_pos (by omega)]
    · have h0 : ¬ i < min (y * 5) 25 := by omega
      simp only [h0, dif_neg, not_false_eq_true]
      by_cases b : i < y * 5 + C
      · have h3 : i - min (y * 5) 25 < C := by omega
        simp only [h3, dif_pos]
        rw [upRow, if_pos (by omega), imgF, if_pos (by omega), show i - min (y * 5) 25 = i % 5 by omega, show y = i / 5 by omega]
      · have h3 : ¬ i - min (y * 5) 25 < C := by omega
        simp only [h3, dif_neg, not_false_eq_true]
        rw [show y * 5 + C + (i - min (y * 5) 25 - C) = i by omega]
        by_cases d : i / 5 < y + 1
        · rw [upRow, if_neg (by omega), upRow, if_pos d, whiteF, if_pos (by right; omega), imgF, if_neg (by omega)]
        · rw [upRow, if_neg (by omega), upRow, if_neg d]

end Go.Proofs.Ytinhdcchfeokpaa
/-
  l02Empty of the model.
-/
namespace Go.Proofs.Ytinhdcchfeokpaa
open Go.RowKit

set_option maxHeartbeats 1000000 in
theorem l02Empty_any (R C : Nat) (w : World) (hR : R ≤ 5) (hC : C ≤ 5) :
    Calls Try.prog 37 #[.int .i64 R, .int .i64 C] w (MatRes (mkM R C zeroM) w) := by
  have HZ : Hid (ints (rowF C (zeroM 0)) = List.replicate C (.int .i64 0)) := hide (by
    apply List.ext_getElem
    · simp [ints, rowF]
    · intro i h1 h2; simp [ints, rowF, zeroM])
  go_enter Try.func37, Try.ntmps37
  go_wp2
  go_loopw [5, 6] (fun o i w' => ∃ (y : Nat) (v : Value), y ≤ R ∧ i = .int .i64 y ∧ v = o ∧ OwnMat w' w.heap.size w'.heap.size v (mkM y C zeroM) ∧ Below w.heap.size w w') (fun _ i _ => R - (intOf i).toNat)
  case atStart => exact ⟨0, _, by omega, rfl, rfl, ⟨[], World.ownsRow_made (base := w.heap.size) w #[] 0 (Nat.le_refl _) (Nat.zero_le _) rfl, (fun k e => by simp [Value.ownBlock] at e; subst e; simp), (fun i h => absurd h (Nat.not_lt_zero _)), fun i j _ h => absurd h (Nat.not_lt_zero _)⟩, (Below.refl _ _).alloc (Nat.le_refl _) _⟩
  case round =>
    obtain ⟨y, v, hy, rfl, rfl, hown, hb⟩ := hrel
    have HO := hide hown; have HB := hide hb
    clear hown hb
    by_cases hlt : y < R
    · have hyI : (y : Int) < R := by omega
      have hsz := HB.out.size
      go_wp2_with (first | (at_make; refine wpList_new wr.heap.size C (.int .i64 0) rfl _ _ rfl Try.underlying22 Try.infoInt rfl (by decide) rfl rfl (by omega) (Nat.le_refl _) ?_; intro w1 hown1 hb1 hg1; have O1 := hide (ownMat_below HO.out hb1); have HU : Hid (w1.ownsRow wr.heap.size 3 1 (.slice (some ⟨wr.heap.size, 0, none⟩) C C) (rowF C (zeroM y)).length (ints (rowF C (zeroM y)))) := hide (by rw [rowF_len, show ints (rowF C (zeroM y)) = List.replicate C (.int .i64 0) from HZ.out]; exact hown1); have HB1 := hide (HB.out.trans (hb1.mono hsz)); have hs1 := hb1.size; clear hown1 hb1 hg1; obtain ⟨vs, hv, hvh, hvr, hva⟩ := O1.out; have hvl := mkM_len y C zeroM; rw [hvl] at hv; have HV := hide hv; have HVR := hide hvr; have HVA := hide hva; clear hv hvh hvr hva hvl) | (at_builtin; refine wpList_push HV.out (.slice (some ⟨wr.heap.size, 0, none⟩) C C) (.slice none 0 0) rfl _ _ rfl Try.underlying25 Try.infoInts rfl (by decide) rfl rfl rfl (by omega) (by omega) ?_; intro v' w6 hown1 hb1 hg1))
      go_roundw
      case rel =>
        have hs6 := hb1.size
        have hp := ownMat_push (r := rowF C (zeroM y)) (hi' := w6.heap.size) HVR.out HVA.out (by rw [mkM_len]; exact HV.out) (by rw [rowF_len]; have := HU.out; rw [rowF_len] at this; exact this) hsz (by omega) (by omega) hg1 (by rw [mkM_len]; exact hown1) (fun k e => (hown1.lt k e).2)
        rw [← mkM_succ] at hp
        exact ⟨y + 1, _, by omega, by go_num, rfl, hp, HB1.out.trans (hb1.mono (by omega))⟩
      case measure => simp [intOf]; omega
    · obtain rfl : y = R := by omega
      go_wp2
      go_ret
      exact ⟨_, rfl, HO.out, HB.out⟩

end Go.Proofs.Ytinhdcchfeokpaa
/-
  Directions: toDirection, the model's gcd, DirectionOk of both.
-/
namespace Go.Proofs.Ytinhdcchfeokpaa
open Go.RowKit

/-- A direction that is valid. -/
def dirOk (dx dy : Int) : Bool := decide ((0 ≤ dx ∧ dx ≤ 3) ∧ (-3 ≤ dy ∧ dy ≤ 3)) && (Nat.gcd dx.natAbs dy.natAbs == 1) && (decide (0 < dx) || dy == 1)

theorem dir_range {dx dy : Int} (h : ¬ ((0 ≤ dx ∧ dx ≤ 3) ∧ (-3 ≤ dy ∧ dy ≤ 3))) : dirOk dx dy = false := by rw [dirOk, decide_eq_false h, Bool.false_and, Bool.false_and]
end Go.Proofs.Ytinhdcchfeokpaa
/-
  A region that draws its order, met operation by operation: what each leaves in its slot, whatever came up before it.
-/
namespace Go.Proofs.Ytinhdcchfeokpaa
open Go.RowKit

def unl (listed : Array Bool) : Nat → Nat
  | 0 => 0
  | k + 1 => unl listed k + if listed.getD k true then 0 else 1
theorem unl_set (listed : Array Bool) (i : Nat) (hi : listed.getD i true = false) : ∀ k, unl (listed.setIfInBounds i true) k + (if i < k then 1 else 0) = unl listed k
  | 0 => rfl
  | k + 1 => by
    have hlt : i < listed.size := by
      rcases Nat.lt_or_ge i listed.size with h' | h'
      · exact h'
      · simp [Array.getElem?_eq_none h'] at hi
    have ih := unl_set listed i hi k
    simp only [unl]
    by_cases e : i = k
    · subst e
      have h1 : (listed.setIfInBounds i true).getD i true = true := by simp [hlt]
      rw [h1, hi, if_neg (Nat.lt_irrefl i)] at *
      simp at ih ⊢; omega
    · rw [getD_set_ne true e]
      by_cases h : i < k
      · have h2 : (if i < k + 1 then 1 else 0) = 1 := if_pos (by omega)
        rw [if_pos h] at ih; rw [h2]; omega
      · have h2 : (if i < k + 1 then 1 else 0) = 0 := if_neg (by omega)
        rw [if_neg h] at ih; rw [h2]; omega

section
variable {P : Program} {md : Region.Mode} {ops : Array Oper} {Q : Exit → Act → World → Prop}

/-- Slot t is none that the region writes. -/
def outside (ops : Array Oper) (t : Tmp) : Bool := ops.all fun o => o.dst != some t
/-- Each slot is written once, and lies in the frame; each operation waits for earlier ones alone. -/
def orderly (md : Region.Mode) (n : Nat) : Nat → List Tmp → List Oper → Bool
  | _, _, [] => true
  | k, seen, o :: r => (match o.dst with | some d => decide (d < n) && !seen.contains d | none => true) && o.after.all (fun e => !Region.binds md e || decide (e.on < k)) && orderly md n (k + 1) (match o.dst with | some d => d :: seen | none => seen) r
theorem orderly_dst {md : Region.Mode} {n : Nat} : ∀ (l : List Oper) (k : Nat) (seen : List Tmp), orderly md n k seen l = true → ∀ (i : Nat) (o : Oper) (d : Tmp), l[i]? = some o → o.dst = some d → d < n ∧ d ∉ seen ∧ ∀ (j : Nat) (o' : Oper), l[j]? = some o' → i < j → o'.dst ≠ some d
  | [], _, _, _, i, o, d, h, _ => by simp at h
  | x :: r, k, seen, h, i, o, d, hi, hd => by
    simp only [orderly, Bool.and_eq_true] at h
    obtain ⟨⟨h1, -⟩, h2⟩ := h
    cases i with
    | zero =>
      simp only [List.getElem?_cons_zero, Option.some.injEq] at hi
      subst hi
      rw [hd] at h1 h2
      simp only [Bool.and_eq_true, decide_eq_true_eq, Bool.not_eq_true', List.contains_eq_mem, decide_eq_false_iff_not] at h1
      refine ⟨h1.1, h1.2, fun j o' hj hij e => ?_⟩
      cases j with
      | zero => omega
      | succ j =>
        simp only [List.getElem?_cons_succ] at hj
        exact (orderly_dst r (k + 1) (d :: seen) h2 j o' d hj e).2.1 (List.mem_cons_self)
    | succ i =>
      simp only [List.getElem?_cons_succ] at hi
      obtain ⟨q1, q2, q3⟩ := orderly_dst r (k + 1) _ h2 i o d hi hd
      refine ⟨q1, fun hs => q2 ?_, fun j o' hj hij => ?_⟩
      · cases x.dst with
        | none => exact hs
        | some d' => exact List.mem_cons_of_mem _ hs
      · cases j with
        | zero => omega
        | succ j =>
          simp only [List.getElem?_cons_succ] at hj
          exact q3 j o' hj (by omega)
theorem orderly_on {md : Region.Mode} {n : Nat} : ∀ (l : List Oper) (k : Nat) (seen : List Tmp), orderly md n k seen l = true → ∀ (i : Nat) (o : Oper), l[i]? = some o → ∀ e ∈ o.after, Region.binds md e = true → e.on < k + i
  | [], _, _, _, i, o, h => by simp at h
  | x :: r, k, seen, h, i, o, hi => by
    simp only [orderly, Bool.and_eq_true] at h
    obtain ⟨⟨-, h1⟩, h2⟩ := h
    cases i with
    | zero =>
      simp only [List.getElem?_cons_zero, Option.some.injEq] at hi
      subst hi
      intro e he hbd
      rw [Array.all_eq_true_iff_forall_mem] at h1
      have := h1 e he
      rw [hbd] at this
      simpa using this
    | succ i =>
      simp only [List.getElem?_cons_succ] at hi
      intro e he hbd
      have := orderly_on r (k + 1) _ h2 i o hi e he hbd
      omega

/-- The frame and the world while the region runs: what is listed holds in its slot. -/
structure Mid (ops : Array Oper) (a0 : Act) (S : World → Prop) (F : Nat → Value → World → Prop) (listed : Array Bool) (a : Act) (w : World) : Prop where
  size : listed.size = ops.size
  tmps : a.tmps.size = a0.tmps.size
  defers : a.defers = a0.defers
  out : ∀ t, outside ops t = true → a.tmps.getD t undef = a0.tmps.getD t undef
  world : S w
  held : ∀ (i : Nat) (o : Oper) (d : Tmp), ops[i]? = some o → o.dst = some d → listed.getD i false = true → F i (a.tmps.getD d undef) w

/-- What is asked of one operation: in whatever frame and world its forerunners have left, it ends, S stands, its slot holds what it should, and what held of the others still holds. -/
def Each (P : Program) (md : Region.Mode) (ops : Array Oper) (Q : Exit → Act → World → Prop) (a0 : Act) (S : World → Prop) (F : Nat → Value → World → Prop) (i : Nat) (o : Oper) : Prop :=
  ∀ (a : Act) (w : World), a.tmps.size = a0.tmps.size → a.defers = a0.defers → (∀ t, outside ops t = true → a.tmps.getD t undef = a0.tmps.getD t undef) → S w →
    (∀ e ∈ o.after, Region.binds md e = true → ∀ (oe : Oper) (d : Tmp), ops[e.on]? = some oe → oe.dst = some d → F e.on (a.tmps.getD d undef) w) →
    ∀ K : Act → World → Prop, (∀ v w', S w' → (∀ j u, F j u w → F j u w') → F i v w' → K (a.put o.dst v) w') → wpOp P ops Q i K a w

theorem ready_none {listed : Array Bool} (hs : listed.size = ops.size) (hon : ∀ (i : Nat) (o : Oper), ops[i]? = some o → ∀ e ∈ o.after, Region.binds md e = true → e.on < i) (h : Region.ready md ops listed = []) : ∀ i, i < ops.size → listed.getD i false = true := by
  intro i
  induction i using Nat.strongRecOn with
  | ind i ih =>
    intro hi
    cases hl : listed.getD i true with
    | true =>
      have hlt : i < listed.size := by omega
      simp [hlt] at hl ⊢; exact hl
    | false =>
      exfalso
      have : i ∈ Region.ready md ops listed := mem_ready.2 ⟨hl, ops[i], Array.getElem?_eq_getElem hi, fun e he hbd => ih e.on (hon i _ (Array.getElem?_eq_getElem hi) e he hbd) (by have := hon i _ (Array.getElem?_eq_getElem hi) e he hbd; omega)⟩
      rw [h] at this; cases this

theorem wpAny_each {a0 : Act} {S : World → Prop} {F : Nat → Value → World → Prop} (ho : orderly md a0.tmps.size 0 [] ops.toList = true)
    (hop : ∀ (i : Nat) (o : Oper), ops[i]? = some o → Each P md ops Q a0 S F i o)
    (hend : ∀ (a : Act) (w : World), a.tmps.size = a0.tmps.size → a.defers = a0.defers → (∀ t, outside ops t = true → a.tmps.getD t undef = a0.tmps.getD t undef) → S w → (∀ (i : Nat) (o : Oper) (d : Tmp), ops[i]? = some o → o.dst = some d → F i (a.tmps.getD d undef) w) → Q .normal a w) :
    ∀ (fuel : Nat) (listed : Array Bool) (a : Act) (w : World), Mid ops a0 S F listed a w → unl listed ops.size ≤ fuel → wpAny P md ops Q fuel listed a w := by
  have hon : ∀ (i : Nat) (o : Oper), ops[i]? = some o → ∀ e ∈ o.after, Region.binds md e = true → e.on < i := fun i o hi e he hbd => by
    have := orderly_on ops.toList 0 [] ho i o (by simpa using hi) e he hbd; omega
  have hdst : ∀ (i : Nat) (o : Oper) (d : Tmp), ops[i]? = some o → o.dst = some d → d < a0.tmps.size := fun i o d hi hd => (orderly_dst ops.toList 0 [] ho i o d (by simpa using hi) hd).1
  have hone : ∀ (i : Nat) (o : Oper) (d : Tmp), ops[i]? = some o → o.dst = some d → ∀ (j : Nat) (o' : Oper), ops[j]? = some o' → i ≠ j → o'.dst ≠ some d := fun i o d hi hd j o' hj hij e => by
    rcases Nat.lt_or_gt_of_ne hij with h | h
    · exact (orderly_dst ops.toList 0 [] ho i o d (by simpa using hi) hd).2.2 j o' (by simpa using hj) h e
    · exact (orderly_dst ops.toList 0 [] ho j o' d (by simpa using hj) e).2.2 i o (by simpa using hi) h hd
  have hfin : ∀ listed a w, Mid ops a0 S F listed a w → Region.ready md ops listed = [] → Q .normal a w := fun listed a w hm hr =>
    hend a w hm.tmps hm.defers hm.out hm.world fun i o d hi hd => hm.held i o d hi hd (ready_none hm.size hon hr i (Array.getElem?_eq_some_iff.1 hi).1)
  intro fuel
  induction fuel with
  | zero =>
    intro listed a w hm hf
    have hr : Region.ready md ops listed = [] := by
      rw [List.eq_nil_iff_forall_not_mem]
      intro i hi
      obtain ⟨hl, o, ho', -⟩ := mem_ready.1 hi
      have hlt : i < ops.size := (Array.getElem?_eq_some_iff.1 ho').1
      have := unl_set listed i hl ops.size
      rw [if_pos hlt] at this
      omega
    exact ⟨hr, hfin listed a w hm hr⟩
  | succ fuel ih =>
    intro listed a w hm hf
    refine ⟨fun hr => hfin listed a w hm hr, fun i hi => ?_⟩
    obtain ⟨hl, o, ho', hall⟩ := mem_ready.1 hi
    have hlt : i < ops.size := (Array.getElem?_eq_some_iff.1 ho').1
    refine hop i o ho' a w hm.tmps hm.defers hm.out hm.world (fun e he hb oe d hoe hd => hm.held e.on oe d hoe hd (hall e he hb)) _ fun v w' hS hst hF => ?_
    refine ih _ _ _ ⟨by simp [hm.size], ?_, ?_, fun t ht => ?_, hS, fun j oj d hj hd hlj => ?_⟩ ?_
    · cases o.dst <;> simp [Act.put, hm.tmps]
    · cases o.dst <;> simp [Act.put, hm.defers]
    · rw [← hm.out t ht]
      cases hd : o.dst with
      | none => rfl
      | some d =>
        have hne : d ≠ t := by
          intro e; subst e
          unfold outside at ht
          rw [Array.all_eq_true_iff_forall_mem] at ht
          have := ht o (Array.mem_of_getElem? ho')
          rw [hd] at this; simp at this
        simp [Act.put, Array.getElem?_setIfInBounds_ne hne]
    · by_cases e : i = j
      · subst e
        rw [ho'] at hj
        obtain rfl := Option.some.inj hj
        have hdl : d < a.tmps.size := by rw [hm.tmps]; exact hdst i o d ho' hd
        have : (a.put o.dst v).tmps.getD d undef = v := by rw [hd]; simp [Act.put, hdl]
        rw [this]; exact hF
      · have h1 : listed.getD j false = true := by rw [getD_set_ne false e] at hlj; exact hlj
        have h2 := hm.held j oj d hj hd h1
        have h3 : (a.put o.dst v).tmps.getD d undef = a.tmps.getD d undef := by
          cases hd' : o.dst with
          | none => rfl
          | some d' =>
            have hne : d' ≠ d := fun e' => hone j oj d hj hd i o ho' (Ne.symm e) (by rw [hd', e'])
            simp [Act.put, Array.getElem?_setIfInBounds_ne hne]
        rw [h3]; exact hst j _ h2
    · have := unl_set listed i hl ops.size
      rw [if_pos hlt] at this; omega

theorem wp_region_each {id : Nat} {a : Act} {w : World} {S : World → Prop} {F : Nat → Value → World → Prop} (hm : P.follows .mixedOrders = true) (ho : orderly .any a.tmps.size 0 [] ops.toList = true)
    (hS : S w.drew) (hop : ∀ (i : Nat) (o : Oper), ops[i]? = some o → Each P .any ops Q a S F i o)
    (hend : ∀ (a' : Act) (w' : World), a'.tmps.size = a.tmps.size → a'.defers = a.defers → (∀ t, outside ops t = true → a'.tmps.getD t undef = a.tmps.getD t undef) → S w' → (∀ (i : Nat) (o : Oper) (d : Tmp), ops[i]? = some o → o.dst = some d → F i (a'.tmps.getD d undef) w') → Q .normal a' w') :
    (Code.region id ops true).wp P Q a w := by
  refine wp_region_any hm (wpAny_each ho hop hend _ _ _ _ ⟨by simp, rfl, rfl, fun _ _ => rfl, hS, fun i o d hi _ hl => ?_⟩ ?_)
  · exfalso
    have hlt : i < ops.size := (Array.getElem?_eq_some_iff.1 hi).1
    simp [hlt] at hl
  · have : ∀ k, k ≤ ops.size → unl (Array.replicate ops.size false) k = k := by
      intro k
      induction k with
      | zero => intro _; rfl
      | succ k ih =>
        intro hk
        rw [unl, ih (by omega)]
        have : (Array.replicate ops.size false).getD k true = false := by simp [show k < ops.size by omega]
        rw [this]; rfl
    rw [this _ (Nat.le_refl _)]; exact Nat.le_refl _
end
end Go.Proofs.Ytinhdcchfeokpaa
/-
  A region that draws its order and whose last operation waits for all others: each met alone, the last one behind them.
-/
namespace Go.Proofs.Ytinhdcchfeokpaa
open Go.RowKit
section
variable {P : Program} {md : Region.Mode} {ops : Array Oper} {Q : Exit → Act → World → Prop}

/-- Each operation but the last has a later one that waits for it. -/
def tails (md : Region.Mode) (l : List Oper) : Bool :=
  (List.range (l.length - 1)).all fun j => (List.range l.length).any fun k => decide (j < k) && (match l[k]? with | some o => o.after.any (fun e => e.on == j && Region.binds md e) | none => false)
def Closed (md : Region.Mode) (ops : Array Oper) (listed : Array Bool) : Prop :=
  ∀ (k : Nat) (o : Oper), ops[k]? = some o → listed.getD k false = true → ∀ e ∈ o.after, Region.binds md e = true → listed.getD e.on false = true
theorem all_before {listed : Array Bool} (ht : tails md ops.toList = true) (hc : Closed md ops listed) {last : Oper} (hl : ops[ops.size - 1]? = some last)
    (hd : ∀ e ∈ last.after, Region.binds md e = true → listed.getD e.on false = true) : ∀ m j, ops.size - 1 - j ≤ m → j < ops.size - 1 → listed.getD j false = true
  | 0, j, hm, hj => by omega
  | m + 1, j, hm, hj => by
    have ht0 := ht
    unfold tails at ht
    rw [List.all_eq_true] at ht
    have := ht j (List.mem_range.2 (by simpa using hj))
    rw [List.any_eq_true] at this
    obtain ⟨k, hk, h⟩ := this
    rw [List.mem_range] at hk
    simp only [Bool.and_eq_true, decide_eq_true_eq] at h
    obtain ⟨hjk, h⟩ := h
    have hk' : k < ops.size := by simpa using hk
    have hko : ops.toList[k]? = some ops[k] := by simp [hk']
    rw [hko] at h
    simp only [Array.any_eq_true, Bool.and_eq_true, beq_iff_eq] at h
    obtain ⟨n, hn, he, hb⟩ := h
    have hmem : ops[k].after[n] ∈ ops[k].after := Array.getElem_mem hn
    by_cases e : k = ops.size - 1
    · subst e
      rw [Array.getElem?_eq_getElem hk'] at hl
      obtain rfl := Option.some.inj hl
      have := hd _ hmem hb
      rw [he] at this; exact this
    · have hkl := all_before ht0 hc hl hd m k (by omega) (by omega)
      have := hc k ops[k] (Array.getElem?_eq_getElem hk') hkl _ hmem hb
      rw [he] at this; exact this

theorem wpAny_tail {a0 : Act} {S : World → Prop} {F : Nat → Value → World → Prop} {last : Oper} (ho : orderly md a0.tmps.size 0 [] ops.toList = true) (ht : tails md ops.toList = true) (hl : ops[ops.size - 1]? = some last)
    (hop : ∀ (i : Nat) (o : Oper), ops[i]? = some o → i < ops.size - 1 → Each P md ops Q a0 S F i o)
    (hlast : ∀ (a : Act) (w : World), a.tmps.size = a0.tmps.size → a.defers = a0.defers → (∀ t, outside ops t = true → a.tmps.getD t undef = a0.tmps.getD t undef) → S w →
      (∀ (i : Nat) (o : Oper) (d : Tmp), ops[i]? = some o → i < ops.size - 1 → o.dst = some d → F i (a.tmps.getD d undef) w) → ∀ K : Act → World → Prop, (∀ a' w', Q .normal a' w' → K a' w') → wpOp P ops Q (ops.size - 1) K a w) :
    ∀ (fuel : Nat) (listed : Array Bool) (a : Act) (w : World), Mid ops a0 S F listed a w → Closed md ops listed → listed.getD (ops.size - 1) true = false → unl listed ops.size ≤ fuel → wpAny P md ops Q fuel listed a w := by
  have hlt0 : ops.size - 1 < ops.size := (Array.getElem?_eq_some_iff.1 hl).1
  have hon : ∀ (i : Nat) (o : Oper), ops[i]? = some o → ∀ e ∈ o.after, Region.binds md e = true → e.on < i := fun i o hi e he hbd => by
    have := orderly_on ops.toList 0 [] ho i o (by simpa using hi) e he hbd; omega
  have hdst : ∀ (i : Nat) (o : Oper) (d : Tmp), ops[i]? = some o → o.dst = some d → d < a0.tmps.size := fun i o d hi hd => (orderly_dst ops.toList 0 [] ho i o d (by simpa using hi) hd).1
  have hone : ∀ (i : Nat) (o : Oper) (d : Tmp), ops[i]? = some o → o.dst = some d → ∀ (j : Nat) (o' : Oper), ops[j]? = some o' → i ≠ j → o'.dst ≠ some d := fun i o d hi hd j o' hj hij e => by
    rcases Nat.lt_or_gt_of_ne hij with h | h
    · exact (orderly_dst ops.toList 0 [] ho i o d (by simpa using hi) hd).2.2 j o' (by simpa using hj) h e
    · exact (orderly_dst ops.toList 0 [] ho j o' d (by simpa using hj) e).2.2 i o (by simpa using hi) h hd
  intro fuel
  induction fuel with
  | zero =>
    intro listed a w hm hcl hul hf
    exfalso
    have := unl_set listed _ hul ops.size
    rw [if_pos hlt0] at this
    omega
  | succ fuel ih =>
    intro listed a w hm hcl hul hf
    refine ⟨fun hr => ?_, fun i hi => ?_⟩
    · exfalso
      have h1 := ready_none hm.size hon hr _ hlt0
      have hlt : ops.size - 1 < listed.size := by have := hm.size; omega
      simp [hlt] at hul h1
      rw [h1] at hul; cases hul
    obtain ⟨hul2, o, ho', hall⟩ := mem_ready.1 hi
    have hlt : i < ops.size := (Array.getElem?_eq_some_iff.1 ho').1
    by_cases e : i = ops.size - 1
    · subst e
      rw [hl] at ho'
      obtain rfl := Option.some.inj ho'
      have hab := fun j hj => all_before ht hcl hl hall _ j (Nat.le_refl _) hj
      refine hlast a w hm.tmps hm.defers hm.out hm.world (fun j oj d hj hjl hd => hm.held j oj d hj hd (hab j hjl)) _ fun a' w' hq => ?_
      have hrd : Region.ready md ops (listed.setIfInBounds (ops.size - 1) true) = [] := by
        rw [List.eq_nil_iff_forall_not_mem]
        intro j hj
        obtain ⟨hl', o', ho'', -⟩ := mem_ready.1 hj
        have hj' : j < ops.size := (Array.getElem?_eq_some_iff.1 ho'').1
        have hls : ops.size - 1 < listed.size := by have := hm.size; omega
        by_cases ej : ops.size - 1 = j
        · subst ej; simp [hls] at hl'
        · rw [getD_set_ne true ej] at hl'
          have h1 := hab j (by omega)
          have hjs : j < listed.size := by have := hm.size; omega
          simp [hjs] at hl' h1
          rw [h1] at hl'; cases hl'
      cases fuel with
      | zero => exact ⟨hrd, hq⟩
      | succ fuel => exact ⟨fun _ => hq, fun j hj => by rw [hrd] at hj; cases hj⟩
    · refine hop i o ho' (by omega) a w hm.tmps hm.defers hm.out hm.world (fun e he hb oe d hoe hd => hm.held e.on oe d hoe hd (hall e he hb)) _ fun v w' hS hst hF => ?_
      have hls : listed.size = ops.size := hm.size
      refine ih _ _ _ ⟨by simp [hm.size], ?_, ?_, fun t ht => ?_, hS, fun j oj d hj hd hlj => ?_⟩ (fun k ok hk hlk e' he' hb' => ?_) ?_ ?_
      · cases o.dst <;> simp [Act.put, hm.tmps]
      · cases o.dst <;> simp [Act.put, hm.defers]
      · rw [← hm.out t ht]
        cases hd : o.dst with
        | none => rfl
        | some d =>
          have hne : d ≠ t := by
            intro e; subst e
            unfold outside at ht
            rw [Array.all_eq_true_iff_forall_mem] at ht
            have := ht o (Array.mem_of_getElem? ho')
            rw [hd] at this; simp at this
          simp [Act.put, Array.getElem?_setIfInBounds_ne hne]
      · by_cases e : i = j
        · subst e
          rw [ho'] at hj
          obtain rfl := Option.some.inj hj
          have hdl : d < a.tmps.size := by rw [hm.tmps]; exact hdst i o d ho' hd
          have : (a.put o.dst v).tmps.getD d undef = v := by rw [hd]; simp [Act.put, hdl]
          rw [this]; exact hF
        · have h1 : listed.getD j false = true := by rw [getD_set_ne false e] at hlj; exact hlj
          have h2 := hm.held j oj d hj hd h1
          have h3 : (a.put o.dst v).tmps.getD d undef = a.tmps.getD d undef := by
            cases hd' : o.dst with
            | none => rfl
            | some d' =>
              have hne : d' ≠ d := fun e' => hone j oj d hj hd i o ho' (Ne.symm e) (by rw [hd', e'])
              simp [Act.put, Array.getElem?_setIfInBounds_ne hne]
          rw [h3]; exact hst j _ h2
      · have hne : i ≠ e'.on ∨ i = e'.on := (Nat.decEq i e'.on).byCases (fun h => .inr h) (fun h => .inl h)
        by_cases ek : i = k
        · subst ek
          rw [ho'] at hk
          obtain rfl := Option.some.inj hk
          have h1 := hall e' he' hb'
          have h2 : i ≠ e'.on := by have := hon i o ho' e' he' hb'; omega
          rw [getD_set_ne false h2]; exact h1
        · rw [getD_set_ne false ek] at hlk
          have h1 := hcl k ok hk hlk e' he' hb'
          by_cases e2 : i = e'.on
          · rw [← e2]; simp [show i < listed.size by omega]
          · rw [getD_set_ne false e2]; exact h1
      · rw [getD_set_ne true e]; exact hul
      · have := unl_set listed i hul2 ops.size
        rw [if_pos hlt] at this; omega

/-- What a slot holds, in a world. -/
abbrev FactP := Value → World → Prop
def isV (v : Value) : FactP := fun u _ => u = v
def factP (fs : List FactP) (i : Nat) : FactP := fs.getD i (isV undef)

def AllOps (ob : Nat → Oper → Prop) : Nat → List Oper → Prop
  | _, [] => True
  | k, o :: r => ob k o ∧ AllOps ob (k + 1) r
theorem allOps_at {ob : Nat → Oper → Prop} : ∀ (l : List Oper) (k : Nat), AllOps ob k l → ∀ (i : Nat) (o : Oper), l[i]? = some o → ob (k + i) o
  | [], _, _, i, o, h => by simp at h
  | x :: r, k, hl, i, o, h => by
    cases i with
    | zero => simp only [List.getElem?_cons_zero, Option.some.injEq] at h; subst h; exact hl.1
    | succ i =>
      simp only [List.getElem?_cons_succ] at h
      have := allOps_at r (k + 1) hl.2 i o h
      rwa [show k + 1 + i = k + (i + 1) by omega] at this

def depT (o : Oper) (j : Nat) : Bool := o.after.any fun e => e.on == j && Region.binds .any e
/-- What is asked of one operation, its forerunners' slots named. -/
def Obt (P : Program) (Q : Exit → Act → World → Prop) (base : List (Tmp × Value)) (dsts : List (Option Tmp)) (S : World → Prop) (fs : List FactP) (i : Nat) (o : Oper) : Prop :=
  ∀ (a : Act) (w : World), S w → (∀ t v, base.lookup t = some v → a.tmps.getD t undef = v) →
    (∀ j d, dsts[j]? = some (some d) → depT o j = true → factP fs j (a.tmps.getD d undef) w) →
    ∀ K : Act → World → Prop, (∀ v w', S w' → (∀ j u, factP fs j u w → factP fs j u w') → factP fs i v w' → K (a.put o.dst v) w') →
      (o.guard = none ∨ ∃ j d, o.guard = some (j, true) ∧ dsts[j]? = some (some d) ∧ a.tmps.getD d undef = .bool true) ∧ o.wp P a w K Q

theorem wp_region_tail {ops : Array Oper} {id : Nat} {a : Act} {w : World} {S : World → Prop} (fs : List FactP) (base : List (Tmp × Value)) (dsts : List (Option Tmp)) (last : Oper) (k : Nat)
    (hm : P.follows .mixedOrders = true) (hk : ops.size = k + 1) (hlk : ops[k]? = some last) (ho : orderly .any a.tmps.size 0 [] ops.toList = true) (ht : tails .any ops.toList = true) (hd : ops.toList.map (·.dst) = dsts)
    (hbo : base.all (fun p => outside ops p.1) = true) (hb : ∀ t v, base.lookup t = some v → a.tmps.getD t undef = v)
    (hS : S w.drew) (hob : AllOps (Obt P Q base dsts S fs) 0 ops.toList.dropLast) (hgl : last.guard = none)
    (hlast : ∀ (a' : Act) (w' : World), a'.tmps.size = a.tmps.size → a'.defers = a.defers → (∀ t, outside ops t = true → a'.tmps.getD t undef = a.tmps.getD t undef) → S w' →
      (∀ j d, dsts[j]? = some (some d) → j < k → factP fs j (a'.tmps.getD d undef) w') → ∀ K : Act → World → Prop, (∀ v w2, Q .normal (a'.put last.dst v) w2 → K (a'.put last.dst v) w2) → last.wp P a' w' K Q) :
    (Code.region id ops true).wp P Q a w := by
  have hl : ops[ops.size - 1]? = some last := by rw [hk]; exact hlk
  have hdst' : ∀ (j : Nat) (d : Tmp), dsts[j]? = some (some d) → ∃ o, ops[j]? = some o ∧ o.dst = some d := fun j d h => by
    rw [← hd, List.getElem?_map] at h
    cases hj : ops.toList[j]? with
    | none => rw [hj] at h; simp at h
    | some o =>
      rw [hj] at h
      exact ⟨o, by simpa using hj, by simpa using h⟩
  have hmem : ∀ (t : Tmp) (v : Value) (l : List (Tmp × Value)), l.lookup t = some v → ∃ p ∈ l, p.1 = t := fun t v l => by
    induction l with
    | nil => intro h; simp at h
    | cons x r ih =>
      intro h
      rw [List.lookup_cons] at h
      by_cases e : t == x.1
      · exact ⟨x, List.mem_cons_self, (by simpa using e : t = x.1).symm⟩
      · have e' : (t == x.1) = false := by simpa using e
        rw [e'] at h
        obtain ⟨p, hp, hpt⟩ := ih h
        exact ⟨p, List.mem_cons_of_mem _ hp, hpt⟩
  have hstart : ∀ k, k ≤ ops.size → unl (Array.replicate ops.size false) k = k := by
    intro k
    induction k with
    | zero => intro _; rfl
    | succ k ih =>
      intro hk
      rw [unl, ih (by omega)]
      have : (Array.replicate ops.size false).getD k true = false := by simp [show k < ops.size by omega]
      rw [this]; rfl
  refine wp_region_any hm (wpAny_tail (F := fun i u w => factP fs i u w) ho ht hl (fun i o hi hil a' w' hts hds hout hSw hdep K hK => ?_) (fun a' w' h1 h2 h3 h4 h5 K hK => ?_) _ _ _ _ ⟨by simp, rfl, rfl, fun _ _ => rfl, hS, fun i o d hi _ hl => ?_⟩ (fun k o hk hlk => ?_) ?_ ?_)
  · have hbase : ∀ t v, base.lookup t = some v → a'.tmps.getD t undef = v := fun t v h => by
      obtain ⟨p, hp, rfl⟩ := hmem t v base h
      rw [List.all_eq_true] at hbo
      rw [hout p.1 (hbo p hp)]; exact hb p.1 v h
    have hdep' : ∀ j d, dsts[j]? = some (some d) → depT o j = true → factP fs j (a'.tmps.getD d undef) w' := fun j d h he => by
      unfold depT at he
      rw [Array.any_eq_true] at he
      obtain ⟨n, hn, he⟩ := he
      simp only [Bool.and_eq_true, beq_iff_eq] at he
      obtain ⟨oe, hoe, hde⟩ := hdst' j d h
      have := hdep (o.after[n]) (Array.getElem_mem hn) he.2 oe d (by rw [he.1]; exact hoe) hde
      rw [he.1] at this; exact this
    have hip : ops.toList.dropLast[i]? = some o := by
      have : ops.toList[i]? = some o := by simpa using hi
      rw [List.getElem?_dropLast, if_pos (by simpa using hil)]; exact this
    have hobi := allOps_at _ 0 hob i o hip
    rw [Nat.zero_add] at hobi
    obtain ⟨hg, hwp⟩ := hobi a' w' hSw hbase hdep' K hK
    have hwant : Region.wanted o (yielded ops a'.tmps) = true := by
      rcases hg with hg | ⟨j, d, hg, hj, hv⟩
      · simp [Region.wanted, hg]
      · obtain ⟨oj, hoj, hdj⟩ := hdst' j d hj
        have h1 : a'.tmps[d]? = some (.bool true) := by
          cases h : a'.tmps[d]? with
          | none => simp [h] at hv; cases hv
          | some u => simp [h] at hv; rw [hv]
        simp [Region.wanted, hg, yielded, hoj, hdj, h1]
    unfold wpOp
    simp only [hi, hwant, if_true]
    exact .inl hwp
  · have hw := hlast a' w' h1 h2 h3 h4 (fun j d h hj => by
      obtain ⟨o, ho', hd'⟩ := hdst' j d h
      exact h5 j o d ho' (by omega) hd') K fun v w2 hq => hK _ _ hq
    unfold wpOp
    have hwant : Region.wanted last (yielded ops a'.tmps) = true := by simp [Region.wanted, hgl]
    simp only [hl, hwant, if_true]
    exact .inl hw
  · exfalso
    have hlt : i < ops.size := (Array.getElem?_eq_some_iff.1 hi).1
    simp [hlt] at hl
  · exfalso
    have hlt : k < ops.size := (Array.getElem?_eq_some_iff.1 hk).1
    simp [hlt] at hlk
  · have hlt : ops.size - 1 < ops.size := by omega
    simp [hlt]
  · rw [hstart _ (Nat.le_refl _)]; exact Nat.le_refl _
end
end Go.Proofs.Ytinhdcchfeokpaa
