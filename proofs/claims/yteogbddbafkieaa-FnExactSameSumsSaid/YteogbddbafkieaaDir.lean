/-
  Directions: toDirection, the model's gcd, DirectionOk of both.
-/
import Derived.Test.YteogbddbafkieaaOk
namespace Go.Proofs.Yteogbddbafkieaa
open Go.RowKit

/-- A direction that is valid. -/
def dirOk (dx dy : Int) : Bool := decide ((0 ≤ dx ∧ dx ≤ 3) ∧ (-3 ≤ dy ∧ dy ≤ 3)) && (Nat.gcd dx.natAbs dy.natAbs == 1) && (decide (0 < dx) || dy == 1)

set_option maxHeartbeats 400000 in
theorem toDirection_any (dx dy : Int) (w : World) :
    Calls Try.prog 23 #[.agg #[.int .i64 dx, .int .i64 dy]] w fun e w' => e = .returned (.agg #[.int .i64 dx, .int .i64 dy]) ∧ Below w.heap.size w w' := by
  go_enter Try.func23, Try.ntmps23
  go_wp2
  exact bodyPost_ret (v := .agg #[.int .i64 dx, .int .i64 dy]) (by simp [results, Try.results23, go_sem]) rfl ⟨rfl, (((Below.refl _ _).alloc (Nat.le_refl _) _).alloc (by simp) _).alloc (by simp; omega) _⟩

set_option maxHeartbeats 400000 in
theorem l03Gcd_any (a b : Int) (w : World) (ha : 0 ≤ a ∧ a ≤ 3) (hb : -3 ≤ b ∧ b ≤ 3) :
    Calls Try.prog 42 #[.int .i64 a, .int .i64 b] w fun e w' => e = .returned (.int .i64 (Nat.gcd a.natAbs b.natAbs)) ∧ w = w' := by
  obtain ⟨x, rfl⟩ : ∃ x : Nat, a = x := ⟨a.toNat, by omega⟩
  obtain ⟨y, hy⟩ : ∃ y : Nat, b = y ∨ (b = -(y : Int) ∧ 0 < y) := ⟨b.natAbs, by omega⟩
  have hG : Hid (Nat.gcd ((x : Int)).natAbs b.natAbs = Nat.gcd x y) := hide (by congr 1; omega)
  rw [hG.out]
  obtain ⟨G, hGG⟩ : ∃ G, G = Nat.gcd x y := ⟨_, rfl⟩
  rw [← hGG]
  have HG := hide hGG.symm
  clear hGG hG
  rcases hy with rfl | ⟨rfl, hpos⟩
  all_goals
    go_enter Try.func42, Try.ntmps42
    go_wp2
    go_loop [0, 1] (fun s t => ∃ p q : Nat, p ≤ 3 ∧ q ≤ 3 ∧ s = .int .i64 p ∧ t = .int .i64 q ∧ Nat.gcd p q = G) (fun _ t => (intOf t).toNat)
    case atStart => exact ⟨x, y, by omega, by omega, rfl, by simp, HG.out⟩
    case round =>
      obtain ⟨p, q, hp, hq, rfl, rfl, hpq⟩ := hrel
      have HP := hide hpq
      clear hpq
      by_cases h0 : q = 0
      · subst h0
        go_wp2
        go_ret
        exact ⟨ret_int (by have := HP.out; simp at this; omega), rfl⟩
      · have hb : ((q : Int) != 0) = true := by simp [h0]
        have hq0 : 0 < q := by omega
        have hlt := Nat.mod_lt p hq0
        go_wp2
        go_round
        case rel => exact ⟨q, p % q, by omega, by omega, rfl, by simp, by rw [Nat.gcd_comm, ← Nat.gcd_rec, Nat.gcd_comm]; exact HP.out⟩
        case measure => simp [intOf]; omega

set_option maxHeartbeats 1000000 in
theorem specDirectionOk_any (dx dy : Int) (w : World) :
    Calls Try.prog 22 #[.agg #[.int .i64 dx, .int .i64 dy]] w fun e w' => e = .returned (.bool (dirOk dx dy)) ∧ Below w.heap.size w w' := by
  by_cases h1 : 0 ≤ dx ∧ dx ≤ 3
  · have H1 := hide (decide_eq_true h1)
    by_cases h2 : -3 ≤ dy ∧ dy ≤ 3
    · have H2 := hide (decide_eq_true h2)
      have HG := fun w => l03Gcd_any dx dy w h1 h2
      obtain ⟨G, hG⟩ : ∃ G, G = Nat.gcd dx.natAbs dy.natAbs := ⟨_, rfl⟩
      rw [← hG] at HG
      have HH := hide HG
      clear HG
      have HR : Hid (dirOk dx dy = ((G == 1) && (decide (0 < dx) || dy == 1))) := hide (by rw [dirOk, decide_eq_true (show (0 ≤ dx ∧ dx ≤ 3) ∧ (-3 ≤ dy ∧ dy ≤ 3) from ⟨h1, h2⟩), ← hG, Bool.true_and])
      rw [HR.out]
      clear hG h1 h2
      by_cases h3 : G = 1
      · subst h3
        by_cases h4 : 0 < dx
        · go_enter Try.func22, Try.ntmps22
          go_wp2_with (first | (with_reducible refine (l01In_any dx 0 3 _).mono ?_; rw [H1.out]; rintro e w' ⟨rfl, rfl⟩) | (with_reducible refine (l01In_any dy (-3) 3 _).mono ?_; rw [H2.out]; rintro e w' ⟨rfl, rfl⟩) | (with_reducible refine (HH.out _).mono ?_; rintro e w' ⟨rfl, rfl⟩))
          go_ret
          exact ⟨ret_bool (by simp [h4]), (Below.refl _ _).alloc (Nat.le_refl _) _⟩
        · by_cases h5 : dy = 1
          · have hb : (dy == 1) = true := by simp [h5]
            clear h5
            go_enter Try.func22, Try.ntmps22
            go_wp2_with (first | (with_reducible refine (l01In_any dx 0 3 _).mono ?_; rw [H1.out]; rintro e w' ⟨rfl, rfl⟩) | (with_reducible refine (l01In_any dy (-3) 3 _).mono ?_; rw [H2.out]; rintro e w' ⟨rfl, rfl⟩) | (with_reducible refine (HH.out _).mono ?_; rintro e w' ⟨rfl, rfl⟩))
            go_ret
            exact ⟨ret_bool (by simp [hb]), (Below.refl _ _).alloc (Nat.le_refl _) _⟩
          · have hb : (dy == 1) = false := by simp [h5]
            clear h5
            go_enter Try.func22, Try.ntmps22
            go_wp2_with (first | (with_reducible refine (l01In_any dx 0 3 _).mono ?_; rw [H1.out]; rintro e w' ⟨rfl, rfl⟩) | (with_reducible refine (l01In_any dy (-3) 3 _).mono ?_; rw [H2.out]; rintro e w' ⟨rfl, rfl⟩) | (with_reducible refine (HH.out _).mono ?_; rintro e w' ⟨rfl, rfl⟩))
            go_ret
            exact ⟨ret_bool (by simp [hb]), (Below.refl _ _).alloc (Nat.le_refl _) _⟩
      · have hb : ((G : Int) == 1) = false := by simp; omega
        have hb2 : (G == 1) = false := by simp [h3]
        have HB := hide hb2
        clear hb2
        go_enter Try.func22, Try.ntmps22
        go_wp2_with (first | (with_reducible refine (l01In_any dx 0 3 _).mono ?_; rw [H1.out]; rintro e w' ⟨rfl, rfl⟩) | (with_reducible refine (l01In_any dy (-3) 3 _).mono ?_; rw [H2.out]; rintro e w' ⟨rfl, rfl⟩) | (with_reducible refine (HH.out _).mono ?_; rintro e w' ⟨rfl, rfl⟩))
        go_ret
        exact ⟨ret_bool (by rw [HB.out]; rfl), (Below.refl _ _).alloc (Nat.le_refl _) _⟩
    · have H2 := hide (decide_eq_false h2)
      have HR : Hid (dirOk dx dy = false) := hide (by rw [dirOk, decide_eq_false (fun h => h2 h.2), Bool.false_and, Bool.false_and])
      rw [HR.out]
      clear h1 h2
      go_enter Try.func22, Try.ntmps22
      go_wp2_with (first | (with_reducible refine (l01In_any dx 0 3 _).mono ?_; rw [H1.out]; rintro e w' ⟨rfl, rfl⟩) | (with_reducible refine (l01In_any dy (-3) 3 _).mono ?_; rw [H2.out]; rintro e w' ⟨rfl, rfl⟩))
      go_ret
      exact ⟨rfl, (Below.refl _ _).alloc (Nat.le_refl _) _⟩
  · have H1 := hide (decide_eq_false h1)
    have HR : Hid (dirOk dx dy = false) := hide (by rw [dirOk, decide_eq_false (fun h => h1 h.1), Bool.false_and, Bool.false_and])
    rw [HR.out]
    clear h1
    go_enter Try.func22, Try.ntmps22
    go_wp2_with (first | (with_reducible refine (l01In_any dx 0 3 _).mono ?_; rw [H1.out]; rintro e w' ⟨rfl, rfl⟩))
    go_ret
    exact ⟨rfl, (Below.refl _ _).alloc (Nat.le_refl _) _⟩

theorem dir_range {dx dy : Int} (h : ¬ ((0 ≤ dx ∧ dx ≤ 3) ∧ (-3 ≤ dy ∧ dy ≤ 3))) : dirOk dx dy = false := by rw [dirOk, decide_eq_false h, Bool.false_and, Bool.false_and]
set_option maxHeartbeats 4000000 in
theorem implDirectionOk_any (dx dy : Int) (w : World) :
    Calls Try.prog 24 #[.agg #[.int .i64 dx, .int .i64 dy]] w fun e w' => e = .returned (.bool (dirOk dx dy)) ∧ Below w.heap.size w w' := by
  by_cases h : (0 ≤ dx ∧ dx ≤ 3) ∧ (-3 ≤ dy ∧ dy ≤ 3)
  · have hx : dx = 0 ∨ dx = 1 ∨ dx = 2 ∨ dx = 3 := by omega
    have hy : dy = -3 ∨ dy = -2 ∨ dy = -1 ∨ dy = 0 ∨ dy = 1 ∨ dy = 2 ∨ dy = 3 := by omega
    clear h
    rcases hx with rfl | rfl | rfl | rfl <;> rcases hy with rfl | rfl | rfl | rfl | rfl | rfl | rfl
    all_goals
      go_enter Try.func24, Try.ntmps24
      go_wp2
      refine wp_loop_rounds 4 ?_
      repeat (rw [rounds_succ]; go_wp2)
      go_ret
      exact ⟨rfl, (Below.refl _ _).alloc (Nat.le_refl _) _⟩
  · rw [dir_range h]
    by_cases h1 : dx < 0
    · clear h
      go_enter Try.func24, Try.ntmps24
      go_wp2
      go_ret
      exact ⟨rfl, (Below.refl _ _).alloc (Nat.le_refl _) _⟩
    · by_cases h2 : 3 < dx
      · clear h
        go_enter Try.func24, Try.ntmps24
        go_wp2
        go_ret
        exact ⟨rfl, (Below.refl _ _).alloc (Nat.le_refl _) _⟩
      · by_cases h3 : dy < -3
        · clear h
          go_enter Try.func24, Try.ntmps24
          go_wp2
          go_ret
          exact ⟨rfl, (Below.refl _ _).alloc (Nat.le_refl _) _⟩
        · have h4 : 3 < dy := by omega
          clear h
          go_enter Try.func24, Try.ntmps24
          go_wp2
          go_ret
          exact ⟨rfl, (Below.refl _ _).alloc (Nat.le_refl _) _⟩
end Go.Proofs.Yteogbddbafkieaa
