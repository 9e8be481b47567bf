/-
  SwitchOk of the model.
-/
import Derived.Test.YtnhijmhambggbaaSwV
import Derived.Test.YtnhijmhambggbaaSpecI
namespace Go.Proofs.Ytnhijmhambggbaa
open Go.RowKit

set_option maxHeartbeats 400000 in
theorem specSwitchOk_no (v : Value) (m : List (List Int)) (s : Sw) (w : World) (hin : InMat w v m) (h : okB m = false) :
    Calls Try.prog 31 #[v, swV s] w fun e w' => e = .returned (.bool false) ∧ Below w.heap.size w w' := by
  have HI := hide hin; have H := hide h
  clear hin h
  go_enter Try.func31, Try.ntmps31
  go_wp2_with (first | (with_reducible refine wpList_boxSw s 3 rfl rfl (.tmp 1) rfl rfl ?_; intro w2 h2 b2 s2; clear s2; obtain ⟨c0, c1, c2, c3⟩ := swAt_cells h2) | ((with_reducible refine (l02In_no v m s.y1 s.x1 _ (inMat_below HI.out b2) H.out).mono ?_); rintro e w' ⟨rfl, rfl⟩))
  go_ret
  exact ⟨rfl, b2⟩
theorem swF_no {R C : Nat} {f : Nat → Nat → Int} {s : Sw} (h : ¬ ((0 ≤ s.y1 ∧ s.y1 < R ∧ 0 ≤ s.x1 ∧ s.x1 < C) ∧ (0 ≤ s.y2 ∧ s.y2 < R ∧ 0 ≤ s.x2 ∧ s.x2 < C) ∧ s.y1 < s.y2 ∧ s.x1 < s.x2)) : swF R C f s = false := by
  rw [Bool.eq_false_iff]
  intro e
  obtain ⟨a, b, c, d, rfl, hf⟩ := swF_iff.1 e
  obtain ⟨h1, h2, h3, h4, -⟩ := four_iff.1 hf
  exact h (by simp only; omega)
set_option maxHeartbeats 400000 in
theorem specSwitchOk_one (v : Value) (R C : Nat) (f : Nat → Nat → Int) (s : Sw) (w : World) (hin : InMat w v (mkM R C f)) (hI : Img R C f) (h1 : ¬ (0 ≤ s.y1 ∧ s.y1 < R ∧ 0 ≤ s.x1 ∧ s.x1 < C)) :
    Calls Try.prog 31 #[v, swV s] w fun e w' => e = .returned (.bool (swF R C f s)) ∧ Below w.heap.size w w' := by
  have HI := hide hin; have H := hide hI
  have H1 := hide (show false = true ↔ _ from ⟨fun e => (by cases e), fun e => absurd e h1⟩)
  have HF := hide (swF_no (R := R) (C := C) (f := f) fun e => h1 e.1)
  clear h1
  clear hin hI
  go_enter Try.func31, Try.ntmps31
  go_wp2_with (first | (with_reducible refine wpList_boxSw s 3 rfl rfl (.tmp 1) rfl rfl ?_; intro w2 h2 b2 s2; clear s2; obtain ⟨c0, c1, c2, c3⟩ := swAt_cells h2) | ((with_reducible refine (l02In_img v R C f s.y1 s.x1 _ (inMat_below HI.out b2) H.out false H1.out).mono ?_); rintro e w' ⟨rfl, rfl⟩))
  go_ret
  exact ⟨ret_bool HF.out.symm, b2⟩
set_option maxHeartbeats 400000 in
theorem specSwitchOk_two (v : Value) (R C : Nat) (f : Nat → Nat → Int) (s : Sw) (w : World) (hin : InMat w v (mkM R C f)) (hI : Img R C f) (h1 : 0 ≤ s.y1 ∧ s.y1 < R ∧ 0 ≤ s.x1 ∧ s.x1 < C) (h2 : ¬ (0 ≤ s.y2 ∧ s.y2 < R ∧ 0 ≤ s.x2 ∧ s.x2 < C)) :
    Calls Try.prog 31 #[v, swV s] w fun e w' => e = .returned (.bool (swF R C f s)) ∧ Below w.heap.size w w' := by
  have HI := hide hin; have H := hide hI
  have H1 := hide h1
  have H2 := hide (show false = true ↔ _ from ⟨fun e => (by cases e), fun e => absurd e h2⟩)
  have HF := hide (swF_no (R := R) (C := C) (f := f) fun e => h2 e.2.1)
  clear h1 h2
  clear hin hI
  go_enter Try.func31, Try.ntmps31
  go_wp2_with (first | (with_reducible refine wpList_boxSw s 3 rfl rfl (.tmp 1) rfl rfl ?_; intro w2 h2 b2 s2; clear s2; obtain ⟨c0, c1, c2, c3⟩ := swAt_cells h2) | ((with_reducible refine (l02In_img v R C f s.y1 s.x1 _ (inMat_below HI.out b2) H.out true ⟨fun _ => H1.out, fun _ => rfl⟩).mono ?_); rintro e w' ⟨rfl, rfl⟩) | ((with_reducible refine (l02In_img v R C f s.y2 s.x2 _ (inMat_below HI.out b2) H.out false H2.out).mono ?_); rintro e w' ⟨rfl, rfl⟩))
  go_ret
  exact ⟨ret_bool HF.out.symm, b2⟩
set_option maxHeartbeats 400000 in
theorem specSwitchOk_three (v : Value) (R C : Nat) (f : Nat → Nat → Int) (s : Sw) (w : World) (hin : InMat w v (mkM R C f)) (hI : Img R C f) (h1 : 0 ≤ s.y1 ∧ s.y1 < R ∧ 0 ≤ s.x1 ∧ s.x1 < C) (h2 : 0 ≤ s.y2 ∧ s.y2 < R ∧ 0 ≤ s.x2 ∧ s.x2 < C) (h3 : ¬ s.y1 < s.y2) :
    Calls Try.prog 31 #[v, swV s] w fun e w' => e = .returned (.bool (swF R C f s)) ∧ Below w.heap.size w w' := by
  have HI := hide hin; have H := hide hI
  have H1 := hide h1
  have H2 := hide h2
  have HF := hide (swF_no (R := R) (C := C) (f := f) fun e => h3 e.2.2.1)
  clear h1 h2
  clear hin hI
  go_enter Try.func31, Try.ntmps31
  go_wp2_with (first | (with_reducible refine wpList_boxSw s 3 rfl rfl (.tmp 1) rfl rfl ?_; intro w2 h2 b2 s2; clear s2; obtain ⟨c0, c1, c2, c3⟩ := swAt_cells h2) | ((with_reducible refine (l02In_img v R C f s.y1 s.x1 _ (inMat_below HI.out b2) H.out true ⟨fun _ => H1.out, fun _ => rfl⟩).mono ?_); rintro e w' ⟨rfl, rfl⟩) | ((with_reducible refine (l02In_img v R C f s.y2 s.x2 _ (inMat_below HI.out b2) H.out true ⟨fun _ => H2.out, fun _ => rfl⟩).mono ?_); rintro e w' ⟨rfl, rfl⟩))
  all_goals first
    | (exfalso; omega)
    | (go_ret; exact ⟨ret_bool HF.out.symm, b2⟩)
set_option maxHeartbeats 400000 in
theorem specSwitchOk_four (v : Value) (R C : Nat) (f : Nat → Nat → Int) (s : Sw) (w : World) (hin : InMat w v (mkM R C f)) (hI : Img R C f) (h1 : 0 ≤ s.y1 ∧ s.y1 < R ∧ 0 ≤ s.x1 ∧ s.x1 < C) (h2 : 0 ≤ s.y2 ∧ s.y2 < R ∧ 0 ≤ s.x2 ∧ s.x2 < C) (h3 : s.y1 < s.y2) (h4 : ¬ s.x1 < s.x2) :
    Calls Try.prog 31 #[v, swV s] w fun e w' => e = .returned (.bool (swF R C f s)) ∧ Below w.heap.size w w' := by
  have HI := hide hin; have H := hide hI
  have H1 := hide h1
  have H2 := hide h2
  have HF := hide (swF_no (R := R) (C := C) (f := f) fun e => h4 e.2.2.2)
  clear h1 h2
  clear hin hI
  go_enter Try.func31, Try.ntmps31
  go_wp2_with (first | (with_reducible refine wpList_boxSw s 3 rfl rfl (.tmp 1) rfl rfl ?_; intro w2 h2 b2 s2; clear s2; obtain ⟨c0, c1, c2, c3⟩ := swAt_cells h2) | ((with_reducible refine (l02In_img v R C f s.y1 s.x1 _ (inMat_below HI.out b2) H.out true ⟨fun _ => H1.out, fun _ => rfl⟩).mono ?_); rintro e w' ⟨rfl, rfl⟩) | ((with_reducible refine (l02In_img v R C f s.y2 s.x2 _ (inMat_below HI.out b2) H.out true ⟨fun _ => H2.out, fun _ => rfl⟩).mono ?_); rintro e w' ⟨rfl, rfl⟩))
  all_goals first
    | (exfalso; omega)
    | (go_ret; exact ⟨ret_bool HF.out.symm, b2⟩)
set_option maxHeartbeats 2000000 in
theorem specSwitchOk_five (v : Value) (R C : Nat) (f : Nat → Nat → Int) (a b c d : Nat) (w : World) (hin : InMat w v (mkM R C f)) (hI : Img R C f) (hab : a < b) (hcd : c < d) (hb : b < R) (hd : d < C) :
    Calls Try.prog 31 #[v, swV ⟨a, b, c, d⟩] w fun e w' => e = .returned (.bool (swF R C f ⟨a, b, c, d⟩)) ∧ Below w.heap.size w w' := by
  have HI := hide hin; have H := hide hI
  have H1 := hide (show 0 ≤ (a : Int) ∧ (a : Int) < R ∧ 0 ≤ (c : Int) ∧ (c : Int) < C by omega)
  have H2 := hide (show 0 ≤ (b : Int) ∧ (b : Int) < R ∧ 0 ≤ (d : Int) ∧ (d : Int) < C by omega)
  have hfa := hI.cell a c (by omega) (by omega)
  have HF : Hid (swF R C f ⟨a, b, c, d⟩ = (decide (f b d = f a c) && decide (f a d = 1 - f a c) && decide (f b c = 1 - f a c))) := hide (by
    unfold swF four
    simp only [Int.toNat_natCast]
    rw [decide_eq_true hab, decide_eq_true hcd, decide_eq_true hb, decide_eq_true hd, decide_eq_true (show (0 : Int) ≤ a by omega), decide_eq_true (show (0 : Int) ≤ c by omega), decide_eq_true (show (a : Int) < b by omega), decide_eq_true (show (c : Int) < d by omega)]
    simp only [Bool.true_and])
  rw [HF.out]
  obtain ⟨g, o, cap, rfl, hg, hcell⟩ := inMat_img hin (by omega) (by omega)
  obtain ⟨g1, o1, k1, hx1, hg1, hc1⟩ := hcell a (by omega)
  obtain ⟨g2, o2, k2, hx2, hg2, hc2⟩ := hcell b (by omega)
  have r1 := hc1 c (by omega); have r2 := hc1 d (by omega); have r3 := hc2 c (by omega); have r4 := hc2 d (by omega)
  obtain ⟨A, hA⟩ : ∃ A, A = f a c := ⟨_, rfl⟩
  obtain ⟨B, hB⟩ : ∃ B, B = f a d := ⟨_, rfl⟩
  obtain ⟨E, hE⟩ : ∃ E, E = f b c := ⟨_, rfl⟩
  obtain ⟨D, hD⟩ : ∃ D, D = f b d := ⟨_, rfl⟩
  rw [← hA] at r1 hfa ⊢; rw [← hB] at r2 ⊢; rw [← hE] at r3 ⊢; rw [← hD] at r4 ⊢
  have hw1 : IntKind.i64.wrap (1 - A) = 1 - A := IntWalk.i64_in _ (by omega)
  have hA0 : 0 ≤ A := by omega
  have hA1 : A ≤ 1 := by omega
  have haR : (a : Int) < R := by omega
  have hbR : (b : Int) < R := by omega
  have hcC : (c : Int) < C := by omega
  have hdC : (d : Int) < C := by omega
  have habI : (a : Int) < b := by omega
  have hcdI : (c : Int) < d := by omega
  have hle : ¬ (b : Int) ≤ a := by omega
  clear hin hI hcell hc1 hc2 hA hB hE hD hfa HF
  by_cases e1 : D = A
  · subst e1
    have k1 : (D == D) = true := beq_iff_eq.2 rfl
    by_cases e2 : B = 1 - D
    · subst e2
      have k2 : (1 - D == 1 - D) = true := beq_iff_eq.2 rfl
      by_cases e3 : E = 1 - D
      · subst e3
        go_enter Try.func31, Try.ntmps31
        go_wp2_with (first | (with_reducible refine wpList_boxSw ⟨a, b, c, d⟩ 3 rfl rfl (.tmp 1) rfl rfl ?_; intro w2 h2 b2 s2; clear s2; obtain ⟨c0, c1, c2, c3⟩ := swAt_cells h2; replace hx1 := below_cell b2 hg hx1; replace hx2 := below_cell b2 hg hx2; replace r1 := below_cell b2 hg1 r1; replace r2 := below_cell b2 hg1 r2; replace r3 := below_cell b2 hg2 r3; replace r4 := below_cell b2 hg2 r4) | ((with_reducible refine (l02In_img _ R C f a c _ (inMat_below HI.out b2) H.out true ⟨fun _ => H1.out, fun _ => rfl⟩).mono ?_); rintro e w' ⟨rfl, rfl⟩) | ((with_reducible refine (l02In_img _ R C f b d _ (inMat_below HI.out b2) H.out true ⟨fun _ => H2.out, fun _ => rfl⟩).mono ?_); rintro e w' ⟨rfl, rfl⟩))
        go_quiet (fail)
        go_wp2
        go_quiet (fail)
        go_wp2
        go_ret
        exact ⟨ret_bool (by rw [Bool.eq_iff_iff]; simp), below_draws (below_draws b2 _) _⟩
      · have k3 : (E == 1 - D) = false := beq_eq_false_iff_ne.2 e3
        have E3 := hide e3
        clear e3
        go_enter Try.func31, Try.ntmps31
        go_wp2_with (first | (with_reducible refine wpList_boxSw ⟨a, b, c, d⟩ 3 rfl rfl (.tmp 1) rfl rfl ?_; intro w2 h2 b2 s2; clear s2; obtain ⟨c0, c1, c2, c3⟩ := swAt_cells h2; replace hx1 := below_cell b2 hg hx1; replace hx2 := below_cell b2 hg hx2; replace r1 := below_cell b2 hg1 r1; replace r2 := below_cell b2 hg1 r2; replace r3 := below_cell b2 hg2 r3; replace r4 := below_cell b2 hg2 r4) | ((with_reducible refine (l02In_img _ R C f a c _ (inMat_below HI.out b2) H.out true ⟨fun _ => H1.out, fun _ => rfl⟩).mono ?_); rintro e w' ⟨rfl, rfl⟩) | ((with_reducible refine (l02In_img _ R C f b d _ (inMat_below HI.out b2) H.out true ⟨fun _ => H2.out, fun _ => rfl⟩).mono ?_); rintro e w' ⟨rfl, rfl⟩))
        go_quiet (fail)
        go_wp2
        go_quiet (fail)
        go_wp2
        go_ret
        exact ⟨ret_bool (by rw [Bool.eq_iff_iff]; simp [E3.out]), below_draws (below_draws b2 _) _⟩
    · have k2 : (B == 1 - D) = false := beq_eq_false_iff_ne.2 e2
      have E2 := hide e2
      clear e2
      go_enter Try.func31, Try.ntmps31
      go_wp2_with (first | (with_reducible refine wpList_boxSw ⟨a, b, c, d⟩ 3 rfl rfl (.tmp 1) rfl rfl ?_; intro w2 h2 b2 s2; clear s2; obtain ⟨c0, c1, c2, c3⟩ := swAt_cells h2; replace hx1 := below_cell b2 hg hx1; replace hx2 := below_cell b2 hg hx2; replace r1 := below_cell b2 hg1 r1; replace r2 := below_cell b2 hg1 r2; replace r3 := below_cell b2 hg2 r3; replace r4 := below_cell b2 hg2 r4) | ((with_reducible refine (l02In_img _ R C f a c _ (inMat_below HI.out b2) H.out true ⟨fun _ => H1.out, fun _ => rfl⟩).mono ?_); rintro e w' ⟨rfl, rfl⟩) | ((with_reducible refine (l02In_img _ R C f b d _ (inMat_below HI.out b2) H.out true ⟨fun _ => H2.out, fun _ => rfl⟩).mono ?_); rintro e w' ⟨rfl, rfl⟩))
      go_quiet (fail)
      go_wp2
      go_quiet (fail)
      go_wp2
      go_ret
      exact ⟨ret_bool (by rw [Bool.eq_iff_iff]; simp [E2.out]), below_draws (below_draws b2 _) _⟩
  · have k1 : (D == A) = false := beq_eq_false_iff_ne.2 e1
    have E1 := hide e1
    clear e1
    go_enter Try.func31, Try.ntmps31
    go_wp2_with (first | (with_reducible refine wpList_boxSw ⟨a, b, c, d⟩ 3 rfl rfl (.tmp 1) rfl rfl ?_; intro w2 h2 b2 s2; clear s2; obtain ⟨c0, c1, c2, c3⟩ := swAt_cells h2; replace hx1 := below_cell b2 hg hx1; replace hx2 := below_cell b2 hg hx2; replace r1 := below_cell b2 hg1 r1; replace r2 := below_cell b2 hg1 r2; replace r3 := below_cell b2 hg2 r3; replace r4 := below_cell b2 hg2 r4) | ((with_reducible refine (l02In_img _ R C f a c _ (inMat_below HI.out b2) H.out true ⟨fun _ => H1.out, fun _ => rfl⟩).mono ?_); rintro e w' ⟨rfl, rfl⟩) | ((with_reducible refine (l02In_img _ R C f b d _ (inMat_below HI.out b2) H.out true ⟨fun _ => H2.out, fun _ => rfl⟩).mono ?_); rintro e w' ⟨rfl, rfl⟩))
    go_quiet (fail)
    go_wp2
    go_quiet (fail)
    go_wp2
    go_ret
    exact ⟨ret_bool (by rw [Bool.eq_iff_iff]; simp [E1.out]), below_draws (below_draws b2 _) _⟩
theorem specSwitchOk_img (v : Value) (R C : Nat) (f : Nat → Nat → Int) (s : Sw) (w : World) (hin : InMat w v (mkM R C f)) (hI : Img R C f) :
    Calls Try.prog 31 #[v, swV s] w fun e w' => e = .returned (.bool (swF R C f s)) ∧ Below w.heap.size w w' := by
  by_cases h1 : 0 ≤ s.y1 ∧ s.y1 < R ∧ 0 ≤ s.x1 ∧ s.x1 < C
  · by_cases h2 : 0 ≤ s.y2 ∧ s.y2 < R ∧ 0 ≤ s.x2 ∧ s.x2 < C
    · by_cases h3 : s.y1 < s.y2
      · by_cases h4 : s.x1 < s.x2
        · obtain ⟨y1, y2, x1, x2⟩ := s
          simp only at h1 h2 h3 h4
          obtain ⟨a, rfl⟩ : ∃ a : Nat, y1 = a := ⟨y1.toNat, by omega⟩
          obtain ⟨b, rfl⟩ : ∃ b : Nat, y2 = b := ⟨y2.toNat, by omega⟩
          obtain ⟨c, rfl⟩ : ∃ c : Nat, x1 = c := ⟨x1.toNat, by omega⟩
          obtain ⟨d, rfl⟩ : ∃ d : Nat, x2 = d := ⟨x2.toNat, by omega⟩
          exact specSwitchOk_five v R C f a b c d w hin hI (by omega) (by omega) (by omega) (by omega)
        · exact specSwitchOk_four v R C f s w hin hI h1 h2 h3 h4
      · exact specSwitchOk_three v R C f s w hin hI h1 h2 h3
    · exact specSwitchOk_two v R C f s w hin hI h1 h2
  · exact specSwitchOk_one v R C f s w hin hI h1
end Go.Proofs.Ytnhijmhambggbaa
