/-
  MostIn of the program and of the model.
-/
import Derived.Test.YtcpmocjdkfkliaaExistS
namespace Go.Proofs.Ytcpmocjdkfkliaa
open Go.RowKit

/-- What MostIn returns. -/
def mostOf (r : List Int) (k n : Int) : Int := if conjOk r n = true ∧ 0 ≤ k ∧ k ≤ n then ((conjL r n.toNat).take k.toNat).sum else -1
theorem conjOk_yes {r : List Int} {n : Int} (h : conjOk r n = true) : (1 ≤ n ∧ n ≤ 5) ∧ r.length ≤ 5 ∧ r.any (badB n) = false := by
  simpa [conjOk] using h
theorem most_step (r : List Int) (k : Nat) : (r.map fun x => min x ((k : Int) + 1)).sum = (r.map fun x => min x (k : Int)).sum + (atLeast ((k : Int) + 1) r : Nat) := by
  induction r with
  | nil => rfl
  | cons x r ih =>
    rw [List.map_cons, List.map_cons, List.sum_cons, List.sum_cons, ih, atLeast, atLeast, List.countP_cons]
    by_cases h : (k : Int) + 1 ≤ x
    · rw [if_pos (decide_eq_true h)]; omega
    · rw [if_neg (by simpa using h)]; omega
theorem most_sum {r : List Int} {n : Nat} (hr : ∀ x ∈ r, 0 ≤ x) : ∀ k, k ≤ n → (r.map fun x => min x (k : Int)).sum = ((conjL r n).take k).sum := by
  intro k
  induction k with
  | zero =>
    intro _
    have h : (r.map fun x => min x ((0 : Nat) : Int)) = r.map fun _ => 0 := List.map_congr_left fun x hx => by have := hr x hx; omega
    rw [h]
    clear h hr
    induction r with
    | nil => rfl
    | cons x r ih => rw [List.map_cons, List.sum_cons, ih]; simp
  | succ k ih =>
    intro hk
    have hl : (conjL r n).length = n := by rw [conjL, tabL_len]
    have ha : (conjL r n)[k]'(by omega) = ((atLeast (k + 1) r : Nat) : Int) := tabL_at _
    rw [sum_snoc _ k (by omega), ← ih (by omega), ha]
    exact most_step r k
set_option maxHeartbeats 1000000 in
theorem implMost_any (v : Value) (r : List Int) (k n : Int) (w : World) (hin : InRow w v r) :
    Calls Try.prog 22 #[v, .int .i64 k, .int .i64 n] w fun e w' => e = .returned (.int .i64 (mostOf r k n)) ∧ Below w.heap.size w w' := by
  have HI := hide hin
  have heqn := fun (w : World) (a : Option Addr) (n c : Nat) => Lib.run_eql_slice_nil (P := Try.prog) w 22 3 a n c 0 0 Try.underlying22
  clear hin
  cases h : conjOk r n with
  | false =>
    have HR : Hid (conjRes r n = []) := hide (by rw [conjRes, if_neg (by rw [h]; decide)])
    rw [mostOf, if_neg (by rw [h]; simp)]
    clear h
    go_enter Try.func22, Try.ntmps22
    go_wp2_with fail
    refine (implConj_nil v r n _ HI.out).mono ?_
    rw [HR.out]
    rintro e w1 ⟨⟨u, -, -, hb⟩, he⟩
    rw [he rfl]
    have HB := hide hb
    clear hb he
    go_wp2
    go_ret
    exact ⟨rfl, HB.out⟩
  | true =>
    obtain ⟨hn, hr, hrb⟩ := conjOk_yes h
    obtain ⟨m, rfl⟩ : ∃ m : Nat, n = m := ⟨n.toNat, by omega⟩
    have HR := hide (conj_yes (l := r) (n := m) (by omega) hr hrb)
    have HL : Hid ((conjL r m).length = m) := hide (by rw [conjL, tabL_len])
    have HS := hide (small_conj (n := m) hr (by omega))
    obtain ⟨hn1, hn2⟩ := hn
    by_cases hk : 0 ≤ k ∧ k ≤ m
    · rw [mostOf, if_pos ⟨h, hk.1, hk.2⟩, Int.toNat_natCast]
      obtain ⟨q, rfl⟩ : ∃ q : Nat, k = q := ⟨k.toNat, by omega⟩
      rw [Int.toNat_natCast]
      have hqm : q ≤ m := by omega
      have HT := hide (small_take HS.out q)
      obtain ⟨X, hX⟩ : ∃ X, X = ((conjL r m).take q).sum := ⟨_, rfl⟩
      have HX := hide hX
      rw [← hX]
      obtain ⟨hk1, hk2⟩ := hk
      clear h hr hrb hX
      go_enter Try.func22, Try.ntmps22
      go_wp2_with fail
      refine (implConj_any v r m _ HI.out).mono ?_
      rw [HR.out]
      rintro e w1 ⟨u, rfl, ho, hb⟩
      obtain ⟨g1, c1, rfl, h1, h2, h3, -⟩ := rowAt_own ho (by rw [HL.out]; omega)
      have HR1 := hide (rowAt_take (rowAt_own ho (by rw [HL.out]; omega)) (show q ≤ (conjL r m).length by rw [HL.out]; exact hqm))
      have HB := hide hb
      rw [HL.out] at h1 ⊢
      unfold maxLen at h2
      clear ho hb
      go_wp2_with fail
      refine (totalOf_any _ _ _ HR1.out HT.out).mono ?_
      rw [← HX.out]
      rintro e w' ⟨rfl, rfl⟩
      go_wp2
      go_ret
      exact ⟨rfl, HB.out⟩
    · rw [mostOf, if_neg (fun h => hk h.2)]
      clear h hr hrb
      by_cases hk0 : k < 0
      · go_enter Try.func22, Try.ntmps22
        go_wp2_with fail
        refine (implConj_any v r m _ HI.out).mono ?_
        rw [HR.out]
        rintro e w1 ⟨u, rfl, ho, hb⟩
        obtain ⟨g1, c1, rfl, h1, h2, h3, -⟩ := rowAt_own ho (by rw [HL.out]; omega)
        have HB := hide hb
        rw [HL.out] at h1 ⊢
        clear ho hb
        go_wp2
        go_ret
        exact ⟨rfl, HB.out⟩
      · have hk1 : (m : Int) < k := by omega
        go_enter Try.func22, Try.ntmps22
        go_wp2_with fail
        refine (implConj_any v r m _ HI.out).mono ?_
        rw [HR.out]
        rintro e w1 ⟨u, rfl, ho, hb⟩
        obtain ⟨g1, c1, rfl, h1, h2, h3, -⟩ := rowAt_own ho (by rw [HL.out]; omega)
        have HB := hide hb
        rw [HL.out] at h1 ⊢
        clear ho hb
        go_wp2
        go_ret
        exact ⟨rfl, HB.out⟩
set_option maxHeartbeats 1000000 in
theorem specMost_any (v : Value) (r : List Int) (k n : Int) (w : World) (hin : InRow w v r) :
    Calls Try.prog 21 #[v, .int .i64 k, .int .i64 n] w fun e w' => e = .returned (.int .i64 (mostOf r k n)) ∧ Below w.heap.size w w' := by
  have HI := hide hin
  cases h : conjOk r n with
  | false =>
    have HR : Hid (conjRes r n = []) := hide (by rw [conjRes, if_neg (by rw [h]; decide)])
    rw [mostOf, if_neg (by rw [h]; simp)]
    clear h hin
    go_enter Try.func21, Try.ntmps21
    go_wp2_with fail
    refine (specConj_any v r n _ HI.out).mono ?_
    rw [HR.out]
    rintro e w1 ⟨u, rfl, ho, hb⟩
    obtain ⟨ua, uc, rfl⟩ := own_none ho
    have HB := hide hb
    clear ho hb
    go_wp2
    go_ret
    exact ⟨rfl, HB.out⟩
  | true =>
    obtain ⟨hn, hr, hrb⟩ := conjOk_yes h
    obtain ⟨m, rfl⟩ : ∃ m : Nat, n = m := ⟨n.toNat, by omega⟩
    have HR := hide (conj_yes (l := r) (n := m) (by omega) hr hrb)
    have HL : Hid ((conjL r m).length = m) := hide (by rw [conjL, tabL_len])
    obtain ⟨hn1, hn2⟩ := hn
    by_cases hk : 0 ≤ k ∧ k ≤ m
    · have HK := hide (decide_eq_true hk)
      rw [mostOf, if_pos ⟨h, hk.1, hk.2⟩, Int.toNat_natCast]
      obtain ⟨q, rfl⟩ : ∃ q : Nat, k = q := ⟨k.toNat, by omega⟩
      rw [Int.toNat_natCast]
      have hsr := small_of (m := (m : Int)) hr (by omega) hrb
      have hms := most_sum (r := r) (n := m) (fun x hx => by obtain ⟨i, hi, rfl⟩ := List.getElem_of_mem hx; exact (hsr.2 i hi).1) q (by omega)
      rw [← hms]
      obtain ⟨M, hM⟩ : ∃ M, M = r.map fun x => min x (q : Int) := ⟨_, rfl⟩
      have HML : Hid (M.length = r.length) := hide (by rw [hM, List.length_map])
      have HMA : Hid (∀ i (h1 : i < M.length) (h2 : i < r.length), M[i] = min r[i] (q : Int)) := hide fun i h1 h2 => by subst hM; rw [List.getElem_map]
      have HMS : Hid (SmallL M) := hide ⟨by rw [HML.out]; exact hr, fun i hi => by rw [HMA.out i hi (by rw [← HML.out]; exact hi)]; have := hsr.2 i (by rw [← HML.out]; exact hi); omega⟩
      have HSR := hide hsr
      rw [← hM]
      obtain ⟨a, c, rfl, hmx, hp⟩ := hin
      unfold maxLen at hmx
      have HP := hide fun h : r.length ≠ 0 => hp.resolve_left h
      obtain ⟨R, hRR⟩ : ∃ R, R = r.length := ⟨_, rfl⟩
      have HRR := hide hRR
      rw [← hRR] at HI HML hmx hr ⊢
      obtain ⟨hk1, hk2⟩ := hk
      clear h hrb hsr hms hM hp hRR
      go_enter Try.func21, Try.ntmps21
      go_wp2_with fail
      refine (specConj_any _ r m _ HI.out).mono ?_
      rw [HR.out]
      rintro e w1 ⟨u, rfl, ho, hb⟩
      obtain ⟨ua, uc, rfl⟩ := own_slice ho
      have HB := hide hb
      rw [HL.out]
      clear ho hb
      go_wp2_with (with_reducible refine (l01In_any (q : Int) 0 (m : Int) _).mono ?_; rw [HK.out]; rintro e w' ⟨rfl, rfl⟩)
      go_loop [7, 23] (fun s i => ∃ j : Nat, j ≤ R ∧ i = .int .i64 j ∧ s = .int .i64 (M.take j).sum) (fun _ i => R - (intOf i).toNat)
      case atStart => exact ⟨0, Nat.zero_le _, rfl, rfl⟩
      case round =>
        obtain ⟨j, hj, rfl, rfl⟩ := hrel
        obtain ⟨b1, b2⟩ := sum_small HMS.out j (by rw [HML.out]; exact hj)
        by_cases hlt : j < R
        · obtain ⟨g, o, rfl, hg, hc⟩ := HP.out (by have := HRR.out; omega)
          have hj' : j < r.length := by rw [← HRR.out]; exact hlt
          have hjM : j < M.length := by rw [HML.out]; exact hlt
          have hx := below_cell HB.out hg (hc j hj')
          have HST := hide (sum_snoc M j hjM)
          rw [HMA.out j hjM hj'] at HST
          obtain ⟨b3, b4⟩ := HSR.out.2 j hj'
          obtain ⟨x, hxx⟩ : ∃ x, x = r[j] := ⟨_, rfl⟩
          obtain ⟨T, hT⟩ : ∃ T, T = (M.take j).sum := ⟨_, rfl⟩
          rw [← hxx] at hx HST b3 b4
          rw [← hT] at HST b1 b2 ⊢
          clear hxx hT hc
          go_wp2
          go_round
          case rel => exact ⟨j + 1, by omega, by go_num, by rw [HST.out]⟩
          case measure => simp [intOf]; omega
        · have HE : Hid ((M.take j).sum = M.sum) := hide (by rw [List.take_of_length_le (by have := HML.out; omega)])
          rw [HE.out]
          clear b1 b2
          go_wp2
          go_ret
          exact ⟨rfl, HB.out⟩
    · rw [mostOf, if_neg (fun h => hk h.2)]
      have HK := hide (decide_eq_false hk)
      clear h hr hrb hin hk
      go_enter Try.func21, Try.ntmps21
      go_wp2_with fail
      refine (specConj_any v r m _ HI.out).mono ?_
      rw [HR.out]
      rintro e w1 ⟨u, rfl, ho, hb⟩
      obtain ⟨ua, uc, rfl⟩ := own_slice ho
      have HB := hide hb
      rw [HL.out]
      clear ho hb
      go_wp2_with (with_reducible refine (l01In_any k 0 (m : Int) _).mono ?_; rw [HK.out]; rintro e w' ⟨rfl, rfl⟩)
      go_ret
      exact ⟨rfl, HB.out⟩
end Go.Proofs.Ytcpmocjdkfkliaa
