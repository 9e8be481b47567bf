/-
  l04Gap, WorstColumns, Exists, SlackOf of the model.
-/
import Derived.Test.YtecfigjkcpbggaaExist
namespace Go.Proofs.Ytecfigjkcpbggaa
open Go.RowKit

set_option maxHeartbeats 1000000 in
theorem gap_any (va vb : Value) (r c : List Int) (k : Nat) (w : World) (ha : InRow w va r) (hb : InRow w vb c) (h : sumsOk r c = true) (hk : k ≤ c.length) :
    Calls Try.prog 79 #[va, vb, .int .i64 k] w fun e w' => e = .returned (.int .i64 (((conjL r c.length).take k).sum - ((sortD c).take k).sum)) ∧ Below w.heap.size w w' := by
  obtain ⟨hr, hc, hrb, hcb, -⟩ := sumsOk_yes h
  have HA := hide ha; have HB := hide hb
  have HCJ := hide (conj_yes (l := r) hc hr.2 hrb)
  have HS1 := hide (small_perm (sortD_perm c) (small_of (m := r.length) hc.2 (by omega) hcb))
  have HS2 := hide (small_conj (n := c.length) hr.2 hc.2)
  have HL1 := hide (sortD_len c)
  have HL2 : Hid ((conjL r c.length).length = c.length) := hide (by rw [conjL, tabL_len])
  have HC5 := hide hc
  obtain ⟨b, cb, rfl, hmb, -⟩ := hb
  unfold maxLen at hmb
  obtain ⟨C, hC⟩ : ∃ C, C = c.length := ⟨_, rfl⟩
  have HC := hide hC
  rw [← hC] at HB HCJ HS2 HL1 HL2 HC5 hmb hk ⊢
  have hs1 := small_sum HS1.out k
  have hs2 := small_sum HS2.out k
  have HT1 := hide (small_take HS1.out k); have HT2 := hide (small_take HS2.out k)
  obtain ⟨X, hX⟩ : ∃ X, X = ((conjL r C).take k).sum := ⟨_, rfl⟩
  obtain ⟨Y, hY⟩ : ∃ Y, Y = ((sortD c).take k).sum := ⟨_, rfl⟩
  have HX := hide hX; have HY := hide hY
  rw [← hX] at hs2 ⊢
  rw [← hY] at hs1 ⊢
  obtain ⟨y1, y2⟩ := hs1
  obtain ⟨x1, x2⟩ := hs2
  clear ha h hr hc hrb hcb hC hX hY
  go_enter Try.func79, Try.ntmps79
  go_wp2_with fail
  refine (specConj_any va r (C : Int) _ HA.out).mono ?_
  rw [HCJ.out]
  rintro e w1 ⟨u1, rfl, ho, hb⟩
  obtain ⟨g1, c1, rfl, h1, h2, h3, -⟩ := rowAt_own ho (by rw [HL2.out]; exact HC5.out.1)
  have HR1 := hide (rowAt_take (rowAt_own ho (by rw [HL2.out]; exact HC5.out.1)) (show k ≤ (conjL r C).length by rw [HL2.out]; exact hk))
  have HB1 := hide hb
  rw [HL2.out] at h1 ⊢
  unfold maxLen at h2
  clear ho hb
  go_wp2_with fail
  refine (l03Total_any _ _ _ HR1.out HT2.out).mono ?_
  rw [← HX.out]
  rintro e w' ⟨rfl, rfl⟩
  go_wp2_with fail
  refine (specSortedDown_any _ c _ (inRow_below HB.out HB1.out) (by have := HC5.out; have := HC.out; omega)).mono ?_
  rintro e w2 ⟨u2, rfl, ho, hb⟩
  obtain ⟨g2, c2, rfl, h4, h5, h6, -⟩ := rowAt_own ho (by rw [HL1.out]; exact HC5.out.1)
  have HR2 := hide (rowAt_take (rowAt_own ho (by rw [HL1.out]; exact HC5.out.1)) (show k ≤ (sortD c).length by rw [HL1.out]; exact hk))
  have HB2 := hide (HB1.out.trans (hb.mono HB1.out.size))
  rw [HL1.out] at h4 ⊢
  unfold maxLen at h5
  clear ho hb
  go_wp2_with fail
  refine (l03Total_any _ _ _ HR2.out HT1.out).mono ?_
  rw [← HY.out]
  rintro e w' ⟨rfl, rfl⟩
  go_wp2
  go_ret
  exact ⟨rfl, HB2.out⟩

theorem boundsL_gap {r c : List Int} {i : Nat} (h : i < (boundsL r c).length) : ((conjL r c.length).take (i + 1)).sum - ((sortD c).take (i + 1)).sum = (boundsL r c)[i].2 - (boundsL r c)[i].1 := by
  have : (boundsL r c)[i] = _ := tabB_at h
  rw [this]
set_option maxHeartbeats 1000000 in
theorem specWorst_any (va vb : Value) (r c : List Int) (w : World) (ha : InRow w va r) (hb : InRow w vb c) :
    Calls Try.prog 49 #[va, vb] w fun e w' => e = .returned (.int .i64 (worstOf r c)) ∧ Below w.heap.size w w' := by
  have HA := hide ha; have HB := hide hb
  clear ha
  cases h : sumsOk r c with
  | false =>
    rw [worstOf, if_neg (by rw [h]; decide)]
    have H := hide h
    clear h hb
    go_enter Try.func49, Try.ntmps49
    go_wp2_with ((with_reducible refine (specSumsOk_any va vb r c _ HA.out HB.out).mono ?_); rw [H.out]; rintro e w1 ⟨rfl, b1⟩; have B1 := hide b1; clear b1)
    go_ret
    exact ⟨rfl, B1.out⟩
  | true =>
    rw [worstOf, if_pos h]
    have H := hide h
    have HBL := hide (boundsL_len r c)
    have HGAP := hide fun i hi => boundsL_gap (r := r) (c := c) (i := i) hi
    have HC5 := hide (sumsOk_yes h).2.1
    have HCALL := hide fun (k : Nat) (hk : k ≤ c.length) (w : World) (ha : InRow w va r) (hb : InRow w vb c) => gap_any va vb r c k w ha hb h hk
    obtain ⟨b, cb, rfl, hmb, -⟩ := hb
    unfold maxLen at hmb
    obtain ⟨C, hC⟩ : ∃ C, C = c.length := ⟨_, rfl⟩
    rw [← hC] at HB HBL HC5 HCALL hmb HGAP ⊢
    obtain ⟨bs, hbs⟩ : ∃ bs, bs = boundsL r c := ⟨_, rfl⟩
    rw [← hbs] at HBL HGAP ⊢
    obtain ⟨hc1, hc2⟩ := HC5.out
    clear h hC hbs
    go_enter Try.func49, Try.ntmps49
    go_wp2_with ((with_reducible refine (specSumsOk_any va _ r c _ HA.out HB.out).mono ?_); rw [H.out]; rintro e w1 ⟨rfl, b1⟩; have B1 := hide b1; clear b1)
    go_loopw [5] (fun i wr => ∃ k : Nat, k ≤ C ∧ i = .int .i64 ((k : Int) + 1) ∧ firstB bs 0 = firstB (bs.drop k) k ∧ Below w.heap.size w wr) (fun i _ => (C + 1 - intOf i).toNat)
    case atStart => exact ⟨0, Nat.zero_le _, rfl, rfl, B1.out⟩
    case round =>
      clear B1
      obtain ⟨k, hk, rfl, hf, hb⟩ := hrel
      have HF := hide hf; have B2 := hide hb
      clear hf hb
      by_cases hlt : k < C
      · have hk' : k < bs.length := by rw [HBL.out]; exact hlt
        have HD := hide (firstB_drop hk')
        have HG := hide (HGAP.out k hk')
        have HCL := hide (HCALL.out (k + 1) (by omega))
        rw [HG.out] at HCL
        obtain ⟨z, hz⟩ : ∃ z, z = bs[k].2 - bs[k].1 := ⟨_, rfl⟩
        rw [← hz] at HD HCL
        clear hz HG
        by_cases hbr : z < 0
        · have HR : Hid (firstB bs 0 = k) := hide (by rw [HF.out, HD.out, if_pos hbr])
          go_wp2_with (go_at_call 79; refine (HCL.out _ (inRow_below HA.out B2.out) (inRow_below HB.out B2.out)).mono ?_; rintro e w3 ⟨rfl, b3⟩; have B3 := hide (B2.out.trans (b3.mono B2.out.size)); clear b3)
          go_ret
          exact ⟨ret_int (by rw [HR.out]), B3.out⟩
        · have HR : Hid (firstB bs 0 = firstB (bs.drop (k + 1)) ((k + 1 : Nat) : Int)) := hide (by rw [HF.out, HD.out, if_neg hbr])
          go_wp2_with (go_at_call 79; refine (HCL.out _ (inRow_below HA.out B2.out) (inRow_below HB.out B2.out)).mono ?_; rintro e w3 ⟨rfl, b3⟩; have B3 := hide (B2.out.trans (b3.mono B2.out.size)); clear b3)
          go_roundw
          case rel => exact ⟨k + 1, by omega, by go_num, HR.out, B3.out⟩
          case measure => simp [intOf]; omega
      · have HR : Hid (firstB bs 0 = -1) := hide (by rw [HF.out, List.drop_of_length_le (by have := HBL.out; omega)]; rfl)
        go_wp2
        go_ret
        exact ⟨ret_int (by rw [HR.out]; rfl), B2.out⟩
set_option maxHeartbeats 400000 in
theorem specExists_any (va vb : Value) (r c : List Int) (w : World) (ha : InRow w va r) (hb : InRow w vb c) :
    Calls Try.prog 26 #[va, vb] w fun e w' => e = .returned (.bool (existsOf r c)) ∧ Below w.heap.size w w' := by
  have HA := hide ha; have HB := hide hb
  clear ha hb
  cases h : sumsOk r c with
  | false =>
    rw [existsOf, h]
    have H := hide h
    clear h
    go_enter Try.func26, Try.ntmps26
    go_wp2_with ((with_reducible refine (specSumsOk_any va vb r c _ HA.out HB.out).mono ?_); rw [H.out]; rintro e w1 ⟨rfl, b1⟩; have B1 := hide b1; clear b1)
    go_ret
    exact ⟨rfl, B1.out⟩
  | true =>
    rw [existsOf, h]
    have H := hide h
    obtain ⟨F, hF⟩ : ∃ F, F = worstOf r c := ⟨_, rfl⟩
    have HF := hide hF
    rw [← hF]
    clear h hF
    go_enter Try.func26, Try.ntmps26
    go_wp2_with (first | ((with_reducible refine (specSumsOk_any va vb r c _ HA.out HB.out).mono ?_); rw [H.out]; rintro e w1 ⟨rfl, b1⟩; have B1 := hide b1; clear b1) | ((with_reducible refine (specWorst_any va vb r c _ (inRow_below HA.out B1.out) (inRow_below HB.out B1.out)).mono ?_); rw [← HF.out]; rintro e w2 ⟨rfl, b2⟩; have B2 := hide (B1.out.trans (b2.mono B1.out.size)); clear b2))
    go_ret
    exact ⟨ret_bool (by by_cases e : F = 0 <;> simp [e]), B2.out⟩

end Go.Proofs.Ytecfigjkcpbggaa
