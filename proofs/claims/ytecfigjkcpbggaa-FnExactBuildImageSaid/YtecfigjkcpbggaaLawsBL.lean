/-
  The exact laws on BuildImage and LeastImage, walked.
-/
import Derived.Test.YtecfigjkcpbggaaLawsQ
import Derived.Test.YtecfigjkcpbggaaImg
import Derived.Test.YtecfigjkcpbggaaSubs
namespace Go.Proofs.Ytecfigjkcpbggaa
open Go.RowKit
set_option linter.unusedVariables false

set_option maxRecDepth 100000 in
set_option maxHeartbeats 2000000 in
theorem lawBuildImage_gen (a0 : Option Addr) (n0 c0 : Nat) (r0 : List Int) (a1 : Option Addr) (n1 c1 : Nat) (r1 : List Int) (w : World) (hin0 : InRow w (.slice a0 n0 c0) r0) (hin1 : InRow w (.slice a1 n1 c1) r1) (rows : List (List Int)) (b : Bool) (hrows : rows.length + cellsM rows ≤ 1000000)
    (hs : ∀ (v0 : Value) (v1 : Value) (w : World), RowC w v0 r0 → RowC w v1 r1 → Calls Try.prog 8 #[v0, v1] w (MatRes2 rows b w))
    (hi : ∀ (v0 : Value) (v1 : Value) (w : World), RowC w v0 r0 → RowC w v1 r1 → Calls Try.prog 10 #[v0, v1] w (MatRes2 rows b w)) :
    Calls Try.prog 3 #[.slice a0 n0 c0, .slice a1 n1 c1] w fun e w' => e = .returned (.bool true) ∧ Below w.heap.size w w' := by
  have HI0 := hide hin0
  obtain ⟨a', c', he, hm0, -⟩ := hin0
  cases he
  unfold maxLen at hm0
  have HI1 := hide hin1
  obtain ⟨a', c', he, hm1, -⟩ := hin1
  cases he
  unfold maxLen at hm1
  by_cases hr0 : 1048576 < r0.length
  · clear hs hi
    obtain ⟨R0, hR0⟩ : ∃ R0, R0 = r0.length := ⟨_, rfl⟩
    obtain ⟨R1, hR1⟩ : ∃ R1, R1 = r1.length := ⟨_, rfl⟩
    rw [← hR0] at HI0 hm0 hr0 ⊢
    rw [← hR1] at HI1 hm1 ⊢
    clear hR0 hR1
    go_enter Try.func3, Try.ntmps3
    go_wp2
    go_ret
    exact ⟨rfl, Below.refl _ _⟩
  · by_cases hr1 : 1048576 < r1.length
    · clear hs hi
      obtain ⟨R0, hR0⟩ : ∃ R0, R0 = r0.length := ⟨_, rfl⟩
      obtain ⟨R1, hR1⟩ : ∃ R1, R1 = r1.length := ⟨_, rfl⟩
      rw [← hR0] at HI0 hm0 hr0 ⊢
      rw [← hR1] at HI1 hm1 hr1 ⊢
      clear hR0 hR1
      go_enter Try.func3, Try.ntmps3
      go_wp2
      go_ret
      exact ⟨rfl, Below.refl _ _⟩
    · have HS := hide hs; have HM := hide hi
      have HR0 : Hid (r0.length ≤ 2000000) := hide (by omega)
      have HR1 : Hid (r1.length ≤ 2000000) := hide (by omega)
      have hbb : (b != b) = false := by cases b <;> rfl
      clear hs hi
      go_enter Try.func3, Try.ntmps3
      go_wp2_with fail
      refine (toIntS_any _ r0 _ HR0.out HI0.out).mono ?_
      rintro e w1 ⟨p0, rfl, ho, hb⟩
      have P0L := hide (fun k e => ho.lt k e); have P0_1 := hide ho; have HB1 := hide (hb); have s1 := hb.size; clear ho hb
      go_wp2_with fail
      refine (toIntS_any _ r1 _ HR1.out (inRow_below HI1.out HB1.out)).mono ?_
      rintro e w2 ⟨p1, rfl, ho, hb⟩
      have P0_2 := hide (own_below P0_1.out hb); have P1L := hide (fun k e => ho.lt k e); have P1_2 := hide ho; have HB2 := hide (HB1.out.trans (hb.mono HB1.out.size)); have s2 := hb.size; clear ho hb
      go_wp2_with fail
      refine (HS.out p0 p1 _ (rowC_own P0_2.out) (rowC_own P1_2.out)).mono ?_
      rintro e w3 ⟨u, rfl, ho, hb⟩
      have U_3 := hide ho; have HB3 := hide (HB2.out.trans (hb.mono HB2.out.size)); have s3 := hb.size; clear ho hb
      go_wp2_with fail
      refine (toIntS_any _ r0 _ HR0.out (inRow_below HI0.out HB3.out)).mono ?_
      rintro e w4 ⟨x0, rfl, ho, hb⟩
      have U_4 := hide (ownMat_below U_3.out hb); have X0L := hide (fun k e => ho.lt k e); have X0_4 := hide ho; have HB4 := hide (HB3.out.trans (hb.mono HB3.out.size)); have s4 := hb.size; clear ho hb
      go_wp2_with fail
      refine (toIntS_any _ r1 _ HR1.out (inRow_below HI1.out HB4.out)).mono ?_
      rintro e w5 ⟨x1, rfl, ho, hb⟩
      have U_5 := hide (ownMat_below U_4.out hb); have X0_5 := hide (own_below X0_4.out hb); have X1L := hide (fun k e => ho.lt k e); have X1_5 := hide ho; have HB5 := hide (HB4.out.trans (hb.mono HB4.out.size)); have s5 := hb.size; clear ho hb
      go_wp2_with fail
      refine (HM.out x0 x1 _ (rowC_own X0_5.out) (rowC_own X1_5.out)).mono ?_
      rintro e w6 ⟨g, rfl, ho, hb⟩
      have U_6 := hide (ownMat_below U_5.out hb); have X0_6 := hide (own_below X0_5.out hb); have X1_6 := hide (own_below X1_5.out hb); have G_6 := hide ho; have HB6 := hide (HB5.out.trans (hb.mono HB5.out.size)); have s6 := hb.size; clear ho hb
      go_wp2_with fail
      refine (eqIntSS_same g u rows _ (inMat_own G_6.out) (inMat_own U_6.out)).mono ?_
      rintro e w7 ⟨rfl, hb⟩
      have U_7 := hide (ownMat_below U_6.out hb); have X0_7 := hide (own_below X0_6.out hb); have X1_7 := hide (own_below X1_6.out hb); have G_7 := hide (ownMat_below G_6.out hb); have HB7 := hide (HB6.out.trans (hb.mono HB6.out.size)); have s7 := hb.size; clear hb
      go_wp2_with fail
      refine (toIntS_any _ r0 _ HR0.out (inRow_below HI0.out HB7.out)).mono ?_
      rintro e w8 ⟨z0, rfl, ho, hb⟩
      have U_8 := hide (ownMat_below U_7.out hb); have X0_8 := hide (own_below X0_7.out hb); have X1_8 := hide (own_below X1_7.out hb); have G_8 := hide (ownMat_below G_7.out hb); have Z0L := hide (fun k e => ho.lt k e); have Z0_8 := hide ho; have HB8 := hide (HB7.out.trans (hb.mono HB7.out.size)); have s8 := hb.size; clear ho hb
      go_wp2_with fail
      refine (eqIntS_same x0 z0 r0 _ (inRow_own X0_8.out) (inRow_own Z0_8.out)).mono ?_
      rintro e w9 ⟨rfl, hb⟩
      have U_9 := hide (ownMat_below U_8.out hb); have X0_9 := hide (own_below X0_8.out hb); have X1_9 := hide (own_below X1_8.out hb); have G_9 := hide (ownMat_below G_8.out hb); have HB9 := hide (HB8.out.trans (hb.mono HB8.out.size)); have s9 := hb.size; clear hb
      go_wp2_with fail
      refine (toIntS_any _ r1 _ HR1.out (inRow_below HI1.out HB9.out)).mono ?_
      rintro e w10 ⟨z1, rfl, ho, hb⟩
      have U_10 := hide (ownMat_below U_9.out hb); have X0_10 := hide (own_below X0_9.out hb); have X1_10 := hide (own_below X1_9.out hb); have G_10 := hide (ownMat_below G_9.out hb); have Z1L := hide (fun k e => ho.lt k e); have Z1_10 := hide ho; have HB10 := hide (HB9.out.trans (hb.mono HB9.out.size)); have s10 := hb.size; clear ho hb
      go_wp2_with fail
      refine (eqIntS_same x1 z1 r1 _ (inRow_own X1_10.out) (inRow_own Z1_10.out)).mono ?_
      rintro e w11 ⟨rfl, hb⟩
      have U_11 := hide (ownMat_below U_10.out hb); have X0_11 := hide (own_below X0_10.out hb); have X1_11 := hide (own_below X1_10.out hb); have G_11 := hide (ownMat_below G_10.out hb); have HB11 := hide (HB10.out.trans (hb.mono HB10.out.size)); have s11 := hb.size; clear hb
      go_wp2_with fail
      refine (markIntS_any r0.length 1 x0 _ _ _ (by have := HR0.out; omega) (by omega) X0_11.out).mono ?_
      rintro e w12 ⟨rfl, -, hg⟩; have hwi := within_grown (lo := w3.heap.size) (hi := w4.heap.size) hg (fun k e => X0L.out k e); clear hg
      have U_12 := hide (ownMat_within U_11.out hwi (by omega)); have X1_12 := hide (own_within X1_11.out hwi (fun k e => by have h1 := X1L.out k e; omega)); have G_12 := hide (ownMat_within G_11.out hwi (by omega)); have HB12 := hide (HB11.out.trans (below_within hwi (by omega) HB11.out.size)); have s12 := hwi.size; clear hwi
      go_wp2_with fail
      refine (markIntS_any r1.length (1 + r0.length) x1 _ _ _ (by have := HR1.out; omega) (by have := HR0.out; omega) X1_12.out).mono ?_
      rintro e w13 ⟨rfl, -, hg⟩; have hwi := within_grown (lo := w4.heap.size) (hi := w5.heap.size) hg (fun k e => X1L.out k e); clear hg
      have U_13 := hide (ownMat_within U_12.out hwi (by omega)); have G_13 := hide (ownMat_within G_12.out hwi (by omega)); have HB13 := hide (HB12.out.trans (below_within hwi (by omega) HB12.out.size)); have s13 := hwi.size; clear hwi
      go_wp2_with fail
      refine (eqIntSS_same g u rows _ (inMat_own G_13.out) (inMat_own U_13.out)).mono ?_
      rintro e w14 ⟨rfl, hb⟩
      have U_14 := hide (ownMat_below U_13.out hb); have G_14 := hide (ownMat_below G_13.out hb); have HB14 := hide (HB13.out.trans (hb.mono HB13.out.size)); have s14 := hb.size; clear hb
      go_wp2_with fail
      refine (markIntSS_any rows 1 _ _ g _ (by omega) (by omega) G_14.out).mono ?_
      rintro e w15 ⟨rfl, ho, hwi⟩
      have U_15 := hide (ownMat_within U_14.out hwi (by omega)); have HB15 := hide (HB14.out.trans (below_within hwi (by omega) HB14.out.size)); have s15 := hwi.size; clear hwi
      have M_15 := hide (inMat_own ho); clear ho
      go_wp2_with fail
      refine (heldIntSS_any rows 1 g _ (by omega) (by omega) M_15.out).mono ?_
      rintro e w16 ⟨rfl, hb⟩
      have U_16 := hide (ownMat_below U_15.out hb); have M_16 := hide (inMat_below M_15.out hb); have HB16 := hide (HB15.out.trans (hb.mono HB15.out.size)); have s16 := hb.size; clear hb
      go_wp2_with fail
      refine (toIntS_any _ r0 _ HR0.out (inRow_below HI0.out HB16.out)).mono ?_
      rintro e w17 ⟨y0, rfl, ho, hb⟩
      have U_17 := hide (ownMat_below U_16.out hb); have M_17 := hide (inMat_below M_16.out hb); have Y0L := hide (fun k e => ho.lt k e); have Y0_17 := hide ho; have HB17 := hide (HB16.out.trans (hb.mono HB16.out.size)); have s17 := hb.size; clear ho hb
      go_wp2_with fail
      refine (toIntS_any _ r1 _ HR1.out (inRow_below HI1.out HB17.out)).mono ?_
      rintro e w18 ⟨y1, rfl, ho, hb⟩
      have U_18 := hide (ownMat_below U_17.out hb); have M_18 := hide (inMat_below M_17.out hb); have Y0_18 := hide (own_below Y0_17.out hb); have Y1L := hide (fun k e => ho.lt k e); have Y1_18 := hide ho; have HB18 := hide (HB17.out.trans (hb.mono HB17.out.size)); have s18 := hb.size; clear ho hb
      go_wp2_with fail
      refine (HM.out y0 y1 _ (rowC_own Y0_18.out) (rowC_own Y1_18.out)).mono ?_
      rintro e w19 ⟨h, rfl, ho, hb⟩
      have U_19 := hide (ownMat_below U_18.out hb); have M_19 := hide (inMat_below M_18.out hb); have H_19 := hide ho; have HB19 := hide (HB18.out.trans (hb.mono HB18.out.size)); have s19 := hb.size; clear ho hb
      go_wp2_with fail
      refine (eqIntSS_same h u rows _ (inMat_own H_19.out) (inMat_own U_19.out)).mono ?_
      rintro e w20 ⟨rfl, hb⟩
      have U_20 := hide (ownMat_below U_19.out hb); have M_20 := hide (inMat_below M_19.out hb); have H_20 := hide (ownMat_below H_19.out hb); have HB20 := hide (HB19.out.trans (hb.mono HB19.out.size)); have s20 := hb.size; clear hb
      go_wp2_with fail
      refine (heldIntSS_any rows 1 g _ (by omega) (by omega) M_20.out).mono ?_
      rintro e w21 ⟨rfl, hb⟩
      have M_21 := hide (inMat_below M_20.out hb); have HB21 := hide (HB20.out.trans (hb.mono HB20.out.size)); have s21 := hb.size; clear hb
      go_wp2
      go_ret
      exact ⟨rfl, HB21.out⟩

set_option maxRecDepth 100000 in
set_option maxHeartbeats 2000000 in
theorem lawLeastImage_gen (a0 : Option Addr) (n0 c0 : Nat) (r0 : List Int) (a1 : Option Addr) (n1 c1 : Nat) (r1 : List Int) (w : World) (hin0 : InRow w (.slice a0 n0 c0) r0) (hin1 : InRow w (.slice a1 n1 c1) r1) (rows : List (List Int)) (b : Bool) (hrows : rows.length + cellsM rows ≤ 1000000)
    (hs : ∀ (v0 : Value) (v1 : Value) (w : World), RowC w v0 r0 → RowC w v1 r1 → Calls Try.prog 16 #[v0, v1] w (MatRes2 rows b w))
    (hi : ∀ (v0 : Value) (v1 : Value) (w : World), RowC w v0 r0 → RowC w v1 r1 → Calls Try.prog 17 #[v0, v1] w (MatRes2 rows b w)) :
    Calls Try.prog 4 #[.slice a0 n0 c0, .slice a1 n1 c1] w fun e w' => e = .returned (.bool true) ∧ Below w.heap.size w w' := by
  have HI0 := hide hin0
  obtain ⟨a', c', he, hm0, -⟩ := hin0
  cases he
  unfold maxLen at hm0
  have HI1 := hide hin1
  obtain ⟨a', c', he, hm1, -⟩ := hin1
  cases he
  unfold maxLen at hm1
  by_cases hr0 : 1048576 < r0.length
  · clear hs hi
    obtain ⟨R0, hR0⟩ : ∃ R0, R0 = r0.length := ⟨_, rfl⟩
    obtain ⟨R1, hR1⟩ : ∃ R1, R1 = r1.length := ⟨_, rfl⟩
    rw [← hR0] at HI0 hm0 hr0 ⊢
    rw [← hR1] at HI1 hm1 ⊢
    clear hR0 hR1
    go_enter Try.func4, Try.ntmps4
    go_wp2
    go_ret
    exact ⟨rfl, Below.refl _ _⟩
  · by_cases hr1 : 1048576 < r1.length
    · clear hs hi
      obtain ⟨R0, hR0⟩ : ∃ R0, R0 = r0.length := ⟨_, rfl⟩
      obtain ⟨R1, hR1⟩ : ∃ R1, R1 = r1.length := ⟨_, rfl⟩
      rw [← hR0] at HI0 hm0 hr0 ⊢
      rw [← hR1] at HI1 hm1 hr1 ⊢
      clear hR0 hR1
      go_enter Try.func4, Try.ntmps4
      go_wp2
      go_ret
      exact ⟨rfl, Below.refl _ _⟩
    · have HS := hide hs; have HM := hide hi
      have HR0 : Hid (r0.length ≤ 2000000) := hide (by omega)
      have HR1 : Hid (r1.length ≤ 2000000) := hide (by omega)
      have hbb : (b != b) = false := by cases b <;> rfl
      clear hs hi
      go_enter Try.func4, Try.ntmps4
      go_wp2_with fail
      refine (toIntS_any _ r0 _ HR0.out HI0.out).mono ?_
      rintro e w1 ⟨p0, rfl, ho, hb⟩
      have P0L := hide (fun k e => ho.lt k e); have P0_1 := hide ho; have HB1 := hide (hb); have s1 := hb.size; clear ho hb
      go_wp2_with fail
      refine (toIntS_any _ r1 _ HR1.out (inRow_below HI1.out HB1.out)).mono ?_
      rintro e w2 ⟨p1, rfl, ho, hb⟩
      have P0_2 := hide (own_below P0_1.out hb); have P1L := hide (fun k e => ho.lt k e); have P1_2 := hide ho; have HB2 := hide (HB1.out.trans (hb.mono HB1.out.size)); have s2 := hb.size; clear ho hb
      go_wp2_with fail
      refine (HS.out p0 p1 _ (rowC_own P0_2.out) (rowC_own P1_2.out)).mono ?_
      rintro e w3 ⟨u, rfl, ho, hb⟩
      have U_3 := hide ho; have HB3 := hide (HB2.out.trans (hb.mono HB2.out.size)); have s3 := hb.size; clear ho hb
      go_wp2_with fail
      refine (toIntS_any _ r0 _ HR0.out (inRow_below HI0.out HB3.out)).mono ?_
      rintro e w4 ⟨x0, rfl, ho, hb⟩
      have U_4 := hide (ownMat_below U_3.out hb); have X0L := hide (fun k e => ho.lt k e); have X0_4 := hide ho; have HB4 := hide (HB3.out.trans (hb.mono HB3.out.size)); have s4 := hb.size; clear ho hb
      go_wp2_with fail
      refine (toIntS_any _ r1 _ HR1.out (inRow_below HI1.out HB4.out)).mono ?_
      rintro e w5 ⟨x1, rfl, ho, hb⟩
      have U_5 := hide (ownMat_below U_4.out hb); have X0_5 := hide (own_below X0_4.out hb); have X1L := hide (fun k e => ho.lt k e); have X1_5 := hide ho; have HB5 := hide (HB4.out.trans (hb.mono HB4.out.size)); have s5 := hb.size; clear ho hb
      go_wp2_with fail
      refine (HM.out x0 x1 _ (rowC_own X0_5.out) (rowC_own X1_5.out)).mono ?_
      rintro e w6 ⟨g, rfl, ho, hb⟩
      have U_6 := hide (ownMat_below U_5.out hb); have X0_6 := hide (own_below X0_5.out hb); have X1_6 := hide (own_below X1_5.out hb); have G_6 := hide ho; have HB6 := hide (HB5.out.trans (hb.mono HB5.out.size)); have s6 := hb.size; clear ho hb
      go_wp2_with fail
      refine (eqIntSS_same g u rows _ (inMat_own G_6.out) (inMat_own U_6.out)).mono ?_
      rintro e w7 ⟨rfl, hb⟩
      have U_7 := hide (ownMat_below U_6.out hb); have X0_7 := hide (own_below X0_6.out hb); have X1_7 := hide (own_below X1_6.out hb); have G_7 := hide (ownMat_below G_6.out hb); have HB7 := hide (HB6.out.trans (hb.mono HB6.out.size)); have s7 := hb.size; clear hb
      go_wp2_with fail
      refine (toIntS_any _ r0 _ HR0.out (inRow_below HI0.out HB7.out)).mono ?_
      rintro e w8 ⟨z0, rfl, ho, hb⟩
      have U_8 := hide (ownMat_below U_7.out hb); have X0_8 := hide (own_below X0_7.out hb); have X1_8 := hide (own_below X1_7.out hb); have G_8 := hide (ownMat_below G_7.out hb); have Z0L := hide (fun k e => ho.lt k e); have Z0_8 := hide ho; have HB8 := hide (HB7.out.trans (hb.mono HB7.out.size)); have s8 := hb.size; clear ho hb
      go_wp2_with fail
      refine (eqIntS_same x0 z0 r0 _ (inRow_own X0_8.out) (inRow_own Z0_8.out)).mono ?_
      rintro e w9 ⟨rfl, hb⟩
      have U_9 := hide (ownMat_below U_8.out hb); have X0_9 := hide (own_below X0_8.out hb); have X1_9 := hide (own_below X1_8.out hb); have G_9 := hide (ownMat_below G_8.out hb); have HB9 := hide (HB8.out.trans (hb.mono HB8.out.size)); have s9 := hb.size; clear hb
      go_wp2_with fail
      refine (toIntS_any _ r1 _ HR1.out (inRow_below HI1.out HB9.out)).mono ?_
      rintro e w10 ⟨z1, rfl, ho, hb⟩
      have U_10 := hide (ownMat_below U_9.out hb); have X0_10 := hide (own_below X0_9.out hb); have X1_10 := hide (own_below X1_9.out hb); have G_10 := hide (ownMat_below G_9.out hb); have Z1L := hide (fun k e => ho.lt k e); have Z1_10 := hide ho; have HB10 := hide (HB9.out.trans (hb.mono HB9.out.size)); have s10 := hb.size; clear ho hb
      go_wp2_with fail
      refine (eqIntS_same x1 z1 r1 _ (inRow_own X1_10.out) (inRow_own Z1_10.out)).mono ?_
      rintro e w11 ⟨rfl, hb⟩
      have U_11 := hide (ownMat_below U_10.out hb); have X0_11 := hide (own_below X0_10.out hb); have X1_11 := hide (own_below X1_10.out hb); have G_11 := hide (ownMat_below G_10.out hb); have HB11 := hide (HB10.out.trans (hb.mono HB10.out.size)); have s11 := hb.size; clear hb
      go_wp2_with fail
      refine (markIntS_any r0.length 1 x0 _ _ _ (by have := HR0.out; omega) (by omega) X0_11.out).mono ?_
      rintro e w12 ⟨rfl, -, hg⟩; have hwi := within_grown (lo := w3.heap.size) (hi := w4.heap.size) hg (fun k e => X0L.out k e); clear hg
      have U_12 := hide (ownMat_within U_11.out hwi (by omega)); have X1_12 := hide (own_within X1_11.out hwi (fun k e => by have h1 := X1L.out k e; omega)); have G_12 := hide (ownMat_within G_11.out hwi (by omega)); have HB12 := hide (HB11.out.trans (below_within hwi (by omega) HB11.out.size)); have s12 := hwi.size; clear hwi
      go_wp2_with fail
      refine (markIntS_any r1.length (1 + r0.length) x1 _ _ _ (by have := HR1.out; omega) (by have := HR0.out; omega) X1_12.out).mono ?_
      rintro e w13 ⟨rfl, -, hg⟩; have hwi := within_grown (lo := w4.heap.size) (hi := w5.heap.size) hg (fun k e => X1L.out k e); clear hg
      have U_13 := hide (ownMat_within U_12.out hwi (by omega)); have G_13 := hide (ownMat_within G_12.out hwi (by omega)); have HB13 := hide (HB12.out.trans (below_within hwi (by omega) HB12.out.size)); have s13 := hwi.size; clear hwi
      go_wp2_with fail
      refine (eqIntSS_same g u rows _ (inMat_own G_13.out) (inMat_own U_13.out)).mono ?_
      rintro e w14 ⟨rfl, hb⟩
      have U_14 := hide (ownMat_below U_13.out hb); have G_14 := hide (ownMat_below G_13.out hb); have HB14 := hide (HB13.out.trans (hb.mono HB13.out.size)); have s14 := hb.size; clear hb
      go_wp2_with fail
      refine (markIntSS_any rows 1 _ _ g _ (by omega) (by omega) G_14.out).mono ?_
      rintro e w15 ⟨rfl, ho, hwi⟩
      have U_15 := hide (ownMat_within U_14.out hwi (by omega)); have HB15 := hide (HB14.out.trans (below_within hwi (by omega) HB14.out.size)); have s15 := hwi.size; clear hwi
      have M_15 := hide (inMat_own ho); clear ho
      go_wp2_with fail
      refine (heldIntSS_any rows 1 g _ (by omega) (by omega) M_15.out).mono ?_
      rintro e w16 ⟨rfl, hb⟩
      have U_16 := hide (ownMat_below U_15.out hb); have M_16 := hide (inMat_below M_15.out hb); have HB16 := hide (HB15.out.trans (hb.mono HB15.out.size)); have s16 := hb.size; clear hb
      go_wp2_with fail
      refine (toIntS_any _ r0 _ HR0.out (inRow_below HI0.out HB16.out)).mono ?_
      rintro e w17 ⟨y0, rfl, ho, hb⟩
      have U_17 := hide (ownMat_below U_16.out hb); have M_17 := hide (inMat_below M_16.out hb); have Y0L := hide (fun k e => ho.lt k e); have Y0_17 := hide ho; have HB17 := hide (HB16.out.trans (hb.mono HB16.out.size)); have s17 := hb.size; clear ho hb
      go_wp2_with fail
      refine (toIntS_any _ r1 _ HR1.out (inRow_below HI1.out HB17.out)).mono ?_
      rintro e w18 ⟨y1, rfl, ho, hb⟩
      have U_18 := hide (ownMat_below U_17.out hb); have M_18 := hide (inMat_below M_17.out hb); have Y0_18 := hide (own_below Y0_17.out hb); have Y1L := hide (fun k e => ho.lt k e); have Y1_18 := hide ho; have HB18 := hide (HB17.out.trans (hb.mono HB17.out.size)); have s18 := hb.size; clear ho hb
      go_wp2_with fail
      refine (HM.out y0 y1 _ (rowC_own Y0_18.out) (rowC_own Y1_18.out)).mono ?_
      rintro e w19 ⟨h, rfl, ho, hb⟩
      have U_19 := hide (ownMat_below U_18.out hb); have M_19 := hide (inMat_below M_18.out hb); have H_19 := hide ho; have HB19 := hide (HB18.out.trans (hb.mono HB18.out.size)); have s19 := hb.size; clear ho hb
      go_wp2_with fail
      refine (eqIntSS_same h u rows _ (inMat_own H_19.out) (inMat_own U_19.out)).mono ?_
      rintro e w20 ⟨rfl, hb⟩
      have U_20 := hide (ownMat_below U_19.out hb); have M_20 := hide (inMat_below M_19.out hb); have H_20 := hide (ownMat_below H_19.out hb); have HB20 := hide (HB19.out.trans (hb.mono HB19.out.size)); have s20 := hb.size; clear hb
      go_wp2_with fail
      refine (heldIntSS_any rows 1 g _ (by omega) (by omega) M_20.out).mono ?_
      rintro e w21 ⟨rfl, hb⟩
      have M_21 := hide (inMat_below M_20.out hb); have HB21 := hide (HB20.out.trans (hb.mono HB20.out.size)); have s21 := hb.size; clear hb
      go_wp2
      go_ret
      exact ⟨rfl, HB21.out⟩
end Go.Proofs.Ytecfigjkcpbggaa
