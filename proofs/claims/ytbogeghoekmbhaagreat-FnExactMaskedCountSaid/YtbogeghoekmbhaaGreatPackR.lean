/-
  Texts of this claim, one behind the other: LawsMk, Concat, CountF, FixI, Lists, Arr2.
-/
import Derived.Test.YtbogeghoekmbhaaGreatPackQ
import Derived.Test.YtbogeghoekmbhaaGreatPackC
import Derived.Test.YtbogeghoekmbhaaGreatPackL
import Derived.Test.YtbogeghoekmbhaaGreatPackD
import Derived.Shelf.Spec.SlicesGrow
import Derived.Test.YtbogeghoekmbhaaGreatPackB
import Derived.Test.YtbogeghoekmbhaaGreatPackP
import Derived.Test.YtbogeghoekmbhaaGreatPackF
import Derived.Test.YtbogeghoekmbhaaGreatPackG
/-
  The exact laws on MaskedImage and MaskedCount, walked.
-/
namespace Go.Proofs.YtbogeghoekmbhaaGreat
open Go.RowKit
set_option linter.unusedVariables false

set_option maxRecDepth 100000 in
set_option maxHeartbeats 4000000 in
theorem lawMaskedImage_gen (a0 : Option Addr) (n0 c0 : Nat) (m0 : List (List Int)) (a1 : Option Addr) (n1 c1 : Nat) (r1 : List Int) (a2 : Option Addr) (n2 c2 : Nat) (r2 : List Int) (w : World) (hin0 : InMat w (.slice a0 n0 c0) m0) (hin1 : InRow w (.slice a1 n1 c1) r1) (hin2 : InRow w (.slice a2 n2 c2) r2) (m_0 : List (List Int)) (b_1 : Bool) (hres0 : m_0.length + cellsM m_0 ≤ 1000000)
    (hs : ∀ (v0 v1 v2 : Value) (w : World), InMat w v0 m0 → RowC w v1 r1 → RowC w v2 r2 → Calls Tryz.prog 11 #[v0, v1, v2] w (MatRes2 m_0 b_1 w))
    (hi : ∀ (v0 v1 v2 : Value) (w : World), InMat w v0 m0 → RowC w v1 r1 → RowC w v2 r2 → Calls Tryz.prog 13 #[v0, v1, v2] w (MatRes2 m_0 b_1 w)) :
    Calls Tryz.prog 4 #[.slice a0 n0 c0, .slice a1 n1 c1, .slice a2 n2 c2] w fun e w' => e = .returned (.bool true) ∧ Below w.heap.size w w' := by
  have HI0 := hide hin0
  obtain ⟨a', c', he, hm0, -⟩ := hin0
  cases he
  unfold maxLen at hm0
  have HI1 := hide hin1
  obtain ⟨a', c', he, hm1, -⟩ := hin1
  cases he
  unfold maxLen at hm1
  have HI2 := hide hin2
  obtain ⟨a', c', he, hm2, -⟩ := hin2
  cases he
  unfold maxLen at hm2
  by_cases hr1 : 1048576 < r1.length
  · clear hs hi
    obtain ⟨R0, hR0⟩ : ∃ x, x = m0.length := ⟨_, rfl⟩
    obtain ⟨R1, hR1⟩ : ∃ x, x = r1.length := ⟨_, rfl⟩
    obtain ⟨R2, hR2⟩ : ∃ x, x = r2.length := ⟨_, rfl⟩
    rw [← hR0] at HI0 hm0 ⊢
    rw [← hR1] at HI1 hm1 hr1 ⊢
    rw [← hR2] at HI2 hm2 ⊢
    clear hR0 hR1 hR2
    go_enter Tryz.func4, Tryz.ntmps4
    go_wp2
    go_ret
    exact ⟨rfl, Below.refl _ _⟩
  · by_cases hr2 : 1048576 < r2.length
    · clear hs hi
      obtain ⟨R0, hR0⟩ : ∃ x, x = m0.length := ⟨_, rfl⟩
      obtain ⟨R1, hR1⟩ : ∃ x, x = r1.length := ⟨_, rfl⟩
      obtain ⟨R2, hR2⟩ : ∃ x, x = r2.length := ⟨_, rfl⟩
      rw [← hR0] at HI0 hm0 ⊢
      rw [← hR1] at HI1 hm1 hr1 ⊢
      rw [← hR2] at HI2 hm2 hr2 ⊢
      clear hR0 hR1 hR2
      go_enter Tryz.func4, Tryz.ntmps4
      go_wp2
      go_ret
      exact ⟨rfl, Below.refl _ _⟩
    · skip
      have HR1 : Hid (r1.length ≤ 2000000) := hide (by omega)
      have HR2 : Hid (r2.length ≤ 2000000) := hide (by omega)
      have hbb1 : (b_1 != b_1) = false := by cases b_1 <;> rfl
      go_enter Tryz.func4, Tryz.ntmps4
      go_wp2_with fail
      refine (szIntSS_any _ m0 (1048576) _ (by omega) HI0.out).mono ?_
      rintro e w1 ⟨q0, rfl, hq0, hb⟩
      have HB1 := hide (hb)
      have s1 := hb.size
      clear hb
      rcases hq0 with rfl | ⟨hsz0, rfl⟩
      · go_wp2
        go_ret
        exact ⟨rfl, HB1.out⟩
      · skip
        have HZ0 : Hid (m0.length + cellsM m0 ≤ 1048576) := hide (by omega)
        have HS := hide (hs); have HM := hide (hi)
        clear hs hi
        go_wp2_with fail
        refine (toIntSS_any _ m0 _ (by have := HZ0.out; omega) (inMat_below HI0.out HB1.out)).mono ?_
        rintro e w2 ⟨p0, rfl, ho, hb⟩
        have P0_2 := hide (ho)
        have HB2 := hide (HB1.out.trans (hb.mono HB1.out.size))
        have s2 := hb.size
        clear ho hb
        go_wp2_with fail
        refine (toIntS_any _ r1 _ HR1.out (inRow_below HI1.out HB2.out)).mono ?_
        rintro e w3 ⟨p1, rfl, ho, hb⟩
        have P0_3 := hide (ownMat_below P0_2.out hb)
        have P1L := hide (fun k e => (ho).lt k e)
        have P1_3 := hide (ho)
        have HB3 := hide (HB2.out.trans (hb.mono HB2.out.size))
        have s3 := hb.size
        clear ho hb
        go_wp2_with fail
        refine (toIntS_any _ r2 _ HR2.out (inRow_below HI2.out HB3.out)).mono ?_
        rintro e w4 ⟨p2, rfl, ho, hb⟩
        have P0_4 := hide (ownMat_below P0_3.out hb)
        have P1_4 := hide (own_below P1_3.out hb)
        have P2L := hide (fun k e => (ho).lt k e)
        have P2_4 := hide (ho)
        have HB4 := hide (HB3.out.trans (hb.mono HB3.out.size))
        have s4 := hb.size
        clear ho hb
        go_wp2_with fail
        refine (HS.out p0 p1 p2 _ (inMat_own P0_4.out) (rowC_own P1_4.out) (rowC_own P2_4.out)).mono ?_
        rintro e w5 ⟨u0, rfl, ho, hb⟩
        have U0_5 := hide (ho)
        have HB5 := hide (HB4.out.trans (hb.mono HB4.out.size))
        have s5 := hb.size
        clear ho hb
        go_wp2_with fail
        refine (toIntSS_any _ m0 _ (by have := HZ0.out; omega) (inMat_below HI0.out HB5.out)).mono ?_
        rintro e w6 ⟨x0, rfl, ho, hb⟩
        have U0_6 := hide (ownMat_below U0_5.out hb)
        have X0_6 := hide (ho)
        have HB6 := hide (HB5.out.trans (hb.mono HB5.out.size))
        have s6 := hb.size
        clear ho hb
        go_wp2_with fail
        refine (toIntS_any _ r1 _ HR1.out (inRow_below HI1.out HB6.out)).mono ?_
        rintro e w7 ⟨x1, rfl, ho, hb⟩
        have U0_7 := hide (ownMat_below U0_6.out hb)
        have X0_7 := hide (ownMat_below X0_6.out hb)
        have X1L := hide (fun k e => (ho).lt k e)
        have X1_7 := hide (ho)
        have HB7 := hide (HB6.out.trans (hb.mono HB6.out.size))
        have s7 := hb.size
        clear ho hb
        go_wp2_with fail
        refine (toIntS_any _ r2 _ HR2.out (inRow_below HI2.out HB7.out)).mono ?_
        rintro e w8 ⟨x2, rfl, ho, hb⟩
        have U0_8 := hide (ownMat_below U0_7.out hb)
        have X0_8 := hide (ownMat_below X0_7.out hb)
        have X1_8 := hide (own_below X1_7.out hb)
        have X2L := hide (fun k e => (ho).lt k e)
        have X2_8 := hide (ho)
        have HB8 := hide (HB7.out.trans (hb.mono HB7.out.size))
        have s8 := hb.size
        clear ho hb
        go_wp2_with fail
        refine (HM.out x0 x1 x2 _ (inMat_own X0_8.out) (rowC_own X1_8.out) (rowC_own X2_8.out)).mono ?_
        rintro e w9 ⟨g0, rfl, ho, hb⟩
        have U0_9 := hide (ownMat_below U0_8.out hb)
        have X0_9 := hide (ownMat_below X0_8.out hb)
        have X1_9 := hide (own_below X1_8.out hb)
        have X2_9 := hide (own_below X2_8.out hb)
        have G0_9 := hide (ho)
        have HB9 := hide (HB8.out.trans (hb.mono HB8.out.size))
        have s9 := hb.size
        clear ho hb
        go_wp2_with fail
        refine (eqIntSS_same g0 u0 m_0 _ (inMat_own G0_9.out) (inMat_own U0_9.out)).mono ?_
        rintro e w10 ⟨rfl, hb⟩
        have U0_10 := hide (ownMat_below U0_9.out hb)
        have X0_10 := hide (ownMat_below X0_9.out hb)
        have X1_10 := hide (own_below X1_9.out hb)
        have X2_10 := hide (own_below X2_9.out hb)
        have G0_10 := hide (ownMat_below G0_9.out hb)
        have HB10 := hide (HB9.out.trans (hb.mono HB9.out.size))
        have s10 := hb.size
        clear hb
        go_wp2_with fail
        refine (toIntSS_any _ m0 _ (by have := HZ0.out; omega) (inMat_below HI0.out HB10.out)).mono ?_
        rintro e w11 ⟨z0, rfl, ho, hb⟩
        have U0_11 := hide (ownMat_below U0_10.out hb)
        have X0_11 := hide (ownMat_below X0_10.out hb)
        have X1_11 := hide (own_below X1_10.out hb)
        have X2_11 := hide (own_below X2_10.out hb)
        have G0_11 := hide (ownMat_below G0_10.out hb)
        have Z0_11 := hide (ho)
        have HB11 := hide (HB10.out.trans (hb.mono HB10.out.size))
        have s11 := hb.size
        clear ho hb
        go_wp2_with fail
        refine (eqIntSS_same x0 z0 m0 _ (inMat_own X0_11.out) (inMat_own Z0_11.out)).mono ?_
        rintro e w12 ⟨rfl, hb⟩
        have U0_12 := hide (ownMat_below U0_11.out hb)
        have X0_12 := hide (ownMat_below X0_11.out hb)
        have X1_12 := hide (own_below X1_11.out hb)
        have X2_12 := hide (own_below X2_11.out hb)
        have G0_12 := hide (ownMat_below G0_11.out hb)
        have HB12 := hide (HB11.out.trans (hb.mono HB11.out.size))
        have s12 := hb.size
        clear hb
        go_wp2_with fail
        refine (toIntS_any _ r1 _ HR1.out (inRow_below HI1.out HB12.out)).mono ?_
        rintro e w13 ⟨z1, rfl, ho, hb⟩
        have U0_13 := hide (ownMat_below U0_12.out hb)
        have X0_13 := hide (ownMat_below X0_12.out hb)
        have X1_13 := hide (own_below X1_12.out hb)
        have X2_13 := hide (own_below X2_12.out hb)
        have G0_13 := hide (ownMat_below G0_12.out hb)
        have Z1L := hide (fun k e => (ho).lt k e)
        have Z1_13 := hide (ho)
        have HB13 := hide (HB12.out.trans (hb.mono HB12.out.size))
        have s13 := hb.size
        clear ho hb
        go_wp2_with fail
        refine (eqIntS_same x1 z1 r1 _ (inRow_own X1_13.out) (inRow_own Z1_13.out)).mono ?_
        rintro e w14 ⟨rfl, hb⟩
        have U0_14 := hide (ownMat_below U0_13.out hb)
        have X0_14 := hide (ownMat_below X0_13.out hb)
        have X1_14 := hide (own_below X1_13.out hb)
        have X2_14 := hide (own_below X2_13.out hb)
        have G0_14 := hide (ownMat_below G0_13.out hb)
        have HB14 := hide (HB13.out.trans (hb.mono HB13.out.size))
        have s14 := hb.size
        clear hb
        go_wp2_with fail
        refine (toIntS_any _ r2 _ HR2.out (inRow_below HI2.out HB14.out)).mono ?_
        rintro e w15 ⟨z2, rfl, ho, hb⟩
        have U0_15 := hide (ownMat_below U0_14.out hb)
        have X0_15 := hide (ownMat_below X0_14.out hb)
        have X1_15 := hide (own_below X1_14.out hb)
        have X2_15 := hide (own_below X2_14.out hb)
        have G0_15 := hide (ownMat_below G0_14.out hb)
        have Z2L := hide (fun k e => (ho).lt k e)
        have Z2_15 := hide (ho)
        have HB15 := hide (HB14.out.trans (hb.mono HB14.out.size))
        have s15 := hb.size
        clear ho hb
        go_wp2_with fail
        refine (eqIntS_same x2 z2 r2 _ (inRow_own X2_15.out) (inRow_own Z2_15.out)).mono ?_
        rintro e w16 ⟨rfl, hb⟩
        have U0_16 := hide (ownMat_below U0_15.out hb)
        have X0_16 := hide (ownMat_below X0_15.out hb)
        have X1_16 := hide (own_below X1_15.out hb)
        have X2_16 := hide (own_below X2_15.out hb)
        have G0_16 := hide (ownMat_below G0_15.out hb)
        have HB16 := hide (HB15.out.trans (hb.mono HB15.out.size))
        have s16 := hb.size
        clear hb
        go_wp2_with fail
        refine (markIntSS_any m0 1 _ _ x0 _ (by have := HZ0.out; omega) (by omega) X0_16.out).mono ?_
        rintro e w17 ⟨rfl, -, hwi⟩
        have U0_17 := hide (ownMat_within U0_16.out hwi (by omega))
        have X1_17 := hide (own_within X1_16.out hwi (fun k e => by have h1 := X1L.out k e; omega))
        have X2_17 := hide (own_within X2_16.out hwi (fun k e => by have h1 := X2L.out k e; omega))
        have G0_17 := hide (ownMat_within G0_16.out hwi (by omega))
        have HB17 := hide (HB16.out.trans (below_within hwi (by omega) HB16.out.size))
        have s17 := hwi.size
        clear hwi
        go_wp2_with fail
        refine (markIntS_any r1.length (1 + cellsM m0) x1 _ _ _ (by have := HR1.out; omega) (by have := HZ0.out; omega) X1_17.out).mono ?_
        rintro e w18 ⟨rfl, -, hg⟩
        have hwi := within_grown (lo := w6.heap.size) (hi := w7.heap.size) hg (fun k e => X1L.out k e); clear hg
        have U0_18 := hide (ownMat_within U0_17.out hwi (by omega))
        have X2_18 := hide (own_within X2_17.out hwi (fun k e => by have h1 := X2L.out k e; omega))
        have G0_18 := hide (ownMat_within G0_17.out hwi (by omega))
        have HB18 := hide (HB17.out.trans (below_within hwi (by omega) HB17.out.size))
        have s18 := hwi.size
        clear hwi
        go_wp2_with fail
        refine (markIntS_any r2.length (1 + cellsM m0 + r1.length) x2 _ _ _ (by have := HR2.out; omega) (by have := HZ0.out; have := HR1.out; omega) X2_18.out).mono ?_
        rintro e w19 ⟨rfl, -, hg⟩
        have hwi := within_grown (lo := w7.heap.size) (hi := w8.heap.size) hg (fun k e => X2L.out k e); clear hg
        have U0_19 := hide (ownMat_within U0_18.out hwi (by omega))
        have G0_19 := hide (ownMat_within G0_18.out hwi (by omega))
        have HB19 := hide (HB18.out.trans (below_within hwi (by omega) HB18.out.size))
        have s19 := hwi.size
        clear hwi
        go_wp2_with fail
        refine (eqIntSS_same g0 u0 m_0 _ (inMat_own G0_19.out) (inMat_own U0_19.out)).mono ?_
        rintro e w20 ⟨rfl, hb⟩
        have U0_20 := hide (ownMat_below U0_19.out hb)
        have G0_20 := hide (ownMat_below G0_19.out hb)
        have HB20 := hide (HB19.out.trans (hb.mono HB19.out.size))
        have s20 := hb.size
        clear hb
        go_wp2_with fail
        refine (markIntSS_any m_0 1 _ _ g0 _ (by omega) (by omega) G0_20.out).mono ?_
        rintro e w21 ⟨rfl, ho, hwi⟩
        have U0_21 := hide (ownMat_within U0_20.out hwi (by omega))
        have HB21 := hide (HB20.out.trans (below_within hwi (by omega) HB20.out.size))
        have s21 := hwi.size
        clear hwi
        have M_21 := hide (inMat_own ho); clear ho
        go_wp2_with fail
        refine (heldIntSS_any m_0 1 g0 _ (by omega) (by omega) M_21.out).mono ?_
        rintro e w22 ⟨rfl, hb⟩
        have U0_22 := hide (ownMat_below U0_21.out hb)
        have M_22 := hide (inMat_below M_21.out hb)
        have HB22 := hide (HB21.out.trans (hb.mono HB21.out.size))
        have s22 := hb.size
        clear hb
        go_wp2_with fail
        refine (toIntSS_any _ m0 _ (by have := HZ0.out; omega) (inMat_below HI0.out HB22.out)).mono ?_
        rintro e w23 ⟨y0, rfl, ho, hb⟩
        have U0_23 := hide (ownMat_below U0_22.out hb)
        have M_23 := hide (inMat_below M_22.out hb)
        have Y0_23 := hide (ho)
        have HB23 := hide (HB22.out.trans (hb.mono HB22.out.size))
        have s23 := hb.size
        clear ho hb
        go_wp2_with fail
        refine (toIntS_any _ r1 _ HR1.out (inRow_below HI1.out HB23.out)).mono ?_
        rintro e w24 ⟨y1, rfl, ho, hb⟩
        have U0_24 := hide (ownMat_below U0_23.out hb)
        have M_24 := hide (inMat_below M_23.out hb)
        have Y0_24 := hide (ownMat_below Y0_23.out hb)
        have Y1L := hide (fun k e => (ho).lt k e)
        have Y1_24 := hide (ho)
        have HB24 := hide (HB23.out.trans (hb.mono HB23.out.size))
        have s24 := hb.size
        clear ho hb
        go_wp2_with fail
        refine (toIntS_any _ r2 _ HR2.out (inRow_below HI2.out HB24.out)).mono ?_
        rintro e w25 ⟨y2, rfl, ho, hb⟩
        have U0_25 := hide (ownMat_below U0_24.out hb)
        have M_25 := hide (inMat_below M_24.out hb)
        have Y0_25 := hide (ownMat_below Y0_24.out hb)
        have Y1_25 := hide (own_below Y1_24.out hb)
        have Y2L := hide (fun k e => (ho).lt k e)
        have Y2_25 := hide (ho)
        have HB25 := hide (HB24.out.trans (hb.mono HB24.out.size))
        have s25 := hb.size
        clear ho hb
        go_wp2_with fail
        refine (HM.out y0 y1 y2 _ (inMat_own Y0_25.out) (rowC_own Y1_25.out) (rowC_own Y2_25.out)).mono ?_
        rintro e w26 ⟨h0, rfl, ho, hb⟩
        have U0_26 := hide (ownMat_below U0_25.out hb)
        have M_26 := hide (inMat_below M_25.out hb)
        have H0_26 := hide (ho)
        have HB26 := hide (HB25.out.trans (hb.mono HB25.out.size))
        have s26 := hb.size
        clear ho hb
        go_wp2_with fail
        refine (eqIntSS_same h0 u0 m_0 _ (inMat_own H0_26.out) (inMat_own U0_26.out)).mono ?_
        rintro e w27 ⟨rfl, hb⟩
        have U0_27 := hide (ownMat_below U0_26.out hb)
        have M_27 := hide (inMat_below M_26.out hb)
        have H0_27 := hide (ownMat_below H0_26.out hb)
        have HB27 := hide (HB26.out.trans (hb.mono HB26.out.size))
        have s27 := hb.size
        clear hb
        go_wp2_with fail
        refine (heldIntSS_any m_0 1 g0 _ (by omega) (by omega) M_27.out).mono ?_
        rintro e w28 ⟨rfl, hb⟩
        have M_28 := hide (inMat_below M_27.out hb)
        have HB28 := hide (HB27.out.trans (hb.mono HB27.out.size))
        have s28 := hb.size
        clear hb
        go_wp2
        go_ret
        exact ⟨rfl, HB28.out⟩

set_option maxRecDepth 100000 in
set_option maxHeartbeats 4000000 in
theorem lawMaskedCount_gen (a0 : Option Addr) (n0 c0 : Nat) (m0 : List (List Int)) (a1 : Option Addr) (n1 c1 : Nat) (r1 : List Int) (a2 : Option Addr) (n2 c2 : Nat) (r2 : List Int) (w : World) (hin0 : InMat w (.slice a0 n0 c0) m0) (hin1 : InRow w (.slice a1 n1 c1) r1) (hin2 : InRow w (.slice a2 n2 c2) r2) (v_0 : Int) 
    (hs : ∀ (v0 v1 v2 : Value) (w : World), InMat w v0 m0 → RowC w v1 r1 → RowC w v2 r2 → Calls Tryz.prog 18 #[v0, v1, v2] w (fun e w' => e = .returned (.int .i64 v_0) ∧ Below w.heap.size w w'))
    (hi : ∀ (v0 v1 v2 : Value) (w : World), InMat w v0 m0 → RowC w v1 r1 → RowC w v2 r2 → Calls Tryz.prog 19 #[v0, v1, v2] w (fun e w' => e = .returned (.int .i64 v_0) ∧ Below w.heap.size w w')) :
    Calls Tryz.prog 5 #[.slice a0 n0 c0, .slice a1 n1 c1, .slice a2 n2 c2] w fun e w' => e = .returned (.bool true) ∧ Below w.heap.size w w' := by
  have HI0 := hide hin0
  obtain ⟨a', c', he, hm0, -⟩ := hin0
  cases he
  unfold maxLen at hm0
  have HI1 := hide hin1
  obtain ⟨a', c', he, hm1, -⟩ := hin1
  cases he
  unfold maxLen at hm1
  have HI2 := hide hin2
  obtain ⟨a', c', he, hm2, -⟩ := hin2
  cases he
  unfold maxLen at hm2
  by_cases hr1 : 1048576 < r1.length
  · clear hs hi
    obtain ⟨R0, hR0⟩ : ∃ x, x = m0.length := ⟨_, rfl⟩
    obtain ⟨R1, hR1⟩ : ∃ x, x = r1.length := ⟨_, rfl⟩
    obtain ⟨R2, hR2⟩ : ∃ x, x = r2.length := ⟨_, rfl⟩
    rw [← hR0] at HI0 hm0 ⊢
    rw [← hR1] at HI1 hm1 hr1 ⊢
    rw [← hR2] at HI2 hm2 ⊢
    clear hR0 hR1 hR2
    go_enter Tryz.func5, Tryz.ntmps5
    go_wp2
    go_ret
    exact ⟨rfl, Below.refl _ _⟩
  · by_cases hr2 : 1048576 < r2.length
    · clear hs hi
      obtain ⟨R0, hR0⟩ : ∃ x, x = m0.length := ⟨_, rfl⟩
      obtain ⟨R1, hR1⟩ : ∃ x, x = r1.length := ⟨_, rfl⟩
      obtain ⟨R2, hR2⟩ : ∃ x, x = r2.length := ⟨_, rfl⟩
      rw [← hR0] at HI0 hm0 ⊢
      rw [← hR1] at HI1 hm1 hr1 ⊢
      rw [← hR2] at HI2 hm2 hr2 ⊢
      clear hR0 hR1 hR2
      go_enter Tryz.func5, Tryz.ntmps5
      go_wp2
      go_ret
      exact ⟨rfl, Below.refl _ _⟩
    · skip
      have HR1 : Hid (r1.length ≤ 2000000) := hide (by omega)
      have HR2 : Hid (r2.length ≤ 2000000) := hide (by omega)
      go_enter Tryz.func5, Tryz.ntmps5
      go_wp2_with fail
      refine (szIntSS_any _ m0 (1048576) _ (by omega) HI0.out).mono ?_
      rintro e w1 ⟨q0, rfl, hq0, hb⟩
      have HB1 := hide (hb)
      have s1 := hb.size
      clear hb
      rcases hq0 with rfl | ⟨hsz0, rfl⟩
      · go_wp2
        go_ret
        exact ⟨rfl, HB1.out⟩
      · skip
        have HZ0 : Hid (m0.length + cellsM m0 ≤ 1048576) := hide (by omega)
        have HS := hide (hs); have HM := hide (hi)
        clear hs hi
        go_wp2_with fail
        refine (toIntSS_any _ m0 _ (by have := HZ0.out; omega) (inMat_below HI0.out HB1.out)).mono ?_
        rintro e w2 ⟨p0, rfl, ho, hb⟩
        have P0_2 := hide (ho)
        have HB2 := hide (HB1.out.trans (hb.mono HB1.out.size))
        have s2 := hb.size
        clear ho hb
        go_wp2_with fail
        refine (toIntS_any _ r1 _ HR1.out (inRow_below HI1.out HB2.out)).mono ?_
        rintro e w3 ⟨p1, rfl, ho, hb⟩
        have P0_3 := hide (ownMat_below P0_2.out hb)
        have P1L := hide (fun k e => (ho).lt k e)
        have P1_3 := hide (ho)
        have HB3 := hide (HB2.out.trans (hb.mono HB2.out.size))
        have s3 := hb.size
        clear ho hb
        go_wp2_with fail
        refine (toIntS_any _ r2 _ HR2.out (inRow_below HI2.out HB3.out)).mono ?_
        rintro e w4 ⟨p2, rfl, ho, hb⟩
        have P0_4 := hide (ownMat_below P0_3.out hb)
        have P1_4 := hide (own_below P1_3.out hb)
        have P2L := hide (fun k e => (ho).lt k e)
        have P2_4 := hide (ho)
        have HB4 := hide (HB3.out.trans (hb.mono HB3.out.size))
        have s4 := hb.size
        clear ho hb
        go_wp2_with fail
        refine (HS.out p0 p1 p2 _ (inMat_own P0_4.out) (rowC_own P1_4.out) (rowC_own P2_4.out)).mono ?_
        rintro e w5 ⟨rfl, hb⟩
        have HB5 := hide (HB4.out.trans (hb.mono HB4.out.size))
        have s5 := hb.size
        clear hb
        go_wp2_with fail
        refine (toIntSS_any _ m0 _ (by have := HZ0.out; omega) (inMat_below HI0.out HB5.out)).mono ?_
        rintro e w6 ⟨x0, rfl, ho, hb⟩
        have X0_6 := hide (ho)
        have HB6 := hide (HB5.out.trans (hb.mono HB5.out.size))
        have s6 := hb.size
        clear ho hb
        go_wp2_with fail
        refine (toIntS_any _ r1 _ HR1.out (inRow_below HI1.out HB6.out)).mono ?_
        rintro e w7 ⟨x1, rfl, ho, hb⟩
        have X0_7 := hide (ownMat_below X0_6.out hb)
        have X1L := hide (fun k e => (ho).lt k e)
        have X1_7 := hide (ho)
        have HB7 := hide (HB6.out.trans (hb.mono HB6.out.size))
        have s7 := hb.size
        clear ho hb
        go_wp2_with fail
        refine (toIntS_any _ r2 _ HR2.out (inRow_below HI2.out HB7.out)).mono ?_
        rintro e w8 ⟨x2, rfl, ho, hb⟩
        have X0_8 := hide (ownMat_below X0_7.out hb)
        have X1_8 := hide (own_below X1_7.out hb)
        have X2L := hide (fun k e => (ho).lt k e)
        have X2_8 := hide (ho)
        have HB8 := hide (HB7.out.trans (hb.mono HB7.out.size))
        have s8 := hb.size
        clear ho hb
        go_wp2_with fail
        refine (HM.out x0 x1 x2 _ (inMat_own X0_8.out) (rowC_own X1_8.out) (rowC_own X2_8.out)).mono ?_
        rintro e w9 ⟨rfl, hb⟩
        have X0_9 := hide (ownMat_below X0_8.out hb)
        have X1_9 := hide (own_below X1_8.out hb)
        have X2_9 := hide (own_below X2_8.out hb)
        have HB9 := hide (HB8.out.trans (hb.mono HB8.out.size))
        have s9 := hb.size
        clear hb
        go_wp2_with fail
        refine (toIntSS_any _ m0 _ (by have := HZ0.out; omega) (inMat_below HI0.out HB9.out)).mono ?_
        rintro e w10 ⟨z0, rfl, ho, hb⟩
        have X0_10 := hide (ownMat_below X0_9.out hb)
        have X1_10 := hide (own_below X1_9.out hb)
        have X2_10 := hide (own_below X2_9.out hb)
        have Z0_10 := hide (ho)
        have HB10 := hide (HB9.out.trans (hb.mono HB9.out.size))
        have s10 := hb.size
        clear ho hb
        go_wp2_with fail
        refine (eqIntSS_same x0 z0 m0 _ (inMat_own X0_10.out) (inMat_own Z0_10.out)).mono ?_
        rintro e w11 ⟨rfl, hb⟩
        have X0_11 := hide (ownMat_below X0_10.out hb)
        have X1_11 := hide (own_below X1_10.out hb)
        have X2_11 := hide (own_below X2_10.out hb)
        have HB11 := hide (HB10.out.trans (hb.mono HB10.out.size))
        have s11 := hb.size
        clear hb
        go_wp2_with fail
        refine (toIntS_any _ r1 _ HR1.out (inRow_below HI1.out HB11.out)).mono ?_
        rintro e w12 ⟨z1, rfl, ho, hb⟩
        have X0_12 := hide (ownMat_below X0_11.out hb)
        have X1_12 := hide (own_below X1_11.out hb)
        have X2_12 := hide (own_below X2_11.out hb)
        have Z1L := hide (fun k e => (ho).lt k e)
        have Z1_12 := hide (ho)
        have HB12 := hide (HB11.out.trans (hb.mono HB11.out.size))
        have s12 := hb.size
        clear ho hb
        go_wp2_with fail
        refine (eqIntS_same x1 z1 r1 _ (inRow_own X1_12.out) (inRow_own Z1_12.out)).mono ?_
        rintro e w13 ⟨rfl, hb⟩
        have X0_13 := hide (ownMat_below X0_12.out hb)
        have X1_13 := hide (own_below X1_12.out hb)
        have X2_13 := hide (own_below X2_12.out hb)
        have HB13 := hide (HB12.out.trans (hb.mono HB12.out.size))
        have s13 := hb.size
        clear hb
        go_wp2_with fail
        refine (toIntS_any _ r2 _ HR2.out (inRow_below HI2.out HB13.out)).mono ?_
        rintro e w14 ⟨z2, rfl, ho, hb⟩
        have X0_14 := hide (ownMat_below X0_13.out hb)
        have X1_14 := hide (own_below X1_13.out hb)
        have X2_14 := hide (own_below X2_13.out hb)
        have Z2L := hide (fun k e => (ho).lt k e)
        have Z2_14 := hide (ho)
        have HB14 := hide (HB13.out.trans (hb.mono HB13.out.size))
        have s14 := hb.size
        clear ho hb
        go_wp2_with fail
        refine (eqIntS_same x2 z2 r2 _ (inRow_own X2_14.out) (inRow_own Z2_14.out)).mono ?_
        rintro e w15 ⟨rfl, hb⟩
        have X0_15 := hide (ownMat_below X0_14.out hb)
        have X1_15 := hide (own_below X1_14.out hb)
        have X2_15 := hide (own_below X2_14.out hb)
        have HB15 := hide (HB14.out.trans (hb.mono HB14.out.size))
        have s15 := hb.size
        clear hb
        go_wp2
        go_ret
        exact ⟨rfl, HB15.out⟩

theorem maskedIm_small (k : List (List Int)) (r c : List Int) : (maskedIm k r c).length + cellsM (maskedIm k r c) ≤ 1000000 := by
  unfold maskedIm
  split
  · rename_i h
    cases e : maskedL k r c with
    | nil => simp [cellsM]
    | cons m l =>
      have hm : m ∈ allIm r c := (List.mem_filter.1 (show m ∈ maskedL k r c by rw [e]; exact List.mem_cons_self)).1
      obtain ⟨h1, h2, h3⟩ := meets_size.okB_parts (allIm_ok hm)
      have : cellsM m ≤ 5 * m.length := by
        clear e hm h1
        have hq : ∀ q ∈ m, q.length ≤ 5 := fun q hq => by
          obtain ⟨i, hi, rfl⟩ := List.getElem_of_mem hq
          rw [(h3 i hi).1]; exact h2.2
        clear h2 h3
        unfold cellsM
        induction m with
        | nil => simp
        | cons q m ih =>
          have h1 := ih fun x hx => hq x (List.mem_cons_of_mem _ hx)
          have h2 := hq q List.mem_cons_self
          simp only [List.map_cons, List.sum_cons, List.length_cons]; omega
      simp only [List.headD_cons]; omega
  · simp [cellsM]
theorem lawMaskedImage_walk (a0 : Option Addr) (n0 c0 : Nat) (m0 : List (List Int)) (a1 : Option Addr) (n1 c1 : Nat) (r1 : List Int) (a2 : Option Addr) (n2 c2 : Nat) (r2 : List Int) (w : World) (hin0 : InMat w (.slice a0 n0 c0) m0) (hin1 : InRow w (.slice a1 n1 c1) r1) (hin2 : InRow w (.slice a2 n2 c2) r2) :
    Calls Tryz.prog 4 #[.slice a0 n0 c0, .slice a1 n1 c1, .slice a2 n2 c2] w fun e w' => e = .returned (.bool true) ∧ Below w.heap.size w w' :=
  lawMaskedImage_gen a0 n0 c0 m0 a1 n1 c1 r1 a2 n2 c2 r2 w hin0 hin1 hin2 (maskedIm m0 r1 r2) (maskedImB m0 r1 r2) (maskedIm_small m0 r1 r2)
    (fun v0 v1 v2 w h0 h1 h2 => specMaskedImage_any v0 v1 v2 m0 r1 r2 w h0 h1 h2) (fun v0 v1 v2 w h0 h1 h2 => implMaskedImage_any v0 v1 v2 m0 r1 r2 w h0 h1 h2.1)
theorem lawMaskedCount_walk (a0 : Option Addr) (n0 c0 : Nat) (m0 : List (List Int)) (a1 : Option Addr) (n1 c1 : Nat) (r1 : List Int) (a2 : Option Addr) (n2 c2 : Nat) (r2 : List Int) (w : World) (hin0 : InMat w (.slice a0 n0 c0) m0) (hin1 : InRow w (.slice a1 n1 c1) r1) (hin2 : InRow w (.slice a2 n2 c2) r2) :
    Calls Tryz.prog 5 #[.slice a0 n0 c0, .slice a1 n1 c1, .slice a2 n2 c2] w fun e w' => e = .returned (.bool true) ∧ Below w.heap.size w w' :=
  lawMaskedCount_gen a0 n0 c0 m0 a1 n1 c1 r1 a2 n2 c2 r2 w hin0 hin1 hin2 (maskedCnt m0 r1 r2)
    (fun v0 v1 v2 w h0 h1 h2 => specMaskedCount_any v0 v1 v2 m0 r1 r2 w h0 h1 h2) (fun v0 v1 v2 w h0 h1 h2 => implMaskedCount_any v0 v1 v2 m0 r1 r2 w h0 h1 h2.1)
end Go.Proofs.YtbogeghoekmbhaaGreat
/-
  slices.Grow of nil, slices.Concat of rows, and the count of fixed cells.
-/
namespace Go.Proofs
open Go.Shelf
shelf_lay_g Lays8.n4 Nm8 4 at Tryz 62 as Tryz.growI
end Go.Proofs
namespace Go.Proofs.YtbogeghoekmbhaaGreat
open Go.RowKit Go.Shelf

theorem grow_nil (n : Nat) (w : World) (hn : n ≤ 1000) :
    Calls Tryz.prog 62 #[.slice none 0 0, .int .i64 n] w fun e w' => ∃ u, e = .returned u ∧ w'.ownsRow w.heap.size 3 1 u 0 [] ∧ Below w.heap.size w w' := by
  obtain ⟨i0, hi, hz0, hz1, hz2⟩ := info_parts Tryz.infoInt
  by_cases h0 : n = 0
  · subst h0
    refine (Any8.slices_Grow_room Tryz.growI none 0 0 0 w (by omega) (by omega) (by omega) (by omega)).mono ?_
    rintro e w' ⟨rfl, rfl⟩
    exact ⟨_, rfl, World.ownsRow_nil _ _ _ _, Below.refl _ _⟩
  · refine (Any8.slices_Grow_grow Tryz.growI i0 (.int .i64 0) hi hz0 (by rw [hz1]; decide) none 0 0 n [] w (by omega) (by omega) (by rw [hz2]; omega) (by omega) (by simp) (fun _ => rfl) (fun a ha => by cases ha)).mono ?_
    rintro e w' ⟨rfl, rfl⟩
    have hG : 0 + n ≤ grownCap w (0 + n) 0 3 := grownCap_ge w _ _ _
    have hM : grownCap w (0 + n) 0 3 ≤ maxLen := grownCap_le_maxLen w _ _ _ (by unfold maxLen; omega)
    refine ⟨_, rfl, World.ownsRow_made w.drew _ _ (Nat.le_refl _) hM ?_, (below_drew (Below.refl _ w)).alloc (Nat.le_refl _) _⟩
    have e25 : Tryz.growI_ren.t 25 = 3 := rfl
    rw [Nat.zero_add] at hG
    simp [Builtin.zeroCells, Value.cells, e25]
    omega
end Go.Proofs.YtbogeghoekmbhaaGreat
/-
  slices.Concat of rows, and the count of fixed cells.
-/
namespace Go.Proofs.YtbogeghoekmbhaaGreat
open Go.RowKit


set_option maxHeartbeats 400000 in
theorem countAtLeast_big (v : Value) (r : List Int) (t : Int) (w : World) (hin : InRow w v r) (hn : r.length ≤ 1000) :
    Calls Tryz.prog 40 #[v, .int .i64 t] w fun e w' => e = .returned (.int .i64 (atLeast t r : Nat)) ∧ w = w' := by
  obtain ⟨a, c, rfl, hm, hp⟩ := hin
  unfold maxLen at hm
  have HP := hide fun h : r.length ≠ 0 => hp.resolve_left h
  obtain ⟨n, hnn⟩ : ∃ n, n = r.length := ⟨_, rfl⟩
  have HN := hide hnn
  rw [← hnn] at hm hn ⊢
  clear hp hnn
  go_enter Tryz.func40, Tryz.ntmps40
  go_wp2
  go_loop [5, 10] (fun s i => ∃ k : Nat, k ≤ n ∧ i = .int .i64 k ∧ s = .int .i64 (atLeast t (r.take k) : Nat)) (fun _ i => n - (intOf i).toNat)
  case atStart => exact ⟨0, Nat.zero_le _, rfl, rfl⟩
  case round =>
    obtain ⟨k, hk, rfl, rfl⟩ := hrel
    have hle := Nat.le_trans (atLeast_le t (r.take k)) (show (r.take k).length ≤ 1000 by rw [List.length_take]; have := HN.out; omega)
    by_cases hlt : k < n
    · obtain ⟨g, o, rfl, hg, hc⟩ := HP.out (by have := HN.out; omega)
      have hk' : k < r.length := by rw [← HN.out]; exact hlt
      have hx := hc k hk'
      have HAT := hide (atLeast_take t r k hk')
      obtain ⟨x, hxx⟩ : ∃ x, x = r[k] := ⟨_, rfl⟩
      obtain ⟨q, hq⟩ : ∃ q, q = atLeast t (r.take k) := ⟨_, rfl⟩
      rw [← hxx] at hx HAT
      rw [← hq] at hle HAT ⊢
      clear hxx hq hc
      by_cases htx : t ≤ x
      · have HAT2 : Hid (atLeast t (r.take (k + 1)) = q + 1) := hide (by rw [HAT.out, if_pos htx])
        clear HAT
        go_wp2
        go_round
        case rel => exact ⟨k + 1, by omega, by go_num, by rw [HAT2.out]; go_num⟩
        case measure => simp [intOf]; omega
      · have HAT2 : Hid (atLeast t (r.take (k + 1)) = q) := hide (by rw [HAT.out, if_neg htx]; rfl)
        clear HAT
        go_wp2
        go_round
        case rel => exact ⟨k + 1, by omega, by go_num, by rw [HAT2.out]⟩
        case measure => simp [intOf]; omega
    · have HE : Hid (r.take k = r) := hide (List.take_of_length_le (by have := HN.out; omega))
      rw [HE.out] at hle ⊢
      go_wp2
      go_ret
      exact ⟨rfl, rfl⟩
set_option maxHeartbeats 1000000 in
theorem concat_any (v : Value) (m : List (List Int)) (w : World) (hin : InMat w v m) (hn : m.length ≤ 5) (hr : ∀ q ∈ m, 0 < q.length ∧ q.length ≤ 5) :
    Calls Tryz.prog 41 #[v] w (IntsRes m.flatten w) := by
  obtain ⟨a, c, rfl, -, hp⟩ := hin
  have HP := hide fun (h : 0 < m.length) => hp.resolve_left (by omega)
  have hcm : ∀ k, k ≤ m.length → cellsM (m.take k) ≤ 5 * k := by
    intro k
    induction k with
    | zero => intro _; simp [cellsM]
    | succ k ih =>
      intro hk
      have h1 := ih (by omega)
      have h2 := (hr _ (List.getElem_mem (show k < m.length by omega))).2
      rw [cells_snoc m k (by omega)]; omega
  have HCM := hide hcm; have HR := hide hr
  obtain ⟨n, hnn⟩ : ∃ n, n = m.length := ⟨_, rfl⟩
  have HN := hide hnn
  rw [← hnn] at HCM hn ⊢
  clear hp hcm hr hnn
  go_enter Tryz.func41, Tryz.ntmps41
  go_wp2
  go_loop [3, 11] (fun s i => ∃ j t : Nat, j ≤ n ∧ i = .int .i64 j ∧ s = .int .i64 t ∧ cellsM (m.take j) = t ∧ t ≤ 25) (fun _ i => n - (intOf i).toNat)
  case atStart => exact ⟨0, 0, Nat.zero_le _, rfl, rfl, by simp [cellsM], by omega⟩
  case round =>
    obtain ⟨j, t, hj, rfl, rfl, ht, ht5⟩ := hrel
    have HT := hide ht
    clear ht
    by_cases hlt : j < n
    · obtain ⟨g, o, rfl, hg, hc⟩ := HP.out (by rw [← HN.out]; omega)
      obtain ⟨u, hx, hru⟩ := hc j (by rw [← HN.out]; exact hlt)
      have HS := hide (cells_snoc m j (by rw [← HN.out]; exact hlt))
      have HC1 := hide (HCM.out (j + 1) (by omega))
      obtain ⟨ua, uc, rfl, -, -⟩ := hru
      obtain ⟨k, hk⟩ : ∃ k, k = (m[j]'(by rw [← HN.out]; exact hlt)).length := ⟨_, rfl⟩
      rw [← hk] at hx HS
      have hk5 : t + k ≤ 25 := by have h1 := HS.out; have h2 := HC1.out; have h3 := HT.out; omega
      clear hc hk
      go_wp2
      go_round
      case rel => exact ⟨j + 1, t + k, by omega, by go_num, by go_num, by rw [HS.out, HT.out], hk5⟩
      case measure => simp [intOf]; omega
    · obtain rfl : j = n := by omega
      go_wp2_with fail
      refine (grow_nil t w (by omega)).mono ?_
      rintro e w1 ⟨u1, rfl, ho, hb⟩
      obtain ⟨xa, xc, rfl⟩ := own_slice ho
      have HO1 := hide ho; have HB1 := hide hb
      clear ho hb
      go_wp2
      go_loopw [6, 27] (fun s i w' => ∃ k : Nat, ∃ (q : Option Addr) (p cp : Nat), k ≤ j ∧ i = .int .i64 k ∧ s = .slice q p cp ∧ (p = (m.take k).flatten.length ∧ p ≤ 5 * k ∧ w'.ownsRow w.heap.size 3 1 (.slice q p cp) p (ints (m.take k).flatten)) ∧ Below w.heap.size w w') (fun _ i _ => j - (intOf i).toNat)
      case atStart => exact ⟨0, _, _, _, Nat.zero_le _, rfl, rfl, ⟨by simp, by simp, by simpa [ints] using HO1.out⟩, HB1.out⟩
      case round =>
        obtain ⟨k, q, p, cp, hk, rfl, rfl, ⟨hpl, hp5, hown⟩, hb⟩ := hrel
        have HPL := hide hpl; have HOW := hide hown; have HB2 := hide hb
        clear hpl hown hb
        by_cases hlk : k < j
        · obtain ⟨g, o, rfl, hg, hc⟩ := HP.out (by rw [← HN.out]; omega)
          have hkm : k < m.length := by rw [← HN.out]; exact hlk
          obtain ⟨u, hx, hru⟩ := hc k hkm
          have hx := below_cell HB2.out hg hx
          have hru := inRow_below hru HB2.out
          have HRR := hide (HR.out _ (List.getElem_mem hkm))
          have HTK := hide (show (m.take (k + 1)).flatten = (m.take k).flatten ++ m[k] by rw [List.take_succ_eq_append_getElem hkm, List.flatten_append, List.flatten_cons, List.flatten_nil, List.append_nil])
          obtain ⟨row, hrow⟩ : ∃ row, row = m[k] := ⟨_, rfl⟩
          rw [← hrow] at hru HRR HTK
          obtain ⟨ua, uc, rfl, -, hpp⟩ := hru
          obtain ⟨g2, o2, rfl, hg2, hc2⟩ := hpp.resolve_left (by have := HRR.out; omega)
          have HC2 := hide hc2
          have hbs : w.heap.size ≤ wr.heap.size := HB2.out.size
          have hr5 := HRR.out.2
          clear hc hrow hpp hc2
          go_wp2_with (at_builtin; (with_reducible refine wpList_appendRow 33 rfl HOW.out row g2 o2 uc (.int .i64 0) rfl _ _ rfl Tryz.underlying28 Tryz.infoInt rfl (by decide) rfl rfl HC2.out (by omega) hbs ?_); rintro v' w2 ho2 hb2 -; obtain ⟨ya, yc, rfl⟩ := own_slice ho2; have HO2 := hide ho2; have HB3 := hide (HB2.out.trans hb2); clear ho2 hb2)
          go_roundw
          case rel => exact ⟨k + 1, _, _, _, by omega, by go_num, rfl, ⟨by rw [HTK.out, List.length_append, HPL.out], by omega, by rw [HTK.out]; have := HO2.out; simpa [ints] using this⟩, HB3.out⟩
          case measure => simp [intOf]; omega
        · obtain rfl : k = j := by omega
          have HE := hide (show m.take k = m from List.take_of_length_le (by rw [← HN.out]; exact Nat.le_refl _))
          go_wp2
          go_ret
          have h1 := HPL.out
          have h2 := HOW.out
          rw [HE.out] at h1 h2
          subst h1
          exact ⟨_, rfl, h2, HB2.out⟩

set_option maxHeartbeats 400000 in
theorem countFixed_any (v : Value) (m : List (List Int)) (w : World) (hin : InMat w v m) (hn : m.length ≤ 5) (hr : ∀ q ∈ m, 0 < q.length ∧ q.length ≤ 5) :
    Calls Tryz.prog 24 #[v] w fun e w' => e = .returned (.int .i64 (atLeast 0 m.flatten : Nat)) ∧ Below w.heap.size w w' := by
  have HC := hide (concat_any v m w hin hn hr)
  have hfl : m.flatten.length ≤ 1000 := by
    have key : ∀ l : List (List Int), (∀ q ∈ l, q.length ≤ 5) → l.flatten.length ≤ 5 * l.length := by
      intro l
      induction l with
      | nil => intro _; simp
      | cons x l ih =>
        intro h
        have h3 := ih fun q hq => h q (List.mem_cons_of_mem _ hq)
        have h4 := h x (by simp)
        simp only [List.flatten_cons, List.length_append, List.length_cons]; omega
    have := key m fun q hq => (hr q hq).2
    omega
  obtain ⟨a, c, rfl, -, -⟩ := hin
  have HF := hide hfl
  generalize m.length = n at HC
  obtain ⟨fl, hfe⟩ : ∃ fl, fl = m.flatten := ⟨_, rfl⟩
  rw [← hfe] at HC HF ⊢
  clear hn hr hfl hfe
  go_enter Tryz.func24, Tryz.ntmps24
  go_wp2_with fail
  refine HC.out.mono ?_
  rintro e w1 ⟨u, rfl, ho, hb⟩
  have HB := hide hb; have HI := hide (inRow_own ho)
  clear ho hb
  go_wp2_with fail
  refine (countAtLeast_big u fl 0 w1 HI.out HF.out).mono ?_
  rintro e w2 ⟨rfl, rfl⟩
  go_wp2
  go_ret
  exact ⟨rfl, HB.out⟩
end Go.Proofs.YtbogeghoekmbhaaGreat
/-
  FixedCells of the program.
-/
namespace Go.Proofs.YtbogeghoekmbhaaGreat
open Go.RowKit Go.Shelf
attribute [local go_sem] Oper.semAt_some

def cellI (m : List (List Int)) (y x : Nat) : Int := (m.getD y []).getD x 0
def fixF (f : Nat → Nat → Int) (ms : List (List (List Int))) : Nat → Nat → Int := ms.foldl (fun f m => frF f (cellI m)) f
theorem fixF_snoc (f : Nat → Nat → Int) (ms : List (List (List Int))) (m : List (List Int)) : fixF f (ms ++ [m]) = frF (fixF f ms) (cellI m) := by unfold fixF; rw [List.foldl_append]; rfl
theorem fixF_free (f : Nat → Nat → Int) (y x : Nat) : ∀ (ms : List (List (List Int))) , f y x = -1 → fixF f ms y x = -1
  | [], h => h
  | m :: ms, h => by
    show fixF (frF f (cellI m)) ms y x = -1
    refine fixF_free _ y x ms ?_
    unfold frF; rw [h]; split <;> rfl
theorem fixF_or (y x : Nat) : ∀ (ms : List (List (List Int))) (f : Nat → Nat → Int), fixF f ms y x = f y x ∨ fixF f ms y x = -1
  | [], _ => .inl rfl
  | m :: ms, f => by
    rcases fixF_or y x ms (frF f (cellI m)) with h | h
    · by_cases e : f y x = cellI m y x
      · exact .inl (by show fixF (frF f (cellI m)) ms y x = _; rw [h, frF, if_pos e])
      · exact .inr (by show fixF (frF f (cellI m)) ms y x = _; rw [h, frF, if_neg e])
    · exact .inr h
/-- The cells that all images with these sums agree in; -1 elsewhere. -/
def fixedIm (r c : List Int) : List (List Int) := if existsOf r c = true then mkM r.length c.length (fixF (cellI (imgL leastCh r c)) (allL r c)) else []
theorem mkM_cellI {R C : Nat} {m : List (List Int)} (h1 : m.length = R) (h2 : ∀ q ∈ m, q.length = C) : m = mkM R C (cellI m) := by
  apply List.ext_getElem
  · rw [mkM_len, h1]
  · intro y hy1 hy2
    rw [mkM_at]
    apply List.ext_getElem
    · rw [rowF_len, h2 _ (List.getElem_mem hy1)]
    · intro x hx1 hx2
      rw [rowF_at, cellI, List.getD_eq_getElem?_getD, List.getD_eq_getElem?_getD, List.getElem?_eq_getElem hy1, Option.getD_some, List.getElem?_eq_getElem hx1]; rfl
theorem mkM_ext {R C : Nat} {f g : Nat → Nat → Int} (h : ∀ y x, y < R → x < C → f y x = g y x) : mkM R C f = mkM R C g := by
  apply List.ext_getElem
  · simp [mkM]
  · intro y h1 h2
    rw [mkM_at, mkM_at]
    rw [mkM_len] at h1
    apply List.ext_getElem
    · simp [rowF_len]
    · intro x h3 h4
      rw [rowF_len] at h3
      rw [rowF_at, rowF_at]; exact h y x h1 h3
theorem all_free {R C : Nat} {f0 : Nat → Nat → Int} {pre t : List (List (List Int))} (h0 : ∀ y x, y < R → x < C → f0 y x = 0 ∨ f0 y x = 1) (h : atLeast 0 (mkM R C (fixF f0 pre)).flatten = 0) : mkM R C (fixF f0 (pre ++ t)) = mkM R C (fixF f0 pre) := by
  refine mkM_ext fun y x hy hx => ?_
  have hneg : fixF f0 pre y x < 0 := by
    rw [atLeast, List.countP_eq_zero] at h
    have hmem : fixF f0 pre y x ∈ (mkM R C (fixF f0 pre)).flatten := by
      rw [List.mem_flatten]
      have hy' : y < (mkM R C (fixF f0 pre)).length := by rw [mkM_len]; exact hy
      have hx' : x < ((mkM R C (fixF f0 pre))[y]).length := by rw [mkM_at, rowF_len]; exact hx
      refine ⟨_, List.getElem_mem hy', ?_⟩
      have := List.getElem_mem hx'
      have e : ((mkM R C (fixF f0 pre))[y])[x] = fixF f0 pre y x := by simp [mkM_at, rowF_at]
      rw [e] at this; exact this
    have := h _ hmem
    simp only [decide_eq_true_eq] at this
    omega
  have hfree : fixF f0 pre y x = -1 := by
    rcases fixF_or y x pre f0 with e | e
    · rcases h0 y x hy hx with e2 | e2 <;> omega
    · exact e
  rw [hfree]
  unfold fixF
  rw [List.foldl_append]
  exact fixF_free _ y x t hfree
theorem least_cells {r c : List Int} (h : existsOf r c = true) : imgL leastCh r c = mkM r.length c.length (cellI (imgL leastCh r c)) ∧ ∀ y x, y < r.length → x < c.length → cellI (imgL leastCh r c) y x = 0 ∨ cellI (imgL leastCh r c) y x = 1 := by
  obtain ⟨hr, hc, -⟩ := sumsOk_yes (existsOf_sums h)
  obtain ⟨l, hl⟩ := all_first r c hr.2 hc (img_of_exists h)
  obtain ⟨h1, h2, h3⟩ := all_sound r c hr.2 hc (img_of_exists h) (imgL leastCh r c) (by rw [hl]; simp)
  refine ⟨mkM_cellI h1 h2, fun y x hy hx => ?_⟩
  exact h3.1 y x hy hx

/-- What is known while images are looked at: the box q, the cells in it. -/
def FixSt (lo q R C : Nat) (v : Value) (f0 : Nat → Nat → Int) (pre : List (List (List Int))) (A : Nat → Prop) (W : World) : Prop :=
  ((∀ k, A k ↔ lo ≤ k ∧ k ≤ q) ∧ lo ≤ q) ∧ Boxed W q 22 v ∧ OwnMat W lo q v (mkM R C (fixF f0 pre))
theorem fixSt_abid {lo q R C B : Nat} {v : Value} {f0 : Nat → Nat → Int} : AbidF B (FixSt lo q R C v f0) := by
  rintro pre A W W' ⟨⟨h1, h0⟩, h2, vs, g1, g2, g3, g4⟩ - - - - hk
  have hkk : ∀ k, k < W.heap.size → lo ≤ k → k ≤ q → W'.heap[k]? = W.heap[k]? := fun k h3 h4 h5 => hk k h3 (.inr ((h1 k).2 ⟨h4, h5⟩))
  exact ⟨⟨h1, h0⟩, (hkk q h2.lt h0 (Nat.le_refl _)).trans h2, vs, own_agr g1 fun k he => hkk k (g1.lt k he).2 (g1.lt k he).1 (Nat.le_of_lt (g2 k he)), g2, fun i hi => ⟨own_agr (g3 i hi).1 fun k he => hkk k ((g3 i hi).1.lt k he).2 ((g3 i hi).1.lt k he).1 (Nat.le_of_lt ((g3 i hi).2 k he)), (g3 i hi).2⟩, g4⟩

set_option maxRecDepth 100000 in
set_option maxHeartbeats 2000000 in
theorem implFixed_yes (va vb : Value) (r c : List Int) (w : World) (ha : RowC w va r) (hb : RowC w vb c) (h : existsOf r c = true) :
    Calls Tryz.prog 25 #[va, vb] w (MatRes (fixedIm r c) w) := by
  refine (callsIn_wide (n := 0)).1 ?_
  have HLI := hide (implLeast_any va vb r c w ha hb)
  rw [if_pos h, h] at HLI
  obtain ⟨hr5, hc5, -⟩ := sumsOk_yes (existsOf_sums h)
  obtain ⟨hlm, h01⟩ := least_cells h
  obtain ⟨f0, hf0⟩ : ∃ f0, f0 = cellI (imgL leastCh r c) := ⟨_, rfl⟩
  rw [hlm, ← hf0] at HLI
  have HANS := hide (show fixedIm r c = mkM r.length c.length (fixF f0 (allL r c)) by unfold fixedIm; rw [if_pos h, hf0])
  rw [← hf0] at h01
  have HS := hide (existsOf_sums h)
  have HIMG := hide fun m (hm : m ∈ allL r c) => all_sound r c hr5.2 hc5 (img_of_exists h) m hm
  have H01 := hide h01
  have HA := hide ha; have HB := hide hb.1
  obtain ⟨xa, ca, hva, -, -⟩ := ha.1
  obtain ⟨xb, cb, hvb, -, -⟩ := hb.1
  subst hva hvb
  have HIW := hide fun w' (hw : Below w.heap.size w w') => imagesWith_any _ _ r c w' (rowC_below HA.out hw) (inRow_below HB.out hw)
  obtain ⟨R, hR⟩ : ∃ R, R = r.length := ⟨_, rfl⟩
  obtain ⟨C, hCC⟩ : ∃ C, C = c.length := ⟨_, rfl⟩
  rw [← hR] at HA HLI HIW hr5 HANS HIMG H01 ⊢
  rw [← hCC] at HB HLI HIW hc5 HANS HIMG H01 ⊢
  rw [HANS.out]
  have HRC := hide (And.intro hr5 hc5)
  clear h ha hb hR hCC hlm h01 hf0 hr5 hc5
  refine callsIn_of_wp_marks Tryz.func25 rfl trivial ?_ rfl
  simp only [Tryz.ntmps25, List.size_toArray, List.length_cons, List.length_nil, Nat.reduceAdd, Nat.reduceSub, Array.replicate_succ, Array.replicate_zero, List.push_toArray, List.append_toArray, List.nil_append, List.cons_append]
  gi_wp2_with fail
  refine ⟨trivial, rfl, (callsIn_wide (n := 0)).2 (HLI.out.mono ?_)⟩
  rintro e w1 ⟨v, rfl, hown, hb1⟩
  obtain ⟨gv, cv, rfl⟩ := ownMat_some hown (by rw [mkM_len]; have := HRC.out; omega)
  rw [mkM_len] at hown ⊢
  have B1 := hide hb1
  have HOW := hide hown
  clear hown hb1
  gi_wp2_with fail
  obtain ⟨w2, hw2⟩ : ∃ w2, w2 = w1.alloc (.cells #[.slice (some ⟨gv, 0, none⟩) R cv] 22) := ⟨_, rfl⟩
  rw [← hw2]
  have HBX := hide (show Boxed w2 w1.heap.size 22 (.slice (some ⟨gv, 0, none⟩) R cv) by rw [hw2]; exact Boxed.new _ _ _)
  have hb12 : Below w1.heap.size w1 w2 := by rw [hw2]; exact (Below.refl _ w1).alloc (Nat.le_refl _) _
  have B2 := hide (B1.out.trans (hb12.mono B1.out.size))
  have HOW2 := hide (ownMat_below HOW.out hb12)
  have HS2 := hide (show w2.heap.size = w1.heap.size + 1 by rw [hw2]; simp)
  clear hw2 hb12
  refine ⟨trivial, rfl, (callsIn_wide (n := 0)).2 ((HIW.out w2 B2.out).mono ?_)⟩
  rintro e w3 ⟨rfl, hx1, hx2, hx3, hb3, hs3⟩
  have B3 := hide (B2.out.trans (hb3.mono B2.out.size))
  have HX := hide (And.intro hx1 (And.intro hx2 hx3))
  have HS3 := hide hs3
  have HST := hide (show FixSt w.heap.size w1.heap.size R C (.slice (some ⟨gv, 0, none⟩) R cv) f0 [] (fun k => w.heap.size ≤ k ∧ k ≤ w1.heap.size) w3 from ⟨⟨fun k => Iff.rfl, B1.out.size⟩, (hb3.block _ HBX.out.lt).trans HBX.out, ownMat_below HOW2.out hb3⟩)
  clear hx1 hx2 hx3 hb3 hs3
  gi_wp2_with fail
  refine wp_rangeEach (gf := 85) (lb := #[.pointer (some ⟨w2.heap.size, 0, none⟩), .pointer (some ⟨w2.heap.size + 2, 0, none⟩), .pointer (some ⟨w2.heap.size + 1, 0, none⟩)]) rfl (enters_of Tryz.func85 (by kernel_rfl) rfl)
    (L := allL r c) (Val := ValM) (fun v m lo G W W' h1 _ h3 => valM_agr h1 h3) (fun k => w.heap.size ≤ k ∧ k ≤ w1.heap.size) (fun k hk => by have h1 := HS2.out; have h2 := HS3.out; omega) (fun W4 hb4 hs4 => ?seq) rfl
    (FixSt w.heap.size w1.heap.size R C (.slice (some ⟨gv, 0, none⟩) R cv) f0)
    (fun cc pre A W => cc = .exit 0 ∧ FixSt w.heap.size w1.heap.size R C (.slice (some ⟨gv, 0, none⟩) R cv) f0 pre A W ∧ atLeast 0 (mkM R C (fixF f0 pre)).flatten = 0 ∧ Below w.heap.size w W) fixSt_abid (fun cc => ?hIx) (fun pre A W h k hk => by have h1 := h.2.1.lt; have h2 := ((h.1.1 k).1 hk).2; omega) HST.out
    (fun x => { tmps := #[.slice xa R ca, .slice xb C cb, undef, undef, .slice none 0 0, .pointer (some ⟨w1.heap.size, 0, none⟩), .bool true, x, .tuple #[.slice (some ⟨gv, 0, none⟩) R cv, .bool true], .slice xa R ca, .slice xb C cb, .tuple #[.slice (some ⟨gv, 0, none⟩) R cv, .bool true], .slice (some ⟨gv, 0, none⟩) R cv, .bool true, .bool true, .bool false, .slice xa R ca, .slice xb C cb, .func (.func 85) #[] #[.pointer (some ⟨w2.heap.size, 0, none⟩), .pointer (some ⟨w2.heap.size + 2, 0, none⟩), .pointer (some ⟨w2.heap.size + 1, 0, none⟩)], x, undef, undef, undef, undef, undef, undef, undef], defers := [] }) ?assign ?body ?done ?stop
  case seq =>
    have h1 := HS2.out; have h2 := HS3.out
    refine iter_start HA.out HB.out HS.out (B3.out.trans (hb4.mono B3.out.size)) (fun k hk => ⟨hk.1, by omega⟩) (below_cell hb4 (by omega) HX.out.1) (below_cell hb4 (by omega) HX.out.2.1) (below_cell hb4 (by omega) HX.out.2.2) (by omega) (by omega) (by omega)
  case hIx => exact fun s A W W' h ho ht hp hs hk => ⟨h.1, fixSt_abid s A W W' h.2.1 ho ht hp hs hk, h.2.2.1, ⟨ho.trans h.2.2.2.os, ht.trans h.2.2.2.tape, hp.trans h.2.2.2.output, Nat.le_trans h.2.2.2.size hs, fun k hk2 => by rw [hk k (Nat.lt_of_lt_of_le hk2 h.2.2.2.size) (.inl (Nat.lt_of_lt_of_le hk2 B3.out.size))]; exact h.2.2.2.block k hk2⟩⟩
  case assign =>
    intro l2 x m lo G W K hv hK
    obtain ⟨ax, nx, cx, rfl⟩ : ∃ a n c, x = .slice a n c := by obtain ⟨vs, ⟨hv, -⟩, -⟩ := hv; obtain ⟨a, c, h⟩ := own_slice hv; exact ⟨a, _, c, h⟩
    clear hv
    gi_wp2
    exact hK
  case body =>
    intro l2 pre A m x lo G W hi hst hpre hval hlo hlo1 hAlo hG
    obtain ⟨ax, nx, cx, rfl⟩ : ∃ a n c, x = .slice a n c := by obtain ⟨vs, ⟨hv, -⟩, -⟩ := id hval; obtain ⟨a, c, h⟩ := own_slice hv; exact ⟨a, _, c, h⟩
    have hq := hAlo w1.heap.size ((hi.1.1 _).2 ⟨hi.1.2, Nat.le_refl _⟩)
    obtain ⟨hm1, hm2, -⟩ := HIMG.out m (hpre.subset (List.mem_append_right _ (List.mem_singleton_self m)))
    have hmo := valM_own hval fun k hk => (hG k hk).2
    rw [mkM_cellI hm1 hm2] at hmo
    have HFW := hide (freeWhere_any (.slice (some ⟨gv, 0, none⟩) R cv) (.slice ax nx cx) R C w.heap.size w1.heap.size lo W.heap.size (fixF f0 pre) (cellI m) W HRC.out.1 HRC.out.2 hi.2.2 hmo (.inl (by omega)))
    rw [← fixF_snoc] at HFW
    have HIFF := hide hi.1
    have HBW0 := hide (below_itStep B3.out (fun k hk => hk.1) hst)
    have HBW := hide hi.2.1
    have hcu := hi.2.1.cell
    have hwq : w1.heap.size < W.heap.size := hi.2.1.lt
    clear hi hst hpre hval hlo hlo1 hAlo hG hm1 hm2 hmo hq
    gi_wp2_with fail
    refine ⟨trivial, rfl, (show CallsIn Fence.wide 0 _ _ _ _ _ from (callsIn_wide (n := 0)).2 (HFW.out.mono ?_))⟩
    rintro e W2 ⟨⟨u, rfl⟩, ho2, hw2⟩
    have HW2 := hide hw2
    have HB2 := hide (show Boxed W2 w1.heap.size 22 (.slice (some ⟨gv, 0, none⟩) R cv) from (hw2.block _ HBW.out.lt (.inr (Nat.le_refl _))).trans HBW.out)
    have HO2 := hide ho2
    have hcu2 := HB2.out.cell
    have HCF := hide (countFixed_any (.slice (some ⟨gv, 0, none⟩) R cv) (mkM R C (fixF f0 (pre ++ [m]))) W2 (inMat_own ho2) (by rw [mkM_len]; exact HRC.out.1.2) (fun q hq => by
      obtain ⟨y, hy, rfl⟩ := List.getElem_of_mem hq
      rw [mkM_at, rowF_len]; have := HRC.out; omega))
    clear ho2 hw2 hcu
    gi_wp2_with fail
    refine ⟨trivial, rfl, (show CallsIn Fence.wide 0 _ _ _ _ _ from (callsIn_wide (n := 0)).2 (HCF.out.mono ?_))⟩
    rintro e W3 ⟨rfl, hb3⟩
    have HB3 := hide hb3
    have HST3 := hide (show FixSt w.heap.size w1.heap.size R C (.slice (some ⟨gv, 0, none⟩) R cv) f0 (pre ++ [m]) A W3 from ⟨HIFF.out, (hb3.block _ HB2.out.lt).trans HB2.out, ownMat_below HO2.out hb3⟩)
    have HGV := hide (show ItOnly A W W3 from ⟨hb3.os.trans HW2.out.os, hb3.tape.trans HW2.out.tape, hb3.output.trans HW2.out.output, Nat.le_trans HW2.out.size hb3.size, fun k hk hn => by
      rw [hb3.block k (Nat.lt_of_lt_of_le hk HW2.out.size)]
      exact HW2.out.block k hk (by
        by_cases h : k < w.heap.size
        · exact .inl h
        · exact .inr (Nat.le_of_not_lt fun h2 => hn ((HIFF.out.1 k).2 ⟨by omega, by omega⟩)))⟩)
    clear hb3 hcu2
    by_cases hz : atLeast 0 (mkM R C (fixF f0 (pre ++ [m]))).flatten = 0
    · have HZ := hide hz
      rw [hz]
      clear hz
      gi_wp2
      have hb0 : Below w.heap.size w W3 := ⟨HGV.out.os.trans HBW0.out.os, HGV.out.tape.trans HBW0.out.tape, HGV.out.output.trans HBW0.out.output, Nat.le_trans HBW0.out.size HGV.out.size, fun k hk => by rw [HGV.out.block k (Nat.lt_of_lt_of_le hk HBW0.out.size) (fun ha => by have := (HIFF.out.1 k).1 ha; omega)]; exact HBW0.out.block k hk⟩
      exact ⟨A, ⟨rfl, HST3.out, HZ.out, hb0⟩, HGV.out.size, fun k hk1 hk2 hn => HGV.out.block k hk2 hn, fun k hk => .inl hk⟩
    · obtain ⟨z, hzz⟩ : ∃ z, z = atLeast 0 (mkM R C (fixF f0 (pre ++ [m]))).flatten := ⟨_, rfl⟩
      rw [← hzz] at hz ⊢
      have hz2 : ((z : Int) == 0) = false := by simp; omega
      clear hzz
      gi_wp2
      exact ⟨A, HST3.out, HGV.out, fun k hk => .inl hk⟩
  case done =>
    intro A W hi hst _ hmk
    have hcu := hi.2.1.cell
    have HMK := hide hmk
    have HOW9 := hide hi.2.2
    have HBB := hide (below_itStep B3.out (fun k hk => hk.1) hst)
    have hsz : w1.heap.size < W.heap.size := hi.2.1.lt
    clear hi hst hmk
    gi_wp2
    refine ⟨by simp, .inl ⟨_, _, rfl, run_takeDeferred HMK.out, ?_⟩⟩
    exact ⟨_, results_tmp rfl _ _ _, _, rfl, ownMat_mono (ownMat_putObj _ HOW9.out HMK.out rfl) (Nat.le_refl _) (by simp; omega), below_putObj HBB.out B3.out.size _⟩
  case stop =>
    rintro cc pre A W ⟨t, ht⟩ ⟨rfl, hi, hz, hb0⟩ hA3 hmk
    have hcu := hi.2.1.cell
    have HMK := hide hmk
    have hall := all_free (t := t) H01.out hz
    rw [ht] at hall
    have HOW9 := hide (show OwnMat W w.heap.size w1.heap.size (.slice (some ⟨gv, 0, none⟩) R cv) (mkM R C (fixF f0 (allL r c))) by rw [hall]; exact hi.2.2)
    have HBB := hide hb0
    have hsz : w1.heap.size < W.heap.size := hi.2.1.lt
    clear hi hz hb0 hA3 hmk hall ht
    gi_wp2
    refine ⟨by simp, .inl ⟨_, _, rfl, run_takeDeferred HMK.out, ?_⟩⟩
    exact ⟨_, results_tmp rfl _ _ _, _, rfl, ownMat_mono (ownMat_putObj _ HOW9.out HMK.out rfl) (Nat.le_refl _) (by simp; omega), below_putObj HBB.out B3.out.size _⟩

set_option maxHeartbeats 400000 in
theorem implFixed_any (va vb : Value) (r c : List Int) (w : World) (ha : RowC w va r) (hb : RowC w vb c) :
    Calls Tryz.prog 25 #[va, vb] w (MatRes (fixedIm r c) w) := by
  cases h : existsOf r c with
  | true => exact implFixed_yes va vb r c w ha hb h
  | false =>
    have HLI := hide (implLeast_any va vb r c w ha hb)
    rw [h, if_neg (by decide)] at HLI
    rw [fixedIm, if_neg (by rw [h]; decide)]
    clear h
    refine (callsIn_wide (n := 0)).1 ?_
    refine callsIn_of_wp_marks Tryz.func25 rfl trivial ?_ rfl
    simp only [Tryz.ntmps25, List.size_toArray, List.length_cons, List.length_nil, Nat.reduceAdd, Nat.reduceSub, Array.replicate_succ, Array.replicate_zero, List.push_toArray, List.append_toArray, List.nil_append, List.cons_append]
    gi_wp2_with fail
    refine ⟨trivial, rfl, (callsIn_wide (n := 0)).2 (HLI.out.mono ?_)⟩
    rintro e w1 ⟨v, rfl, hown, hb1⟩
    obtain ⟨av, cv, rfl⟩ : ∃ a cp, v = .slice a 0 cp := by obtain ⟨vs, hv, -⟩ := hown; exact own_slice hv
    have B1 := hide hb1
    clear hown hb1
    gi_wp2
    exact ⟨_, results_tmp rfl _ _ _, _, rfl, ownMat_nil _ _ _, B1.out.alloc B1.out.size _⟩
end Go.Proofs.YtbogeghoekmbhaaGreat
/-
  The program's images: size, lists.
-/
namespace Go.Proofs.YtbogeghoekmbhaaGreat
open Go.RowKit

set_option maxHeartbeats 400000 in
theorem size_any (G : Nat → Int) (n : Nat) (w : World) (hn : n ≤ 5) (h1 : ∀ j, j < n → G j ≠ -1) (h2 : n = 5 ∨ G n = -1) :
    Calls Tryz.prog 96 #[.agg (vec 5 G)] w fun e w' => e = .returned (.int .i64 n) ∧ Below w.heap.size w w' := by
  have N1 := hide h1; have N2 := hide h2
  clear h1 h2
  go_enter Tryz.func96, Tryz.ntmps96
  go_wp2_with (with_reducible refine wpList_boxVec 5 G 1 rfl rfl (.tmp 0) rfl rfl ?_; intro w1 h1 b1 s1)
  have H1 := hide h1; have B1 := hide b1
  clear h1 b1
  go_loop [3] (fun i => ∃ k : Nat, k ≤ n ∧ i = .int .i64 k) (fun i => n - (intOf i).toNat)
  case atStart => exact ⟨0, by omega, rfl⟩
  case round =>
    obtain ⟨k, hk, rfl⟩ := hrel
    by_cases hlt : k < n
    · have hx := blk_cell H1.out k (by omega)
      have hne := N1.out k hlt
      obtain ⟨y, hy⟩ : ∃ y, y = G k := ⟨_, rfl⟩
      rw [← hy] at hx hne
      have hb : (y != -1) = true := by simpa using hne
      have h5 : (k : Int) < 5 := by omega
      clear hy hne
      go_wp2
      go_round
      case rel => exact ⟨k + 1, by omega, by go_num⟩
      case measure => simp [intOf]; omega
    · obtain rfl : k = n := by omega
      by_cases h5 : k < 5
      · have hx := blk_cell H1.out k h5
        rw [N2.out.resolve_left (by omega)] at hx
        have h5' : (k : Int) < 5 := by omega
        go_wp2
        go_ret
        exact ⟨rfl, B1.out⟩
      · have h5' : ¬ (k : Int) < 5 := by omega
        go_wp2
        go_ret
        exact ⟨rfl, B1.out⟩

/-- A row of the padded image. -/
theorem imgF_row (R C : Nat) (f : Nat → Nat → Int) (y : Nat) : ∀ j, j < 5 → imgF R C f (y * 5 + j) = if y < R ∧ j < C then f y j else -1 := fun j hj => by
  rw [show y * 5 + j = 5 * y + j by omega, imgF_at R C f y j hj]

theorem ownMat_block {w w' : World} {lo hi g : Nat} {v : Value} {m : List (List Int)} (h : OwnMat w lo hi v m) (hg : w.grownBy w' (some g)) (hh : hi ≤ g) : OwnMat w' lo hi v m :=
  ownMat_within h (within_grown (lo := g) (hi := g + 1) hg fun k hk => by cases hk; exact ⟨Nat.le_refl _, Nat.lt_succ_self _⟩) (.inl hh)

set_option maxRecDepth 100000 in
set_option maxHeartbeats 1000000 in
theorem lists_any (R C : Nat) (f : Nat → Nat → Int) (w : World) (hI : Img R C f) :
    Calls Tryz.prog 72 #[.agg (vec 25 (imgF R C f))] w fun e w' => ∃ v, e = .returned v ∧ OwnMat w' w.heap.size w'.heap.size v (mkM R C f) ∧ Below w.heap.size w w' := by
  have hR := hI.r2; have hC := hI.c2; have hC1 := hI.c1
  have HI := hide hI
  clear hI
  go_enter Tryz.func72, Tryz.ntmps72
  go_wp2_with (first | (with_reducible refine wpList_boxVec 25 (imgF R C f) 1 rfl rfl (.tmp 0) rfl rfl ?_; intro w1 h1 b1 s1) | (with_reducible refine wpList_loadVec h1 7 rfl rfl _ rfl rfl Tryz.underlying77 Tryz.sizeImg ?_))
  have B1 := hide b1
  clear h1 b1 s1
  go_loopw [3, 8] (fun o i w' => ∃ (y : Nat) (v : Value), y ≤ 5 ∧ i = .int .i64 y ∧ v = o ∧ OwnMat w' w.heap.size w'.heap.size v (mkM (min y R) C f) ∧ Below w.heap.size w w') (fun _ i _ => 5 - (intOf i).toNat)
  case atStart => exact ⟨0, _, by omega, rfl, rfl, by rw [Nat.zero_min]; exact ownMat_nil _ _ _, B1.out⟩
  case round =>
    clear B1
    obtain ⟨y, v, hy, rfl, rfl, hown, hb⟩ := hrel
    have HO := hide hown; have HB := hide hb
    clear hown hb
    by_cases hlt : y < 5
    · have hyI : (y : Int) < 5 := by omega
      have HG := hide (imgF_row R C f y)
      have hsz := HB.out.size
      go_wp2_with (first | (with_reducible refine wpList_indexRow y 10 rfl rfl _ _ rfl rfl rfl Tryz.underlying77 Tryz.isAgg75 Tryz.sizeOf75 hlt (by omega) ?_) | (with_reducible refine wpList_allocVec 5 5 rfl rfl rfl Tryz.zeroRow ?_; intro w2 h2 b2 s2) | (with_reducible refine wpList_storeVec h2 rfl (.tmp 5) (.tmp 10) rfl rfl rfl Tryz.sizeRow ?_; intro w3 h3 g3 s3) | (with_reducible refine wpList_loadVec h3 11 rfl rfl _ rfl rfl Tryz.underlying75 Tryz.sizeRow ?_))
      have B3 := hide (HB.out.trans ((b2.mono hsz).trans (grown_below g3 (fun k hk => by cases hk; exact hsz) (by omega))))
      have O3 := hide (ownMat_block (ownMat_below HO.out b2) g3 (Nat.le_refl _))
      have H3 := hide h3
      have hs3 : w3.heap.size = wr.heap.size + 1 := by omega
      clear h2 b2 s2 h3 g3 s3
      by_cases hr : y < R
      · go_wp2_with fail
        refine (size_any _ C _ hC (fun j hj => ?_) ?_).mono ?_
        · rw [HG.out j (by omega), if_pos ⟨hr, hj⟩]
          rcases HI.out.cell y j hr hj with e | e <;> rw [e] <;> decide
        · by_cases e : C = 5
          · exact .inl e
          · right; rw [HG.out C (by omega), if_neg (by omega)]
        rintro e w4 ⟨rfl, b4⟩
        have H4 := hide (blk_below H3.out b4)
        have O4 := hide (ownMat_below O3.out b4)
        have B4 := hide (B3.out.trans (b4.mono (by omega)))
        have hs4 := b4.size
        clear b4
        have hpos : (0 : Int) < (C : Int) := by omega
        go_wp2_with (with_reducible refine wpList_sliceVec C 17 rfl rfl (.tmp 5) (.tmp 16) rfl rfl rfl Tryz.underlying75 Tryz.sizeOf3 hC ?_)
        refine (Tryz.slices_Clone_int wr.heap.size 0 C 5 (rowF C (f y)) _ (by rw [rowF_len]; exact Nat.le_refl _) (by omega) (fun j hj => ?_)).mono ?_
        · rw [rowF_len] at hj
          rw [Nat.zero_add, blk_cell H4.out j (by omega), HG.out j (by omega), if_pos ⟨hr, hj⟩, List.getD_eq_getElem?_getD, List.getElem?_eq_getElem (by rw [rowF_len]; exact hj), Option.getD_some, rowF_at]
        rintro e w5 ⟨u, rfl, hu, -, b5⟩
        have hu : w5.ownsRow w4.heap.size 3 1 u (rowF C (f y)).length (ints (rowF C (f y))) := by
          rw [rowF_len]
          have := hu
          rw [List.take_of_length_le (by rw [rowF_len]; exact Nat.le_refl _)] at this
          exact this
        obtain ⟨ua, uc, rfl⟩ := own_slice hu
        rw [rowF_len] at *
        have HU := hide hu
        have O5 := hide (ownMat_below O4.out b5)
        have B5 := hide (B4.out.trans (b5.mono (by omega)))
        have hs5 := b5.size
        clear hu b5
        have hmin : min y R = y := by omega
        rw [hmin] at O5
        clear hmin
        obtain ⟨vs, hv, hvh, hvr, hva⟩ := O5.out
        have hvl := mkM_len y C f
        rw [hvl] at hv
        have HV := hide hv; have HVH := hide hvh; have HVR := hide hvr; have HVA := hide hva
        clear hv hvh hvr hva hvl
        go_wp2_with (at_builtin; refine wpList_push HV.out (.slice ua C uc) (.slice none 0 0) rfl _ _ rfl Tryz.underlying22 Tryz.infoInts rfl (by decide) rfl rfl rfl (by omega) (by omega) ?_; intro v' w6 hown1 hb1 hg1)
        go_roundw
        case rel =>
          have hs6 := hb1.size
          have hp := ownMat_push (r := rowF C (f y)) (hi' := w6.heap.size) HVR.out HVA.out (by rw [mkM_len]; exact HV.out) (by rw [rowF_len]; exact own_base HU.out (by omega)) hsz (by omega) (by omega) hg1 (by rw [mkM_len]; exact hown1) (fun k e => (hown1.lt k e).2)
          rw [← mkM_succ, show y + 1 = min (y + 1) R by omega] at hp
          exact ⟨y + 1, _, by omega, by go_num, rfl, hp, B5.out.trans (hb1.mono (by omega))⟩
        case measure => simp [intOf]; omega
      · go_wp2_with fail
        refine (size_any _ 0 _ (by omega) (fun j hj => absurd hj (Nat.not_lt_zero _)) (.inr ?_)).mono ?_
        · rw [HG.out 0 (by omega), if_neg (by omega)]
        rintro e w4 ⟨rfl, b4⟩
        have O4 := hide (ownMat_below O3.out b4)
        have B4 := hide (B3.out.trans (b4.mono (by omega)))
        have hs4 := b4.size
        clear b4
        go_wp2
        go_roundw
        case rel =>
          have hp := ownMat_mono (hi' := w4.heap.size) O4.out (Nat.le_refl _) (by omega)
          rw [show min y R = min (y + 1) R by omega] at hp
          exact ⟨y + 1, _, by omega, by go_num, rfl, hp, B4.out⟩
        case measure => simp [intOf]; omega
    · have hmin : min y R = R := by omega
      rw [hmin] at HO
      clear hmin
      go_wp2
      go_ret
      exact ⟨_, rfl, HO.out, HB.out⟩
end Go.Proofs.YtbogeghoekmbhaaGreat
/-
  The program's images: cell, count, transposed, inverted, distance.
-/
namespace Go.Proofs.YtbogeghoekmbhaaGreat
open Go.RowKit

theorem row_below {w wr w2 w3 : World} (hb : Below w.heap.size w wr) (b2 : Below wr.heap.size wr w2) (g3 : w2.grownBy w3 (some wr.heap.size)) : Below w.heap.size w w3 :=
  hb.trans ((b2.mono hb.size).trans (grown_below g3 (fun k hk => by cases hk; exact hb.size) (Nat.le_trans hb.size b2.size)))
theorem row_blk {wr w2 w3 : World} {g n : Nat} {T : TypeId} {F : Nat → Int} (h : Blk wr g T n F) (b2 : Below wr.heap.size wr w2) (g3 : w2.grownBy w3 (some wr.heap.size)) : Blk w3 g T n F :=
  blk_grown (blk_below h b2) g3 (by have := blk_lt h; simp; omega)

/-- The first y columns of the exchanged image, and x cells of the next one. -/
def upT (F : Nat → Int) (y x : Nat) (i : Nat) : Int := if i % 5 < y ∨ (i % 5 = y ∧ i / 5 < x) then F (5 * (i % 5) + i / 5) else 0
theorem upT_zero (F : Nat → Int) : upT F 0 0 = fun _ => 0 := by funext i; rw [upT, if_neg (by omega)]
theorem upT_set (F : Nat → Int) (y x : Nat) (hy : y < 5) : (fun j => if j = 5 * x + y then F (5 * y + x) else upT F y x j) = upT F y (x + 1) := by
  funext j
  simp only [upT]
  by_cases e : j = 5 * x + y
  · subst e
    rw [if_pos rfl, if_pos (by omega), show (5 * x + y) % 5 = y by omega, show (5 * x + y) / 5 = x by omega]
  · rw [if_neg e]
    by_cases hl : j % 5 < y ∨ (j % 5 = y ∧ j / 5 < x)
    · rw [if_pos hl, if_pos (by omega)]
    · rw [if_neg hl, if_neg (by omega)]
theorem upT_next (F : Nat → Int) (y : Nat) : ∀ i, i < 25 → upT F y 5 i = upT F (y + 1) 0 i := fun i hi => by
  simp only [upT]
  by_cases hl : i % 5 < y + 1
  · rw [if_pos (by omega), if_pos (by omega)]
  · rw [if_neg (by omega), if_neg (by omega)]
theorem upT_all (F : Nat → Int) : ∀ i, i < 25 → upT F 5 0 i = F (5 * (i % 5) + i / 5) := fun i hi => by rw [upT, if_pos (by omega)]

set_option maxHeartbeats 1000000 in
theorem transposed_any (F : Nat → Int) (w : World) :
    Calls Tryz.prog 71 #[.agg (vec 25 F)] w fun e w' => e = .returned (.agg (vec 25 fun i => F (5 * (i % 5) + i / 5))) ∧ Below w.heap.size w w' := by
  go_enter Tryz.func71, Tryz.ntmps71
  go_wp2_with (first | (with_reducible refine wpList_boxVec 25 F 1 rfl rfl (.tmp 0) rfl rfl ?_; intro w1 h1 b1 s1) | (with_reducible refine wpList_allocVec 25 2 rfl rfl rfl Tryz.zeroImg ?_; intro wa ha ba sa) | (with_reducible refine wpList_allocVec 25 3 rfl rfl rfl Tryz.zeroImg ?_; intro wb hb bb sb) | (with_reducible refine wpList_loadVec (blk_below (blk_below h1 ba) bb) 8 rfl rfl _ rfl rfl Tryz.underlying77 Tryz.sizeImg ?_))
  have B1 := hide (b1.trans ((ba.mono (by omega)).trans (bb.mono (by omega))))
  have HR := hide (blk_below ha bb)
  have HP := hide hb
  have hsz : w.heap.size + 2 < wb.heap.size := by omega
  rw [s1] at HR sa
  rw [sa] at HP
  rw [show w.heap.size + 1 + 1 = w.heap.size + 2 by omega] at HP
  clear h1 b1 ha ba hb bb sb s1 sa
  go_loopw [9] (fun i w' => ∃ y : Nat, y ≤ 5 ∧ i = .int .i64 y ∧ Blk w' (w.heap.size + 2) 77 25 (upT F y 0) ∧ Blk w' (w.heap.size + 1) 77 25 (fun _ => 0) ∧ Below w.heap.size w w') (fun i _ => 5 - (intOf i).toNat)
  case atStart => exact ⟨0, by omega, rfl, by rw [upT_zero]; exact HP.out, HR.out, B1.out⟩
  case round =>
    clear B1 HP HR hsz
    obtain ⟨y, hy, rfl, hp, hr, hb⟩ := hrel
    have HP := hide hp; have HR := hide hr; have HB := hide hb
    clear hp hr hb
    by_cases hlt : y < 5
    · have hyI : (y : Int) < 5 := by omega
      go_wp2_with (first | (with_reducible refine wpList_indexRow y 12 rfl rfl _ _ rfl rfl rfl Tryz.underlying77 Tryz.isAgg75 Tryz.sizeOf75 hlt (by omega) ?_) | (with_reducible refine wpList_allocVec 5 5 rfl rfl rfl Tryz.zeroRow ?_; intro w2 h2 b2 s2) | (with_reducible refine wpList_storeVec h2 rfl (.tmp 5) (.tmp 12) rfl rfl rfl Tryz.sizeRow ?_; intro w3 h3 g3 s3) | (with_reducible refine wpList_loadVec h3 13 rfl rfl _ rfl rfl Tryz.underlying75 Tryz.sizeRow ?_))
      have B3 := hide (row_below HB.out b2 g3)
      have P3 := hide (row_blk HP.out b2 g3)
      have R3 := hide (row_blk HR.out b2 g3)
      clear h2 b2 s2 h3 g3 s3
      go_loopw [14] (fun i w' => ∃ x : Nat, x ≤ 5 ∧ i = .int .i64 x ∧ Blk w' (w.heap.size + 2) 77 25 (upT F y x) ∧ Blk w' (w.heap.size + 1) 77 25 (fun _ => 0) ∧ Below w.heap.size w w') (fun i _ => 5 - (intOf i).toNat)
      case atStart => exact ⟨0, by omega, rfl, P3.out, R3.out, B3.out⟩
      case round =>
        clear B3 P3 R3 HB HP HR
        obtain ⟨x, hx, rfl, hp, hr, hb⟩ := hrel
        have HP := hide hp; have HR := hide hr; have HB := hide hb
        clear hp hr hb
        by_cases hlx : x < 5
        · have hxI : (x : Int) < 5 := by omega
          have HS := hide (upT_set F y x hlt)
          have hcl := blk_cell HP.out (5 * x + y) (by omega)
          have hfr := blk_frozen HP.out (5 * x + y)
          have HA : Hid (0 + x * 5 + y * 1 = 5 * x + y) := hide (by omega)
          have HE : Hid (y * 5 + x = 5 * y + x) := hide (by omega)
          go_wp2_with (first | (with_reducible refine wpList_indexVec x 17 rfl rfl _ _ rfl rfl rfl Tryz.underlying75 Tryz.isAgg3 Tryz.sizeOf3 hlx ?_; rw [HE.out]) | (with_reducible refine wpList_indexAt x 21 rfl rfl _ _ rfl rfl rfl Tryz.underlying77 Tryz.sizeOf75 hlx ?_) | (with_reducible refine wpList_indexAt y 22 rfl rfl _ _ rfl rfl rfl Tryz.underlying75 Tryz.sizeOf3 hlt ?_; rw [HA.out]))
          go_roundw
          case rel => exact ⟨x + 1, by omega, by go_num, by have := blk_set HP.out (5 * x + y) (F (5 * y + x)); rw [HS.out] at this; exact this, blk_other HR.out _ _ (by simp), HB.out.setCell (by show w.heap.size ≤ w.heap.size + 2; omega) _⟩
          case measure => simp [intOf]; omega
        · obtain rfl : x = 5 := by omega
          go_wp2
          go_roundw
          case rel => exact ⟨y + 1, by omega, by go_num, blk_congr HP.out (upT_next F y), HR.out, HB.out⟩
          case measure => simp [intOf]; omega
    · obtain rfl : y = 5 := by omega
      have HP := hide (blk_congr HP.out (upT_all F))
      go_wp2_with (first | (with_reducible refine wpList_loadVec HP.out 25 rfl rfl _ rfl rfl Tryz.underlying77 Tryz.sizeImg ?_) | (with_reducible refine wpList_storeVec HR.out rfl (.tmp 2) (.tmp 25) rfl rfl rfl Tryz.sizeImg ?_; intro w4 h4 g4 s4))
      refine bodyPost_ret (results_vec rfl _ _ (w.heap.size + 1) 25 _ 77 _ _ rfl h4 Tryz.underlying77 Tryz.sizeImg) rfl ⟨rfl, ?_⟩
      exact HB.out.trans (grown_below g4 (fun k hk => by cases hk; exact Nat.le_succ _) HB.out.size)
end Go.Proofs.YtbogeghoekmbhaaGreat
