/-
  Texts of this claim, one behind the other: LawsHc, EachF.
-/
import Derived.Test.YtjgkblgilnfpfaaPackM
import Derived.Test.YtjgkblgilnfpfaaPackB
import Derived.Test.YtjgkblgilnfpfaaPackC
import Derived.Test.YtjgkblgilnfpfaaRows
import Derived.RangeFuncBox
import Derived.RangeFuncLeaves
import Derived.RangeFuncBound
import Derived.Shelf.Abstract
import Derived.OwnWalkIn
import Derived.TacticsInMore
import Derived.LoopNIn
import Derived.LoopIn
/-
  The exact law on HasConflict, walked.
-/
namespace Go.Proofs.Ytjgkblgilnfpfaa
open Go.RowKit
set_option linter.unusedVariables false

set_option maxRecDepth 100000 in
set_option maxHeartbeats 4000000 in
theorem lawHasConflict_gen (a0 : Option Addr) (n0 c0 : Nat) (m0 : List (List Int)) (a1 : Option Addr) (n1 c1 : Nat) (r1 : List Int) (a2 : Option Addr) (n2 c2 : Nat) (r2 : List Int) (a3 : Option Addr) (n3 c3 : Nat) (r3 : List Int) (a4 : Option Addr) (n4 c4 : Nat) (r4 : List Int) (w : World) (hin0 : InMat w (.slice a0 n0 c0) m0) (hin1 : InRow w (.slice a1 n1 c1) r1) (hin2 : InRow w (.slice a2 n2 c2) r2) (hin3 : InRow w (.slice a3 n3 c3) r3) (hin4 : InRow w (.slice a4 n4 c4) r4) (v_0 : Bool) 
    (hs : ∀ (v0 v1 v2 v3 v4 : Value) (w : World), InMat w v0 m0 → InRow w v1 r1 → InRow w v2 r2 → InRow w v3 r3 → InRow w v4 r4 → Calls Try.prog 35 #[v0, v1, v2, v3, v4] w (fun e w' => e = .returned (.bool v_0) ∧ Below w.heap.size w w'))
    (hi : ∀ (v0 v1 v2 v3 v4 : Value) (w : World), InMat w v0 m0 → InRow w v1 r1 → InRow w v2 r2 → InRow w v3 r3 → InRow w v4 r4 → Calls Try.prog 13 #[v0, v1, v2, v3, v4] w (fun e w' => e = .returned (.bool v_0) ∧ Below w.heap.size w w')) :
    Calls Try.prog 9 #[.slice a0 n0 c0, .slice a1 n1 c1, .slice a2 n2 c2, .slice a3 n3 c3, .slice a4 n4 c4] w fun e w' => e = .returned (.bool true) ∧ Below w.heap.size w w' := by
  have HI0 := hide hin0
  obtain ⟨a', c', he, hm0, -⟩ := hin0
  cases he
  unfold maxLen at hm0
  have HI1 := hide hin1
  obtain ⟨a', c', he, hm1, -⟩ := hin1
  cases he
  unfold maxLen at hm1
  have HI2 := hide hin2
  obtain ⟨a', c', he, hm2, -⟩ := hin2
  cases he
  unfold maxLen at hm2
  have HI3 := hide hin3
  obtain ⟨a', c', he, hm3, -⟩ := hin3
  cases he
  unfold maxLen at hm3
  have HI4 := hide hin4
  obtain ⟨a', c', he, hm4, -⟩ := hin4
  cases he
  unfold maxLen at hm4
  by_cases hr1 : 1048576 < r1.length
  · clear hs hi
    obtain ⟨R0, hR0⟩ : ∃ x, x = m0.length := ⟨_, rfl⟩
    obtain ⟨R1, hR1⟩ : ∃ x, x = r1.length := ⟨_, rfl⟩
    obtain ⟨R2, hR2⟩ : ∃ x, x = r2.length := ⟨_, rfl⟩
    obtain ⟨R3, hR3⟩ : ∃ x, x = r3.length := ⟨_, rfl⟩
    obtain ⟨R4, hR4⟩ : ∃ x, x = r4.length := ⟨_, rfl⟩
    rw [← hR0] at HI0 hm0 ⊢
    rw [← hR1] at HI1 hm1 hr1 ⊢
    rw [← hR2] at HI2 hm2 ⊢
    rw [← hR3] at HI3 hm3 ⊢
    rw [← hR4] at HI4 hm4 ⊢
    clear hR0 hR1 hR2 hR3 hR4
    go_enter Try.func9, Try.ntmps9
    go_wp2
    go_ret
    exact ⟨rfl, Below.refl _ _⟩
  · by_cases hr2 : 1048576 < r2.length
    · clear hs hi
      obtain ⟨R0, hR0⟩ : ∃ x, x = m0.length := ⟨_, rfl⟩
      obtain ⟨R1, hR1⟩ : ∃ x, x = r1.length := ⟨_, rfl⟩
      obtain ⟨R2, hR2⟩ : ∃ x, x = r2.length := ⟨_, rfl⟩
      obtain ⟨R3, hR3⟩ : ∃ x, x = r3.length := ⟨_, rfl⟩
      obtain ⟨R4, hR4⟩ : ∃ x, x = r4.length := ⟨_, rfl⟩
      rw [← hR0] at HI0 hm0 ⊢
      rw [← hR1] at HI1 hm1 hr1 ⊢
      rw [← hR2] at HI2 hm2 hr2 ⊢
      rw [← hR3] at HI3 hm3 ⊢
      rw [← hR4] at HI4 hm4 ⊢
      clear hR0 hR1 hR2 hR3 hR4
      go_enter Try.func9, Try.ntmps9
      go_wp2
      go_ret
      exact ⟨rfl, Below.refl _ _⟩
    · by_cases hr3 : 1048576 < r3.length
      · clear hs hi
        obtain ⟨R0, hR0⟩ : ∃ x, x = m0.length := ⟨_, rfl⟩
        obtain ⟨R1, hR1⟩ : ∃ x, x = r1.length := ⟨_, rfl⟩
        obtain ⟨R2, hR2⟩ : ∃ x, x = r2.length := ⟨_, rfl⟩
        obtain ⟨R3, hR3⟩ : ∃ x, x = r3.length := ⟨_, rfl⟩
        obtain ⟨R4, hR4⟩ : ∃ x, x = r4.length := ⟨_, rfl⟩
        rw [← hR0] at HI0 hm0 ⊢
        rw [← hR1] at HI1 hm1 hr1 ⊢
        rw [← hR2] at HI2 hm2 hr2 ⊢
        rw [← hR3] at HI3 hm3 hr3 ⊢
        rw [← hR4] at HI4 hm4 ⊢
        clear hR0 hR1 hR2 hR3 hR4
        go_enter Try.func9, Try.ntmps9
        go_wp2
        go_ret
        exact ⟨rfl, Below.refl _ _⟩
      · by_cases hr4 : 1048576 < r4.length
        · clear hs hi
          obtain ⟨R0, hR0⟩ : ∃ x, x = m0.length := ⟨_, rfl⟩
          obtain ⟨R1, hR1⟩ : ∃ x, x = r1.length := ⟨_, rfl⟩
          obtain ⟨R2, hR2⟩ : ∃ x, x = r2.length := ⟨_, rfl⟩
          obtain ⟨R3, hR3⟩ : ∃ x, x = r3.length := ⟨_, rfl⟩
          obtain ⟨R4, hR4⟩ : ∃ x, x = r4.length := ⟨_, rfl⟩
          rw [← hR0] at HI0 hm0 ⊢
          rw [← hR1] at HI1 hm1 hr1 ⊢
          rw [← hR2] at HI2 hm2 hr2 ⊢
          rw [← hR3] at HI3 hm3 hr3 ⊢
          rw [← hR4] at HI4 hm4 hr4 ⊢
          clear hR0 hR1 hR2 hR3 hR4
          go_enter Try.func9, Try.ntmps9
          go_wp2
          go_ret
          exact ⟨rfl, Below.refl _ _⟩
        · skip
          have HR1 : Hid (r1.length ≤ 2000000) := hide (by omega)
          have HR2 : Hid (r2.length ≤ 2000000) := hide (by omega)
          have HR3 : Hid (r3.length ≤ 2000000) := hide (by omega)
          have HR4 : Hid (r4.length ≤ 2000000) := hide (by omega)
          have hbb0 : (v_0 != v_0) = false := by cases v_0 <;> rfl
          go_enter Try.func9, Try.ntmps9
          go_wp2_with fail
          refine (szIntSS_any _ m0 (1048576) _ (by omega) HI0.out).mono ?_
          rintro e w1 ⟨q0, rfl, hq0, hb⟩
          have HB1 := hide (hb)
          have s1 := hb.size
          clear hb
          rcases hq0 with rfl | ⟨hsz0, rfl⟩
          · go_wp2
            go_ret
            exact ⟨rfl, HB1.out⟩
          · skip
            have HZ0 : Hid (m0.length + cellsM m0 ≤ 1048576) := hide (by omega)
            have HS := hide (hs); have HM := hide (hi)
            clear hs hi
            go_wp2_with fail
            refine (toIntSS_any _ m0 _ (by have := HZ0.out; omega) (inMat_below HI0.out HB1.out)).mono ?_
            rintro e w2 ⟨p0, rfl, ho, hb⟩
            have P0_2 := hide (ho)
            have HB2 := hide (HB1.out.trans (hb.mono HB1.out.size))
            have s2 := hb.size
            clear ho hb
            go_wp2_with fail
            refine (toIntS_any _ r1 _ HR1.out (inRow_below HI1.out HB2.out)).mono ?_
            rintro e w3 ⟨p1, rfl, ho, hb⟩
            have P0_3 := hide (ownMat_below P0_2.out hb)
            have P1L := hide (fun k e => (ho).lt k e)
            have P1_3 := hide (ho)
            have HB3 := hide (HB2.out.trans (hb.mono HB2.out.size))
            have s3 := hb.size
            clear ho hb
            go_wp2_with fail
            refine (toIntS_any _ r2 _ HR2.out (inRow_below HI2.out HB3.out)).mono ?_
            rintro e w4 ⟨p2, rfl, ho, hb⟩
            have P0_4 := hide (ownMat_below P0_3.out hb)
            have P1_4 := hide (own_below P1_3.out hb)
            have P2L := hide (fun k e => (ho).lt k e)
            have P2_4 := hide (ho)
            have HB4 := hide (HB3.out.trans (hb.mono HB3.out.size))
            have s4 := hb.size
            clear ho hb
            go_wp2_with fail
            refine (toIntS_any _ r3 _ HR3.out (inRow_below HI3.out HB4.out)).mono ?_
            rintro e w5 ⟨p3, rfl, ho, hb⟩
            have P0_5 := hide (ownMat_below P0_4.out hb)
            have P1_5 := hide (own_below P1_4.out hb)
            have P2_5 := hide (own_below P2_4.out hb)
            have P3L := hide (fun k e => (ho).lt k e)
            have P3_5 := hide (ho)
            have HB5 := hide (HB4.out.trans (hb.mono HB4.out.size))
            have s5 := hb.size
            clear ho hb
            go_wp2_with fail
            refine (toIntS_any _ r4 _ HR4.out (inRow_below HI4.out HB5.out)).mono ?_
            rintro e w6 ⟨p4, rfl, ho, hb⟩
            have P0_6 := hide (ownMat_below P0_5.out hb)
            have P1_6 := hide (own_below P1_5.out hb)
            have P2_6 := hide (own_below P2_5.out hb)
            have P3_6 := hide (own_below P3_5.out hb)
            have P4L := hide (fun k e => (ho).lt k e)
            have P4_6 := hide (ho)
            have HB6 := hide (HB5.out.trans (hb.mono HB5.out.size))
            have s6 := hb.size
            clear ho hb
            go_wp2_with fail
            refine (HS.out p0 p1 p2 p3 p4 _ (inMat_own P0_6.out) (inRow_own P1_6.out) (inRow_own P2_6.out) (inRow_own P3_6.out) (inRow_own P4_6.out)).mono ?_
            rintro e w7 ⟨rfl, hb⟩
            have HB7 := hide (HB6.out.trans (hb.mono HB6.out.size))
            have s7 := hb.size
            clear hb
            go_wp2_with fail
            refine (toIntSS_any _ m0 _ (by have := HZ0.out; omega) (inMat_below HI0.out HB7.out)).mono ?_
            rintro e w8 ⟨x0, rfl, ho, hb⟩
            have X0_8 := hide (ho)
            have HB8 := hide (HB7.out.trans (hb.mono HB7.out.size))
            have s8 := hb.size
            clear ho hb
            go_wp2_with fail
            refine (toIntS_any _ r1 _ HR1.out (inRow_below HI1.out HB8.out)).mono ?_
            rintro e w9 ⟨x1, rfl, ho, hb⟩
            have X0_9 := hide (ownMat_below X0_8.out hb)
            have X1L := hide (fun k e => (ho).lt k e)
            have X1_9 := hide (ho)
            have HB9 := hide (HB8.out.trans (hb.mono HB8.out.size))
            have s9 := hb.size
            clear ho hb
            go_wp2_with fail
            refine (toIntS_any _ r2 _ HR2.out (inRow_below HI2.out HB9.out)).mono ?_
            rintro e w10 ⟨x2, rfl, ho, hb⟩
            have X0_10 := hide (ownMat_below X0_9.out hb)
            have X1_10 := hide (own_below X1_9.out hb)
            have X2L := hide (fun k e => (ho).lt k e)
            have X2_10 := hide (ho)
            have HB10 := hide (HB9.out.trans (hb.mono HB9.out.size))
            have s10 := hb.size
            clear ho hb
            go_wp2_with fail
            refine (toIntS_any _ r3 _ HR3.out (inRow_below HI3.out HB10.out)).mono ?_
            rintro e w11 ⟨x3, rfl, ho, hb⟩
            have X0_11 := hide (ownMat_below X0_10.out hb)
            have X1_11 := hide (own_below X1_10.out hb)
            have X2_11 := hide (own_below X2_10.out hb)
            have X3L := hide (fun k e => (ho).lt k e)
            have X3_11 := hide (ho)
            have HB11 := hide (HB10.out.trans (hb.mono HB10.out.size))
            have s11 := hb.size
            clear ho hb
            go_wp2_with fail
            refine (toIntS_any _ r4 _ HR4.out (inRow_below HI4.out HB11.out)).mono ?_
            rintro e w12 ⟨x4, rfl, ho, hb⟩
            have X0_12 := hide (ownMat_below X0_11.out hb)
            have X1_12 := hide (own_below X1_11.out hb)
            have X2_12 := hide (own_below X2_11.out hb)
            have X3_12 := hide (own_below X3_11.out hb)
            have X4L := hide (fun k e => (ho).lt k e)
            have X4_12 := hide (ho)
            have HB12 := hide (HB11.out.trans (hb.mono HB11.out.size))
            have s12 := hb.size
            clear ho hb
            go_wp2_with fail
            refine (HM.out x0 x1 x2 x3 x4 _ (inMat_own X0_12.out) (inRow_own X1_12.out) (inRow_own X2_12.out) (inRow_own X3_12.out) (inRow_own X4_12.out)).mono ?_
            rintro e w13 ⟨rfl, hb⟩
            have X0_13 := hide (ownMat_below X0_12.out hb)
            have X1_13 := hide (own_below X1_12.out hb)
            have X2_13 := hide (own_below X2_12.out hb)
            have X3_13 := hide (own_below X3_12.out hb)
            have X4_13 := hide (own_below X4_12.out hb)
            have HB13 := hide (HB12.out.trans (hb.mono HB12.out.size))
            have s13 := hb.size
            clear hb
            go_wp2_with fail
            refine (toIntSS_any _ m0 _ (by have := HZ0.out; omega) (inMat_below HI0.out HB13.out)).mono ?_
            rintro e w14 ⟨z0, rfl, ho, hb⟩
            have X0_14 := hide (ownMat_below X0_13.out hb)
            have X1_14 := hide (own_below X1_13.out hb)
            have X2_14 := hide (own_below X2_13.out hb)
            have X3_14 := hide (own_below X3_13.out hb)
            have X4_14 := hide (own_below X4_13.out hb)
            have Z0_14 := hide (ho)
            have HB14 := hide (HB13.out.trans (hb.mono HB13.out.size))
            have s14 := hb.size
            clear ho hb
            go_wp2_with fail
            refine (eqIntSS_same x0 z0 m0 _ (inMat_own X0_14.out) (inMat_own Z0_14.out)).mono ?_
            rintro e w15 ⟨rfl, hb⟩
            have X0_15 := hide (ownMat_below X0_14.out hb)
            have X1_15 := hide (own_below X1_14.out hb)
            have X2_15 := hide (own_below X2_14.out hb)
            have X3_15 := hide (own_below X3_14.out hb)
            have X4_15 := hide (own_below X4_14.out hb)
            have HB15 := hide (HB14.out.trans (hb.mono HB14.out.size))
            have s15 := hb.size
            clear hb
            go_wp2_with fail
            refine (toIntS_any _ r1 _ HR1.out (inRow_below HI1.out HB15.out)).mono ?_
            rintro e w16 ⟨z1, rfl, ho, hb⟩
            have X0_16 := hide (ownMat_below X0_15.out hb)
            have X1_16 := hide (own_below X1_15.out hb)
            have X2_16 := hide (own_below X2_15.out hb)
            have X3_16 := hide (own_below X3_15.out hb)
            have X4_16 := hide (own_below X4_15.out hb)
            have Z1L := hide (fun k e => (ho).lt k e)
            have Z1_16 := hide (ho)
            have HB16 := hide (HB15.out.trans (hb.mono HB15.out.size))
            have s16 := hb.size
            clear ho hb
            go_wp2_with fail
            refine (eqIntS_same x1 z1 r1 _ (inRow_own X1_16.out) (inRow_own Z1_16.out)).mono ?_
            rintro e w17 ⟨rfl, hb⟩
            have X0_17 := hide (ownMat_below X0_16.out hb)
            have X1_17 := hide (own_below X1_16.out hb)
            have X2_17 := hide (own_below X2_16.out hb)
            have X3_17 := hide (own_below X3_16.out hb)
            have X4_17 := hide (own_below X4_16.out hb)
            have HB17 := hide (HB16.out.trans (hb.mono HB16.out.size))
            have s17 := hb.size
            clear hb
            go_wp2_with fail
            refine (toIntS_any _ r2 _ HR2.out (inRow_below HI2.out HB17.out)).mono ?_
            rintro e w18 ⟨z2, rfl, ho, hb⟩
            have X0_18 := hide (ownMat_below X0_17.out hb)
            have X1_18 := hide (own_below X1_17.out hb)
            have X2_18 := hide (own_below X2_17.out hb)
            have X3_18 := hide (own_below X3_17.out hb)
            have X4_18 := hide (own_below X4_17.out hb)
            have Z2L := hide (fun k e => (ho).lt k e)
            have Z2_18 := hide (ho)
            have HB18 := hide (HB17.out.trans (hb.mono HB17.out.size))
            have s18 := hb.size
            clear ho hb
            go_wp2_with fail
            refine (eqIntS_same x2 z2 r2 _ (inRow_own X2_18.out) (inRow_own Z2_18.out)).mono ?_
            rintro e w19 ⟨rfl, hb⟩
            have X0_19 := hide (ownMat_below X0_18.out hb)
            have X1_19 := hide (own_below X1_18.out hb)
            have X2_19 := hide (own_below X2_18.out hb)
            have X3_19 := hide (own_below X3_18.out hb)
            have X4_19 := hide (own_below X4_18.out hb)
            have HB19 := hide (HB18.out.trans (hb.mono HB18.out.size))
            have s19 := hb.size
            clear hb
            go_wp2_with fail
            refine (toIntS_any _ r3 _ HR3.out (inRow_below HI3.out HB19.out)).mono ?_
            rintro e w20 ⟨z3, rfl, ho, hb⟩
            have X0_20 := hide (ownMat_below X0_19.out hb)
            have X1_20 := hide (own_below X1_19.out hb)
            have X2_20 := hide (own_below X2_19.out hb)
            have X3_20 := hide (own_below X3_19.out hb)
            have X4_20 := hide (own_below X4_19.out hb)
            have Z3L := hide (fun k e => (ho).lt k e)
            have Z3_20 := hide (ho)
            have HB20 := hide (HB19.out.trans (hb.mono HB19.out.size))
            have s20 := hb.size
            clear ho hb
            go_wp2_with fail
            refine (eqIntS_same x3 z3 r3 _ (inRow_own X3_20.out) (inRow_own Z3_20.out)).mono ?_
            rintro e w21 ⟨rfl, hb⟩
            have X0_21 := hide (ownMat_below X0_20.out hb)
            have X1_21 := hide (own_below X1_20.out hb)
            have X2_21 := hide (own_below X2_20.out hb)
            have X3_21 := hide (own_below X3_20.out hb)
            have X4_21 := hide (own_below X4_20.out hb)
            have HB21 := hide (HB20.out.trans (hb.mono HB20.out.size))
            have s21 := hb.size
            clear hb
            go_wp2_with fail
            refine (toIntS_any _ r4 _ HR4.out (inRow_below HI4.out HB21.out)).mono ?_
            rintro e w22 ⟨z4, rfl, ho, hb⟩
            have X0_22 := hide (ownMat_below X0_21.out hb)
            have X1_22 := hide (own_below X1_21.out hb)
            have X2_22 := hide (own_below X2_21.out hb)
            have X3_22 := hide (own_below X3_21.out hb)
            have X4_22 := hide (own_below X4_21.out hb)
            have Z4L := hide (fun k e => (ho).lt k e)
            have Z4_22 := hide (ho)
            have HB22 := hide (HB21.out.trans (hb.mono HB21.out.size))
            have s22 := hb.size
            clear ho hb
            go_wp2_with fail
            refine (eqIntS_same x4 z4 r4 _ (inRow_own X4_22.out) (inRow_own Z4_22.out)).mono ?_
            rintro e w23 ⟨rfl, hb⟩
            have X0_23 := hide (ownMat_below X0_22.out hb)
            have X1_23 := hide (own_below X1_22.out hb)
            have X2_23 := hide (own_below X2_22.out hb)
            have X3_23 := hide (own_below X3_22.out hb)
            have X4_23 := hide (own_below X4_22.out hb)
            have HB23 := hide (HB22.out.trans (hb.mono HB22.out.size))
            have s23 := hb.size
            clear hb
            go_wp2
            go_ret
            exact ⟨rfl, HB23.out⟩

theorem lawHasConflict_walk (a0 : Option Addr) (n0 c0 : Nat) (m0 : List (List Int)) (a1 : Option Addr) (n1 c1 : Nat) (r1 : List Int) (a2 : Option Addr) (n2 c2 : Nat) (r2 : List Int) (a3 : Option Addr) (n3 c3 : Nat) (r3 : List Int) (a4 : Option Addr) (n4 c4 : Nat) (r4 : List Int) (w : World)
    (hin0 : InMat w (.slice a0 n0 c0) m0) (hin1 : InRow w (.slice a1 n1 c1) r1) (hin2 : InRow w (.slice a2 n2 c2) r2) (hin3 : InRow w (.slice a3 n3 c3) r3) (hin4 : InRow w (.slice a4 n4 c4) r4) :
    Calls Try.prog 9 #[.slice a0 n0 c0, .slice a1 n1 c1, .slice a2 n2 c2, .slice a3 n3 c3, .slice a4 n4 c4] w fun e w' => e = .returned (.bool true) ∧ Below w.heap.size w w' :=
  lawHasConflict_gen a0 n0 c0 m0 a1 n1 c1 r1 a2 n2 c2 r2 a3 n3 c3 r3 a4 n4 c4 r4 w hin0 hin1 hin2 hin3 hin4 (hasConfB m0 r1 r2 r3 r4) (fun v0 v1 v2 v3 v4 w h0 h1 h2 h3 h4 => specHasConf_any v0 v1 v2 v3 v4 m0 r1 r2 r3 r4 w h0 h1 h2 h3 h4) (fun v0 v1 v2 v3 v4 w h0 h1 h2 h3 h4 => implHasConf_any v0 v1 v2 v3 v4 m0 r1 r2 r3 r4 w h0 h1 h2 h3 h4)
end Go.Proofs.Ytjgkblgilnfpfaa
/-
  A range over a function whose iterator keeps memory of its own between the rounds and hands memory on: what either side may change is a set of blocks.
-/
namespace Go.Proofs.Ytjgkblgilnfpfaa
open Go.RowKit Go.Shelf

section
variable {P : Program}

/-- No block has turned but those of A. -/
structure ItOnly (A : Nat → Prop) (W W' : World) : Prop where
  os : W'.os = W.os
  tape : W'.tape = W.tape
  output : W'.output = W.output
  size : W.heap.size ≤ W'.heap.size
  block : ∀ k, k < W.heap.size → ¬ A k → W'.heap[k]? = W.heap[k]?
/-- .. and what is the caller's now was so before, or is new. -/
def ItStep (A A' : Nat → Prop) (W W' : World) : Prop := ItOnly A W W' ∧ ∀ k, A' k → A k ∨ W.heap.size ≤ k
theorem itStep_put {A B : Nat → Prop} {U W : World} {k : Nat} (h : ItStep A B U W) (hk : U.heap.size ≤ k) (o : Obj) : ItStep A B U (W.putObj k o) :=
  ⟨⟨h.1.os, h.1.tape, h.1.output, by simpa using h.1.size, fun i hi hn => by rw [World.putObj_heap_other (by omega)]; exact h.1.block i hi hn⟩, h.2⟩
/-- .. or has been handed over. -/
def ItGive (A A' G : Nat → Prop) (W W' : World) : Prop := ItOnly A W W' ∧ ∀ k, A' k → A k ∨ G k ∨ W.heap.size ≤ k
theorem itStep_refl (A : Nat → Prop) (W : World) : ItStep A A W W := ⟨⟨rfl, rfl, rfl, Nat.le_refl _, fun _ _ _ => rfl⟩, fun _ h => .inl h⟩
theorem itStep_trans {A B C : Nat → Prop} {U V W : World} (h : ItStep A B U V) (k : ItStep B C V W) : ItStep A C U W := by
  refine ⟨⟨k.1.os.trans h.1.os, k.1.tape.trans h.1.tape, k.1.output.trans h.1.output, Nat.le_trans h.1.size k.1.size, fun i hi hn => ?_⟩, fun i hi => ?_⟩
  · rw [k.1.block i (Nat.lt_of_lt_of_le hi h.1.size) (fun hb => (h.2 i hb).elim hn (fun h2 => by omega)), h.1.block i hi hn]
  · rcases k.2 i hi with h2 | h2
    · exact h.2 i h2
    · exact .inr (Nat.le_trans h.1.size h2)
theorem itGive_trans {A B C G : Nat → Prop} {U V W : World} (h : ItStep A B U V) (k : ItGive B C G V W) (hG : ∀ i, G i → U.heap.size ≤ i) : ItStep A C U W := by
  refine ⟨⟨k.1.os.trans h.1.os, k.1.tape.trans h.1.tape, k.1.output.trans h.1.output, Nat.le_trans h.1.size k.1.size, fun i hi hn => ?_⟩, fun i hi => ?_⟩
  · rw [k.1.block i (Nat.lt_of_lt_of_le hi h.1.size) (fun hb => (h.2 i hb).elim hn (fun h2 => by omega)), h.1.block i hi hn]
  · rcases k.2 i hi with h2 | h2 | h2
    · exact h.2 i h2
    · exact .inr (hG i h2)
    · exact .inr (Nat.le_trans h.1.size h2)
theorem itStep_below {A : Nat → Prop} {W W' : World} (h : Below W.heap.size W W') : ItStep A A W W' := ⟨⟨h.os, h.tape, h.output, h.size, fun k hk _ => h.block k hk⟩, fun _ h => .inl h⟩
/-- J speaks of the caller's blocks and of what lay below B alone. -/
def AbidF {β : Type} (B : Nat) (J : β → (Nat → Prop) → World → Prop) : Prop :=
  ∀ s A W W', J s A W → W'.os = W.os → W'.tape = W.tape → W'.output = W.output → W.heap.size ≤ W'.heap.size → (∀ k, k < W.heap.size → (k < B ∨ A k) → W'.heap[k]? = W.heap[k]?) → J s A W'
theorem abidF_mono {β : Type} {B B' : Nat} {J : β → (Nat → Prop) → World → Prop} (h : AbidF B J) (hB : B ≤ B') : AbidF B' J :=
  fun s A W W' h1 h2 h3 h4 h5 h6 => h s A W W' h1 h2 h3 h4 h5 fun k hk hc => h6 k hk (hc.imp (fun x => by omega) id)
theorem abidF_below {β : Type} {B : Nat} {J : β → (Nat → Prop) → World → Prop} (h : AbidF B J) {s : β} {A : Nat → Prop} {W W' : World} (hj : J s A W) (hb : Below W.heap.size W W') : J s A W' :=
  h s A W W' hj hb.os hb.tape hb.output hb.size fun k hk _ => hb.block k hk
theorem abidF_put {β : Type} {B : Nat} {J : β → (Nat → Prop) → World → Prop} (h : AbidF B J) {s : β} {A : Nat → Prop} {W : World} {l : Nat} (o : Obj) (hj : J s A W) (hB : B ≤ l) (hA : ¬ A l) : J s A (W.putObj l o) :=
  h s A W _ hj rfl rfl rfl (by simp) fun k hk hc => World.putObj_heap_other (fun e => by subst e; rcases hc with hc | hc; omega; exact hA hc)

theorem yieldAt_any {m m' : Nat} {l : Nat} {args : Array Value} {W : World} {R : Ending → World → Prop} (h : YieldAt Fence.wide m P l args W R) : YieldAt Fence.wide m' P l args W R := by
  obtain ⟨fn, tmps, assign, body, hy, hR⟩ := h
  exact ⟨fn, tmps, assign, body, hy, hR.1, fun c cs _ => hR.2 c cs (room_wide _)⟩

/-- An iterator's value hands on the elements of L, one by one, each with blocks of its own (G, from lo on). -/
def EachC {M : Type} (P : Program) (gf : Nat) (lb : Array Value) (L : List M) (Val : Value → M → Nat → (Nat → Prop) → World → Prop) (W : World) (A : Nat → Prop) : Prop :=
  ∀ (l : Nat) (J Jx : List M → (Nat → Prop) → World → Prop), AbidF W.heap.size J → AbidF W.heap.size Jx → (∀ pre A1 W1, J pre A1 W1 → ∀ k, A1 k → k < W1.heap.size) →
    (∀ pre A1 m v lo G W1, J pre A1 W1 → (pre ++ [m]) <+: L → ItStep A A1 W W1 → Val v m lo G W1 → W.heap.size ≤ lo → lo ≤ W1.heap.size → (∀ k, A1 k → k < lo) → (∀ k, G k → lo ≤ k ∧ k < W1.heap.size) → YieldAt Fence.wide 0 P l #[v] W1 fun e W2 =>
      (e = .returned (.bool true) ∧ ∃ A2, J (pre ++ [m]) A2 W2 ∧ ItGive A1 A2 G W1 W2) ∨
      (e = .returned (.bool false) ∧ ∃ A2, Jx (pre ++ [m]) A2 W2 ∧ (W1.heap.size ≤ W2.heap.size ∧ (∀ k, W.heap.size ≤ k → k < W1.heap.size → ¬ A1 k → W2.heap[k]? = W1.heap[k]?) ∧ ∀ k, A2 k → A1 k ∨ G k ∨ W1.heap.size ≤ k))) →
    J [] A W →
    Calls P gf (#[.func (.yield l) #[] #[]] ++ lb) W fun e W2 => (∃ v, e = .returned v) ∧ ∃ A2, (J L A2 W2 ∧ ItStep A A2 W W2) ∨ ∃ pre, pre <+: L ∧ Jx pre A2 W2

/-- How the body of a round may be left. -/
def eachPost {M : Type} (B : Nat) (I : List M → (Nat → Prop) → World → Prop) (Ix : Code → List M → (Nat → Prop) → World → Prop) (xs : List M) (A G : Nat → Prop) (W : World) : Exit → Act → World → Prop
  | .normal, _, W' => ∃ A', I xs A' W' ∧ ItGive A A' G W W'
  | .ret, _, W' => ∃ A', Ix .ret xs A' W' ∧ (W.heap.size ≤ W'.heap.size ∧ (∀ k, B ≤ k → k < W.heap.size → ¬ A k → W'.heap[k]? = W.heap[k]?) ∧ ∀ k, A' k → A k ∨ G k ∨ W.heap.size ≤ k)
  | .exit id, _, W' => ∃ A', Ix (.exit id) xs A' W' ∧ (W.heap.size ≤ W'.heap.size ∧ (∀ k, B ≤ k → k < W.heap.size → ¬ A k → W'.heap[k]? = W.heap[k]?) ∧ ∀ k, A' k → A k ∨ G k ∨ W.heap.size ≤ k)
  | _, _, _ => False

set_option maxHeartbeats 1000000 in
theorem wp_rangeEach {M : Type} {g : Operand} {ps : Array Tmp} {assign body : Code} {Q : Exit → Act → World → Prop} {a : Act} {w : World} {n gf : Nat} {lb : Array Value}
    (hg : a.eval g = .func (.func gf) #[] lb) (eg : ∀ args w, (callFunc gf args).run P w = .ok (.enter gf args) w)
    {L : List M} {Val : Value → M → Nat → (Nat → Prop) → World → Prop} (hVal : ∀ v m lo G W W', Val v m lo G W → W.heap.size ≤ W'.heap.size → (∀ k, G k → W'.heap[k]? = W.heap[k]?) → Val v m lo G W')
    (A0 : Nat → Prop) (hA0 : ∀ k, A0 k → k < w.heap.size) (hseq : ∀ W1 : World, Below w.heap.size w W1 → W1.heap.size = w.heap.size + 2 → EachC P gf lb L Val W1 A0) (hps : ps.size = 1)
    (I : List M → (Nat → Prop) → World → Prop) (Ix : Code → List M → (Nat → Prop) → World → Prop) (hI : AbidF w.heap.size I) (hIx : ∀ c, AbidF w.heap.size (Ix c)) (hIA : ∀ pre A1 W1, I pre A1 W1 → ∀ k, A1 k → k < W1.heap.size) (h0 : I [] A0 w) (a₁ : Value → Act)
    (hassign : ∀ (l : Nat) (v : Value) (m : M) (lo : Nat) (G : Nat → Prop) (W : World) (K : Act → World → Prop), Val v m lo G W → K (a₁ v) W → assign.wpIn (Fence.wide.inRound l) n P (Exit.then K (fun _ _ _ => False)) { tmps := (ps.zip #[v]).foldl (fun t (p, v) => t.setIfInBounds p v) a.tmps, defers := [] } W)
    (hbody : ∀ (l : Nat) (pre : List M) (A : Nat → Prop) (m : M) (v : Value) (lo : Nat) (G : Nat → Prop) (W : World), I pre A W → ItStep A0 A w W → (pre ++ [m]) <+: L → Val v m lo G W → w.heap.size + 2 ≤ lo → lo ≤ W.heap.size → (∀ k, A k → k < lo) → (∀ k, G k → lo ≤ k ∧ k < W.heap.size) → body.wpIn (Fence.wide.inRound l) n P (eachPost w.heap.size I Ix (pre ++ [m]) A G W) (a₁ v) W)
    (hdone : ∀ (A : Nat → Prop) (W : World), I L A W → ItStep A0 A w W → (∀ k, A k → A0 k ∨ w.heap.size + 2 ≤ k) → W.heap[w.heap.size]? = some (.deferred (some [])) → Q .normal { a with defers := { target := .collected w.heap.size, args := #[] } :: a.defers } W)
    (hstop : ∀ (c : Code) (pre : List M) (A : Nat → Prop) (W : World), pre <+: L → Ix c pre A W → (∀ k, A k → A0 k ∨ w.heap.size + 2 ≤ k) → W.heap[w.heap.size]? = some (.deferred (some [])) → c.wpIn Fence.wide n P Q { a with defers := { target := .collected w.heap.size, args := #[] } :: a.defers } W) :
    (Code.rangeFunc g ps assign body).wpIn Fence.wide n P Q a w := by
  refine wpIn_rangeFunc fun fn hfn => ?_
  let rec0 : LoopState → Option Code → Loop := fun st pe => { state := st, pending := pe, fn := fn, tmps := a.tmps, params := ps, assign := assign, body := body, defers := w.heap.size }
  obtain ⟨R, hR⟩ : ∃ R, R = rec0 := ⟨_, rfl⟩
  obtain ⟨U, hU⟩ : ∃ U, U = (w.alloc (.deferred (some []))).alloc (.loop (R .ready none)) := ⟨_, rfl⟩
  have hub : Below w.heap.size w U := by rw [hU]; exact ((Below.refl _ w).alloc (Nat.le_refl _) _).alloc (by simp) _
  have hus : U.heap.size = w.heap.size + 2 := by rw [hU]; simp
  have hul : U.heap[w.heap.size + 1]? = some (.loop (R .ready none)) := by
    rw [hU]; have := World.alloc_heap_new (w.alloc (.deferred (some []))) (.loop (R .ready none)); rwa [World.size_alloc] at this
  have hud : U.heap[w.heap.size]? = some (.deferred (some [])) := by
    rw [hU]; exact (Below.heap_alloc _ _ _ (by simp)).trans (World.alloc_heap_new w _)
  have hui : I [] A0 U := abidF_below hI h0 hub
  refine ⟨w.heap.size + 1, [{ target := .collected w.heap.size, args := #[] }], U, { target := .fn (.func gf) lb, args := #[.func (.yield (w.heap.size + 1)) #[] #[]] }, U, gf, #[.func (.yield (w.heap.size + 1)) #[] #[]] ++ lb, U, ?_, ?_, fun _ _ => trivial, ?_, fun h => (by simp [Fence.wide] at h), ?_⟩
  · rw [hU, hR]; exact run_enterLoop_outer _ _ _ _ _
  · simp only [resolve, hg]
    simp [go_sem]
  · simp [invoke, go_sem, eg]
  refine (callsIn_wide (n := n - 1)).2 ?_
  refine (hseq U hub hus (w.heap.size + 1) (fun pre A W => I pre A W ∧ ItStep A0 A U W ∧ W.heap[w.heap.size + 1]? = some (.loop (R .ready none)) ∧ W.heap[w.heap.size]? = some (.deferred (some [])))
    (fun pre A W => ((∃ c, Ix c pre A W ∧ W.heap[w.heap.size + 1]? = some (.loop (R .done (some c)))) ∧ W.heap[w.heap.size]? = some (.deferred (some []))) ∧ ∀ k, A k → A0 k ∨ U.heap.size ≤ k) ?_ ?_ (fun pre A1 W1 h => hIA pre A1 W1 h.1) ?_ ⟨hui, itStep_refl _ _, hul, hud⟩).mono ?_
  · intro s A W W' hj ho ht hp hs hk
    obtain ⟨h1, h2, h3, h4⟩ := hj
    have hlt := (Array.getElem?_eq_some_iff.1 h3).1
    refine ⟨hI s A W W' h1 ho ht hp hs fun k hk2 hc => hk k hk2 (hc.imp (fun x => by omega) id), ⟨⟨ho.trans h2.1.os, ht.trans h2.1.tape, hp.trans h2.1.output, Nat.le_trans h2.1.size hs, fun k hk2 hn => ?_⟩, h2.2⟩, ?_, ?_⟩
    · rw [hk k (Nat.lt_of_lt_of_le hk2 h2.1.size) (.inl hk2)]; exact h2.1.block k hk2 hn
    · rw [hk _ hlt (.inl (by omega))]; exact h3
    · rw [hk _ (by omega) (.inl (by omega))]; exact h4
  · intro s A W W' hj ho ht hp hs hk
    obtain ⟨⟨⟨c, h1, h3⟩, h4⟩, h5⟩ := hj
    have hlt := (Array.getElem?_eq_some_iff.1 h3).1
    refine ⟨⟨⟨c, hIx c s A W W' h1 ho ht hp hs fun k hk2 hc => hk k hk2 (hc.imp (fun x => by omega) id), ?_⟩, ?_⟩, h5⟩
    · rw [hk _ hlt (.inl (by omega))]; exact h3
    · rw [hk _ (by omega) (.inl (by omega))]; exact h4
  · rintro pre A1 m v lo G W1 ⟨hi, hst, hl, hd⟩ hpre - hv hlo hlo1 hAlo hG
    have hlo2 : w.heap.size + 2 ≤ lo := by omega
    have hlt : w.heap.size + 1 < W1.heap.size := (Array.getElem?_eq_some_iff.1 hl).1
    have hnA : ∀ k, w.heap.size ≤ k → k ≤ w.heap.size + 1 → ¬ A1 k := fun k h1 h2 hA => by
      rcases hst.2 k hA with h3 | h3
      · have := hA0 k h3; omega
      · omega
    have hy := run_yield (P := P) (args := #[v]) hl (by rw [hR]; exact hps.symm)
    rw [hR] at hy
    obtain ⟨V, hV⟩ : ∃ V, V = W1.putObj (w.heap.size + 1) (.loop { R .ready none with state := .busy }) := ⟨_, rfl⟩
    have hVl : V.heap[w.heap.size + 1]? = some (.loop { R .ready none with state := .busy }) := by rw [hV]; exact World.putObj_heap_same hlt
    have hVo : ∀ k, k ≠ w.heap.size + 1 → V.heap[k]? = W1.heap[k]? := fun k hk => by rw [hV]; exact World.putObj_heap_other hk
    have hVs : V.heap.size = W1.heap.size := by rw [hV]; simp
    have hVi : I pre A1 V := by rw [hV]; exact abidF_put hI _ hi (by omega) (hnA _ (by omega) (Nat.le_refl _))
    have hVv : Val v m lo G V := hVal _ _ _ _ W1 V hv (by omega) fun k hk => hVo k (by have := hG k hk; omega)
    have hVe : V.os = W1.os ∧ V.tape = W1.tape ∧ V.output = W1.output := by rw [hV]; exact ⟨rfl, rfl, rfl⟩
    have hVst : ItStep A0 A1 w V := by
      refine ⟨⟨hVe.1.trans (hst.1.os.trans hub.os), hVe.2.1.trans (hst.1.tape.trans hub.tape), hVe.2.2.trans (hst.1.output.trans hub.output), by omega, fun k hk hn => ?_⟩, fun k hA => ?_⟩
      · rw [hVo k (by omega), hst.1.block k (by omega) hn, hub.block k hk]
      · rcases hst.2 k hA with h3 | h3
        · exact .inl h3
        · exact .inr (by omega)
    refine ⟨fn, _, assign, body, hy, ?_⟩
    have hbusy : ∀ W3 : World, V.heap.size ≤ W3.heap.size → (∀ k, w.heap.size ≤ k → k < V.heap.size → ¬ A1 k → W3.heap[k]? = V.heap[k]?) → W3.heap[w.heap.size + 1]? = some (.loop { R .ready none with state := .busy }) ∧ W3.heap[w.heap.size]? = some (.deferred (some [])) ∧ w.heap.size + 1 < W3.heap.size := fun W3 h1 h2 => by
      refine ⟨?_, ?_, by omega⟩
      · rw [h2 _ (by omega) (by omega) (hnA _ (by omega) (Nat.le_refl _))]; exact hVl
      · rw [h2 _ (Nat.le_refl _) (by omega) (hnA _ (Nat.le_refl _) (by omega)), hVo _ (by omega)]; exact hd
    have hleave : ∀ (c : Code) (A' : Nat → Prop) (W3 : World), Ix c (pre ++ [m]) A' W3 → (V.heap.size ≤ W3.heap.size ∧ (∀ k, w.heap.size ≤ k → k < V.heap.size → ¬ A1 k → W3.heap[k]? = V.heap[k]?) ∧ ∀ k, A' k → A1 k ∨ G k ∨ V.heap.size ≤ k) →
        ∃ v' W4, (Instr.endRound (w.heap.size + 1) (some c)).run P W3 = .ok v' W4 ∧ (Ending.returned v' = .returned (.bool false) ∧ ∃ A2, (((∃ c, Ix c (pre ++ [m]) A2 W4 ∧ W4.heap[w.heap.size + 1]? = some (.loop (R .done (some c)))) ∧ W4.heap[w.heap.size]? = some (.deferred (some []))) ∧ ∀ k, A2 k → A0 k ∨ U.heap.size ≤ k) ∧ (W1.heap.size ≤ W4.heap.size ∧ (∀ k, U.heap.size ≤ k → k < W1.heap.size → ¬ A1 k → W4.heap[k]? = W1.heap[k]?) ∧ ∀ k, A2 k → A1 k ∨ G k ∨ W1.heap.size ≤ k)) := by
      rintro c A' W3 hi3 ⟨hs3, hk3, hA3⟩
      obtain ⟨h1, h2, h3⟩ := hbusy W3 hs3 hk3
      have hnA' : ¬ A' (w.heap.size + 1) := fun h => by
        rcases hA3 _ h with h4 | h4 | h4
        · exact hnA _ (by omega) (Nat.le_refl _) h4
        · have := hG _ h4; omega
        · omega
      refine ⟨_, _, run_endRound (P := P) (some c) h1, rfl, A', ⟨⟨⟨c, abidF_put (hIx c) _ hi3 (by omega) hnA', ?_⟩, ?_⟩, fun k hk => ?_⟩, ?_, fun k hk1 hk2 hn => ?_, fun k hk => ?_⟩
      · rw [World.putObj_heap_same h3, hR]; rfl
      · rw [World.putObj_heap_other (by omega)]; exact h2
      · rcases hA3 k hk with h4 | h4 | h4
        · exact hst.2 k h4
        · exact .inr (by have := hG _ h4; omega)
        · exact .inr (by have := hst.1.size; omega)
      · simp; omega
      · rw [World.putObj_heap_other (by omega), hk3 k (by omega) (by omega) hn, hVo k (by omega)]
      · rcases hA3 k hk with h4 | h4 | h4
        · exact .inl h4
        · exact .inr (.inl h4)
        · exact .inr (.inr (by omega))
    have key : RoundIn Fence.wide n P (w.heap.size + 1) fn ((ps.zip #[v]).foldl (fun t (p, v) => t.setIfInBounds p v) a.tmps) assign body W1 (fun e W2 => (e = .returned (.bool true) ∧ ∃ A2, (I (pre ++ [m]) A2 W2 ∧ ItStep A0 A2 U W2 ∧ W2.heap[w.heap.size + 1]? = some (.loop (R .ready none)) ∧ W2.heap[w.heap.size]? = some (.deferred (some []))) ∧ ItGive A1 A2 G W1 W2) ∨
        (e = .returned (.bool false) ∧ ∃ A2, (((∃ c, Ix c (pre ++ [m]) A2 W2 ∧ W2.heap[w.heap.size + 1]? = some (.loop (R .done (some c)))) ∧ W2.heap[w.heap.size]? = some (.deferred (some []))) ∧ ∀ k, A2 k → A0 k ∨ U.heap.size ≤ k) ∧ (W1.heap.size ≤ W2.heap.size ∧ (∀ k, U.heap.size ≤ k → k < W1.heap.size → ¬ A1 k → W2.heap[k]? = W1.heap[k]?) ∧ ∀ k, A2 k → A1 k ∨ G k ∨ W1.heap.size ≤ k))) := by
      refine roundIn_of_wpIn hfn (hassign _ v m lo G W1 _ hv ⟨V, ?_, wpIn_mono (hbody _ pre A1 m v lo G V hVi hVst hpre hVv hlo2 (by rw [hVs]; exact hlo1) hAlo (fun k hk => by rw [hVs]; exact hG k hk)) ?_⟩)
      · rw [hV]; exact run_beginRound hl (by rw [hR])
      · intro e a' W3 hp
        cases e with
        | normal =>
          obtain ⟨A', hi3, hst3⟩ := hp
          obtain ⟨h1, h2, h3⟩ := hbusy W3 hst3.1.size fun k _ hk2 hn => hst3.1.block k hk2 hn
          have hnA' : ¬ A' (w.heap.size + 1) := fun h => by
            rcases hst3.2 _ h with h4 | h4 | h4
            · exact hnA _ (by omega) (Nat.le_refl _) h4
            · have := hG _ h4; omega
            · omega
          have hstep : ItGive A1 A' G W1 (W3.putObj (w.heap.size + 1) (.loop { { R .ready none with state := .busy } with state := if (none : Option Code).isNone then .ready else .done, pending := none })) := by
            refine ⟨⟨hst3.1.os.trans hVe.1, hst3.1.tape.trans hVe.2.1, hst3.1.output.trans hVe.2.2, by have := hst3.1.size; simp; omega, fun k hk hn => ?_⟩, fun k hk => ?_⟩
            · by_cases e : k = w.heap.size + 1
              · subst e
                rw [World.putObj_heap_same h3, hl, hR]; rfl
              · rw [World.putObj_heap_other e, hst3.1.block k (by omega) hn, hVo k e]
            · rcases hst3.2 k hk with h4 | h4 | h4
              · exact .inl h4
              · exact .inr (.inl h4)
              · exact .inr (.inr (by omega))
          refine ⟨_, _, run_endRound (P := P) none h1, .inl ⟨rfl, A', ⟨abidF_put hI _ hi3 (by omega) hnA', itGive_trans hst hstep (fun i hi => by have := hG i hi; omega), ?_, ?_⟩, hstep⟩⟩
          · rw [World.putObj_heap_same h3, hR]; rfl
          · rw [World.putObj_heap_other (by omega)]; exact h2
        | ret =>
          obtain ⟨A', hi3, h3⟩ := hp
          obtain ⟨v', W4, h4, h5⟩ := hleave _ A' W3 hi3 h3
          exact ⟨v', W4, h4, .inr h5⟩
        | exit id =>
          obtain ⟨A', hi3, h3⟩ := hp
          obtain ⟨v', W4, h4, h5⟩ := hleave _ A' W3 hi3 h3
          exact ⟨v', W4, h4, .inr h5⟩
        | goto t => exact hp.elim
        | panic ch => exact hp.elim
        | outgrown => exact hp.elim
    exact ⟨key.1, fun c cs _ => key.2 c cs (room_wide _)⟩
  · rintro e W2 ⟨⟨v, rfl⟩, A2, hfin⟩
    rcases hfin with ⟨⟨hi, hst, hl, hd⟩, -⟩ | ⟨pre, hpre, ⟨⟨c, hi, hl⟩, hd⟩, hA2⟩
    · have hlt : w.heap.size + 1 < W2.heap.size := (Array.getElem?_eq_some_iff.1 hl).1
      have hnA : ∀ k, w.heap.size ≤ k → k ≤ w.heap.size + 1 → ¬ A2 k := fun k h1 h2 hA => by
        rcases hst.2 k hA with h3 | h3
        · have := hA0 k h3; omega
        · omega
      refine ⟨none, _, by have := run_endLoop (P := P) hl (by rw [hR]; simp [rec0]); rw [hR] at this; exact this, hdone A2 _ (abidF_put hI _ hi (by omega) (hnA _ (by omega) (Nat.le_refl _))) ?_ (fun k hk => by rw [← hus]; exact hst.2 k hk) ?_⟩
      · refine ⟨⟨hst.1.os.trans hub.os, hst.1.tape.trans hub.tape, hst.1.output.trans hub.output, by have := hst.1.size; simp; omega, fun k hk hn => ?_⟩, fun k hA => ?_⟩
        · rw [World.putObj_heap_other (by omega), hst.1.block k (by omega) hn, hub.block k hk]
        · rcases hst.2 k hA with h3 | h3
          · exact .inl h3
          · exact .inr (by omega)
      · rw [World.putObj_heap_other (by omega)]; exact hd
    · have hlt : w.heap.size + 1 < W2.heap.size := (Array.getElem?_eq_some_iff.1 hl).1
      have hnA : ¬ A2 (w.heap.size + 1) := fun hA => by
        rcases hA2 _ hA with h3 | h3
        · have := hA0 _ h3; omega
        · omega
      exact ⟨some c, _, by have := run_endLoop (P := P) hl (by rw [hR]; simp [rec0]); rw [hR] at this; exact this, hstop c pre A2 _ hpre (abidF_put (hIx c) _ hi (by omega) hnA) (fun k hk => by rw [← hus]; exact hA2 k hk) (by rw [World.putObj_heap_other (by omega)]; exact hd)⟩
end
end Go.Proofs.Ytjgkblgilnfpfaa
