/-
  Texts of this claim, one behind the other: LawsRp, Subs, ChgI, LawsRq.
-/
import Derived.Test.YtinhdcchfeokpaaPackE
import Derived.Test.YtinhdcchfeokpaaPackA
import Derived.Test.YtinhdcchfeokpaaPackD
import Derived.Lib.MinMax
/-
  The exact laws on SumsFit, ChangeOf and ParityOf, out of contracts.
-/
namespace Go.Proofs.Ytinhdcchfeokpaa
open Go.RowKit
set_option linter.unusedVariables false

set_option maxRecDepth 100000 in
set_option maxHeartbeats 4000000 in
theorem lawSumsFit_gen (a0 : Option Addr) (n0 c0 : Nat) (r0 : List Int) (a1 : Option Addr) (n1 c1 : Nat) (r1 : List Int) (w : World) (hin0 : InRow w (.slice a0 n0 c0) r0) (hin1 : InRow w (.slice a1 n1 c1) r1) (v_0 : Bool) 
    (hs : ∀ (v0 v1 : Value) (w : World), InRow w v0 r0 → InRow w v1 r1 → Calls Try.prog 6 #[v0, v1] w (fun e w' => e = .returned (.bool v_0) ∧ Below w.heap.size w w'))
    (hi : ∀ (v0 v1 : Value) (w : World), InRow w v0 r0 → InRow w v1 r1 → Calls Try.prog 8 #[v0, v1] w (fun e w' => e = .returned (.bool v_0) ∧ Below w.heap.size w w')) :
    Calls Try.prog 3 #[.slice a0 n0 c0, .slice a1 n1 c1] w fun e w' => e = .returned (.bool true) ∧ Below w.heap.size w w' := by
  have HI0 := hide hin0
  obtain ⟨a', c', he, hm0, -⟩ := hin0
  cases he
  unfold maxLen at hm0
  have HI1 := hide hin1
  obtain ⟨a', c', he, hm1, -⟩ := hin1
  cases he
  unfold maxLen at hm1
  by_cases hr0 : 1048576 < r0.length
  · clear hs hi
    obtain ⟨R0, hR0⟩ : ∃ x, x = r0.length := ⟨_, rfl⟩
    obtain ⟨R1, hR1⟩ : ∃ x, x = r1.length := ⟨_, rfl⟩
    rw [← hR0] at HI0 hm0 hr0 ⊢
    rw [← hR1] at HI1 hm1 ⊢
    clear hR0 hR1
    go_enter Try.func3, Try.ntmps3
    go_wp2
    go_ret
    exact ⟨rfl, Below.refl _ _⟩
  · by_cases hr1 : 1048576 < r1.length
    · clear hs hi
      obtain ⟨R0, hR0⟩ : ∃ x, x = r0.length := ⟨_, rfl⟩
      obtain ⟨R1, hR1⟩ : ∃ x, x = r1.length := ⟨_, rfl⟩
      rw [← hR0] at HI0 hm0 hr0 ⊢
      rw [← hR1] at HI1 hm1 hr1 ⊢
      clear hR0 hR1
      go_enter Try.func3, Try.ntmps3
      go_wp2
      go_ret
      exact ⟨rfl, Below.refl _ _⟩
    · skip
      have HR0 : Hid (r0.length ≤ 2000000) := hide (by omega)
      have HR1 : Hid (r1.length ≤ 2000000) := hide (by omega)
      have HS := hide (hs); have HM := hide (hi)
      clear hs hi
      have hbb0 : (v_0 != v_0) = false := by cases v_0 <;> rfl
      go_enter Try.func3, Try.ntmps3
      go_wp2_with fail
      refine (toIntS_any _ r0 _ HR0.out HI0.out).mono ?_
      rintro e w1 ⟨p0, rfl, ho, hb⟩
      have P0L := hide (fun k e => (ho).lt k e)
      have P0_1 := hide (ho)
      have HB1 := hide (hb)
      have s1 := hb.size
      clear ho hb
      go_wp2_with fail
      refine (toIntS_any _ r1 _ HR1.out (inRow_below HI1.out HB1.out)).mono ?_
      rintro e w2 ⟨p1, rfl, ho, hb⟩
      have P0_2 := hide (own_below P0_1.out hb)
      have P1L := hide (fun k e => (ho).lt k e)
      have P1_2 := hide (ho)
      have HB2 := hide (HB1.out.trans (hb.mono HB1.out.size))
      have s2 := hb.size
      clear ho hb
      go_wp2_with fail
      refine (HS.out p0 p1 _ (inRow_own P0_2.out) (inRow_own P1_2.out)).mono ?_
      rintro e w3 ⟨rfl, hb⟩
      have HB3 := hide (HB2.out.trans (hb.mono HB2.out.size))
      have s3 := hb.size
      clear hb
      go_wp2_with fail
      refine (toIntS_any _ r0 _ HR0.out (inRow_below HI0.out HB3.out)).mono ?_
      rintro e w4 ⟨x0, rfl, ho, hb⟩
      have X0L := hide (fun k e => (ho).lt k e)
      have X0_4 := hide (ho)
      have HB4 := hide (HB3.out.trans (hb.mono HB3.out.size))
      have s4 := hb.size
      clear ho hb
      go_wp2_with fail
      refine (toIntS_any _ r1 _ HR1.out (inRow_below HI1.out HB4.out)).mono ?_
      rintro e w5 ⟨x1, rfl, ho, hb⟩
      have X0_5 := hide (own_below X0_4.out hb)
      have X1L := hide (fun k e => (ho).lt k e)
      have X1_5 := hide (ho)
      have HB5 := hide (HB4.out.trans (hb.mono HB4.out.size))
      have s5 := hb.size
      clear ho hb
      go_wp2_with fail
      refine (HM.out x0 x1 _ (inRow_own X0_5.out) (inRow_own X1_5.out)).mono ?_
      rintro e w6 ⟨rfl, hb⟩
      have X0_6 := hide (own_below X0_5.out hb)
      have X1_6 := hide (own_below X1_5.out hb)
      have HB6 := hide (HB5.out.trans (hb.mono HB5.out.size))
      have s6 := hb.size
      clear hb
      go_wp2_with fail
      refine (toIntS_any _ r0 _ HR0.out (inRow_below HI0.out HB6.out)).mono ?_
      rintro e w7 ⟨z0, rfl, ho, hb⟩
      have X0_7 := hide (own_below X0_6.out hb)
      have X1_7 := hide (own_below X1_6.out hb)
      have Z0L := hide (fun k e => (ho).lt k e)
      have Z0_7 := hide (ho)
      have HB7 := hide (HB6.out.trans (hb.mono HB6.out.size))
      have s7 := hb.size
      clear ho hb
      go_wp2_with fail
      refine (eqIntS_same x0 z0 r0 _ (inRow_own X0_7.out) (inRow_own Z0_7.out)).mono ?_
      rintro e w8 ⟨rfl, hb⟩
      have X0_8 := hide (own_below X0_7.out hb)
      have X1_8 := hide (own_below X1_7.out hb)
      have HB8 := hide (HB7.out.trans (hb.mono HB7.out.size))
      have s8 := hb.size
      clear hb
      go_wp2_with fail
      refine (toIntS_any _ r1 _ HR1.out (inRow_below HI1.out HB8.out)).mono ?_
      rintro e w9 ⟨z1, rfl, ho, hb⟩
      have X0_9 := hide (own_below X0_8.out hb)
      have X1_9 := hide (own_below X1_8.out hb)
      have Z1L := hide (fun k e => (ho).lt k e)
      have Z1_9 := hide (ho)
      have HB9 := hide (HB8.out.trans (hb.mono HB8.out.size))
      have s9 := hb.size
      clear ho hb
      go_wp2_with fail
      refine (eqIntS_same x1 z1 r1 _ (inRow_own X1_9.out) (inRow_own Z1_9.out)).mono ?_
      rintro e w10 ⟨rfl, hb⟩
      have X0_10 := hide (own_below X0_9.out hb)
      have X1_10 := hide (own_below X1_9.out hb)
      have HB10 := hide (HB9.out.trans (hb.mono HB9.out.size))
      have s10 := hb.size
      clear hb
      go_wp2
      go_ret
      exact ⟨rfl, HB10.out⟩

set_option maxRecDepth 100000 in
set_option maxHeartbeats 4000000 in
theorem lawChangeOf_gen (a0 : Option Addr) (n0 c0 : Nat) (r0 : List Int) (a1 : Option Addr) (n1 c1 : Nat) (r1 : List Int) (a2 : Option Addr) (n2 c2 : Nat) (m2 : List (List Int)) (w : World) (hin0 : InRow w (.slice a0 n0 c0) r0) (hin1 : InRow w (.slice a1 n1 c1) r1) (hin2 : InMat w (.slice a2 n2 c2) m2) (v_0 : Int) 
    (hs : ∀ (v0 v1 v2 : Value) (w : World), InRow w v0 r0 → InRow w v1 r1 → InMat w v2 m2 → Calls Try.prog 11 #[v0, v1, v2] w (fun e w' => e = .returned (.int .i64 v_0) ∧ Below w.heap.size w w'))
    (hi : ∀ (v0 v1 v2 : Value) (w : World), InRow w v0 r0 → InRow w v1 r1 → InMat w v2 m2 → Calls Try.prog 13 #[v0, v1, v2] w (fun e w' => e = .returned (.int .i64 v_0) ∧ Below w.heap.size w w')) :
    Calls Try.prog 4 #[.slice a0 n0 c0, .slice a1 n1 c1, .slice a2 n2 c2] w fun e w' => e = .returned (.bool true) ∧ Below w.heap.size w w' := by
  have HI0 := hide hin0
  obtain ⟨a', c', he, hm0, -⟩ := hin0
  cases he
  unfold maxLen at hm0
  have HI1 := hide hin1
  obtain ⟨a', c', he, hm1, -⟩ := hin1
  cases he
  unfold maxLen at hm1
  have HI2 := hide hin2
  obtain ⟨a', c', he, hm2, -⟩ := hin2
  cases he
  unfold maxLen at hm2
  by_cases hr0 : 1048576 < r0.length
  · clear hs hi
    obtain ⟨R0, hR0⟩ : ∃ x, x = r0.length := ⟨_, rfl⟩
    obtain ⟨R1, hR1⟩ : ∃ x, x = r1.length := ⟨_, rfl⟩
    obtain ⟨R2, hR2⟩ : ∃ x, x = m2.length := ⟨_, rfl⟩
    rw [← hR0] at HI0 hm0 hr0 ⊢
    rw [← hR1] at HI1 hm1 ⊢
    rw [← hR2] at HI2 hm2 ⊢
    clear hR0 hR1 hR2
    go_enter Try.func4, Try.ntmps4
    go_wp2
    go_ret
    exact ⟨rfl, Below.refl _ _⟩
  · by_cases hr1 : 1048576 < r1.length
    · clear hs hi
      obtain ⟨R0, hR0⟩ : ∃ x, x = r0.length := ⟨_, rfl⟩
      obtain ⟨R1, hR1⟩ : ∃ x, x = r1.length := ⟨_, rfl⟩
      obtain ⟨R2, hR2⟩ : ∃ x, x = m2.length := ⟨_, rfl⟩
      rw [← hR0] at HI0 hm0 hr0 ⊢
      rw [← hR1] at HI1 hm1 hr1 ⊢
      rw [← hR2] at HI2 hm2 ⊢
      clear hR0 hR1 hR2
      go_enter Try.func4, Try.ntmps4
      go_wp2
      go_ret
      exact ⟨rfl, Below.refl _ _⟩
    · skip
      have HR0 : Hid (r0.length ≤ 2000000) := hide (by omega)
      have HR1 : Hid (r1.length ≤ 2000000) := hide (by omega)
      go_enter Try.func4, Try.ntmps4
      go_wp2_with fail
      refine (szIntSS_any _ m2 (1048576) _ (by omega) HI2.out).mono ?_
      rintro e w1 ⟨q2, rfl, hq2, hb⟩
      have HB1 := hide (hb)
      have s1 := hb.size
      clear hb
      rcases hq2 with rfl | ⟨hsz2, rfl⟩
      · go_wp2
        go_ret
        exact ⟨rfl, HB1.out⟩
      · skip
        have HZ2 : Hid (m2.length + cellsM m2 ≤ 1048576) := hide (by omega)
        have HS := hide (hs); have HM := hide (hi)
        clear hs hi
        go_wp2_with fail
        refine (toIntS_any _ r0 _ HR0.out (inRow_below HI0.out HB1.out)).mono ?_
        rintro e w2 ⟨p0, rfl, ho, hb⟩
        have P0L := hide (fun k e => (ho).lt k e)
        have P0_2 := hide (ho)
        have HB2 := hide (HB1.out.trans (hb.mono HB1.out.size))
        have s2 := hb.size
        clear ho hb
        go_wp2_with fail
        refine (toIntS_any _ r1 _ HR1.out (inRow_below HI1.out HB2.out)).mono ?_
        rintro e w3 ⟨p1, rfl, ho, hb⟩
        have P0_3 := hide (own_below P0_2.out hb)
        have P1L := hide (fun k e => (ho).lt k e)
        have P1_3 := hide (ho)
        have HB3 := hide (HB2.out.trans (hb.mono HB2.out.size))
        have s3 := hb.size
        clear ho hb
        go_wp2_with fail
        refine (toIntSS_any _ m2 _ (by have := HZ2.out; omega) (inMat_below HI2.out HB3.out)).mono ?_
        rintro e w4 ⟨p2, rfl, ho, hb⟩
        have P0_4 := hide (own_below P0_3.out hb)
        have P1_4 := hide (own_below P1_3.out hb)
        have P2_4 := hide (ho)
        have HB4 := hide (HB3.out.trans (hb.mono HB3.out.size))
        have s4 := hb.size
        clear ho hb
        go_wp2_with fail
        refine (HS.out p0 p1 p2 _ (inRow_own P0_4.out) (inRow_own P1_4.out) (inMat_own P2_4.out)).mono ?_
        rintro e w5 ⟨rfl, hb⟩
        have HB5 := hide (HB4.out.trans (hb.mono HB4.out.size))
        have s5 := hb.size
        clear hb
        go_wp2_with fail
        refine (toIntS_any _ r0 _ HR0.out (inRow_below HI0.out HB5.out)).mono ?_
        rintro e w6 ⟨x0, rfl, ho, hb⟩
        have X0L := hide (fun k e => (ho).lt k e)
        have X0_6 := hide (ho)
        have HB6 := hide (HB5.out.trans (hb.mono HB5.out.size))
        have s6 := hb.size
        clear ho hb
        go_wp2_with fail
        refine (toIntS_any _ r1 _ HR1.out (inRow_below HI1.out HB6.out)).mono ?_
        rintro e w7 ⟨x1, rfl, ho, hb⟩
        have X0_7 := hide (own_below X0_6.out hb)
        have X1L := hide (fun k e => (ho).lt k e)
        have X1_7 := hide (ho)
        have HB7 := hide (HB6.out.trans (hb.mono HB6.out.size))
        have s7 := hb.size
        clear ho hb
        go_wp2_with fail
        refine (toIntSS_any _ m2 _ (by have := HZ2.out; omega) (inMat_below HI2.out HB7.out)).mono ?_
        rintro e w8 ⟨x2, rfl, ho, hb⟩
        have X0_8 := hide (own_below X0_7.out hb)
        have X1_8 := hide (own_below X1_7.out hb)
        have X2_8 := hide (ho)
        have HB8 := hide (HB7.out.trans (hb.mono HB7.out.size))
        have s8 := hb.size
        clear ho hb
        go_wp2_with fail
        refine (HM.out x0 x1 x2 _ (inRow_own X0_8.out) (inRow_own X1_8.out) (inMat_own X2_8.out)).mono ?_
        rintro e w9 ⟨rfl, hb⟩
        have X0_9 := hide (own_below X0_8.out hb)
        have X1_9 := hide (own_below X1_8.out hb)
        have X2_9 := hide (ownMat_below X2_8.out hb)
        have HB9 := hide (HB8.out.trans (hb.mono HB8.out.size))
        have s9 := hb.size
        clear hb
        go_wp2_with fail
        refine (toIntS_any _ r0 _ HR0.out (inRow_below HI0.out HB9.out)).mono ?_
        rintro e w10 ⟨z0, rfl, ho, hb⟩
        have X0_10 := hide (own_below X0_9.out hb)
        have X1_10 := hide (own_below X1_9.out hb)
        have X2_10 := hide (ownMat_below X2_9.out hb)
        have Z0L := hide (fun k e => (ho).lt k e)
        have Z0_10 := hide (ho)
        have HB10 := hide (HB9.out.trans (hb.mono HB9.out.size))
        have s10 := hb.size
        clear ho hb
        go_wp2_with fail
        refine (eqIntS_same x0 z0 r0 _ (inRow_own X0_10.out) (inRow_own Z0_10.out)).mono ?_
        rintro e w11 ⟨rfl, hb⟩
        have X0_11 := hide (own_below X0_10.out hb)
        have X1_11 := hide (own_below X1_10.out hb)
        have X2_11 := hide (ownMat_below X2_10.out hb)
        have HB11 := hide (HB10.out.trans (hb.mono HB10.out.size))
        have s11 := hb.size
        clear hb
        go_wp2_with fail
        refine (toIntS_any _ r1 _ HR1.out (inRow_below HI1.out HB11.out)).mono ?_
        rintro e w12 ⟨z1, rfl, ho, hb⟩
        have X0_12 := hide (own_below X0_11.out hb)
        have X1_12 := hide (own_below X1_11.out hb)
        have X2_12 := hide (ownMat_below X2_11.out hb)
        have Z1L := hide (fun k e => (ho).lt k e)
        have Z1_12 := hide (ho)
        have HB12 := hide (HB11.out.trans (hb.mono HB11.out.size))
        have s12 := hb.size
        clear ho hb
        go_wp2_with fail
        refine (eqIntS_same x1 z1 r1 _ (inRow_own X1_12.out) (inRow_own Z1_12.out)).mono ?_
        rintro e w13 ⟨rfl, hb⟩
        have X0_13 := hide (own_below X0_12.out hb)
        have X1_13 := hide (own_below X1_12.out hb)
        have X2_13 := hide (ownMat_below X2_12.out hb)
        have HB13 := hide (HB12.out.trans (hb.mono HB12.out.size))
        have s13 := hb.size
        clear hb
        go_wp2_with fail
        refine (toIntSS_any _ m2 _ (by have := HZ2.out; omega) (inMat_below HI2.out HB13.out)).mono ?_
        rintro e w14 ⟨z2, rfl, ho, hb⟩
        have X0_14 := hide (own_below X0_13.out hb)
        have X1_14 := hide (own_below X1_13.out hb)
        have X2_14 := hide (ownMat_below X2_13.out hb)
        have Z2_14 := hide (ho)
        have HB14 := hide (HB13.out.trans (hb.mono HB13.out.size))
        have s14 := hb.size
        clear ho hb
        go_wp2_with fail
        refine (eqIntSS_same x2 z2 m2 _ (inMat_own X2_14.out) (inMat_own Z2_14.out)).mono ?_
        rintro e w15 ⟨rfl, hb⟩
        have X0_15 := hide (own_below X0_14.out hb)
        have X1_15 := hide (own_below X1_14.out hb)
        have X2_15 := hide (ownMat_below X2_14.out hb)
        have HB15 := hide (HB14.out.trans (hb.mono HB14.out.size))
        have s15 := hb.size
        clear hb
        go_wp2
        go_ret
        exact ⟨rfl, HB15.out⟩

set_option maxRecDepth 100000 in
set_option maxHeartbeats 4000000 in
theorem lawParityOf_gen (a0 : Option Addr) (n0 c0 : Nat) (r0 : List Int) (a1 : Option Addr) (n1 c1 : Nat) (r1 : List Int) (w : World) (hin0 : InRow w (.slice a0 n0 c0) r0) (hin1 : InRow w (.slice a1 n1 c1) r1) (v_0 : Int) 
    (hs : ∀ (v0 v1 : Value) (w : World), InRow w v0 r0 → InRow w v1 r1 → Calls Try.prog 15 #[v0, v1] w (fun e w' => e = .returned (.int .i64 v_0) ∧ Below w.heap.size w w'))
    (hi : ∀ (v0 v1 : Value) (w : World), InRow w v0 r0 → InRow w v1 r1 → Calls Try.prog 16 #[v0, v1] w (fun e w' => e = .returned (.int .i64 v_0) ∧ Below w.heap.size w w')) :
    Calls Try.prog 5 #[.slice a0 n0 c0, .slice a1 n1 c1] w fun e w' => e = .returned (.bool true) ∧ Below w.heap.size w w' := by
  have HI0 := hide hin0
  obtain ⟨a', c', he, hm0, -⟩ := hin0
  cases he
  unfold maxLen at hm0
  have HI1 := hide hin1
  obtain ⟨a', c', he, hm1, -⟩ := hin1
  cases he
  unfold maxLen at hm1
  by_cases hr0 : 1048576 < r0.length
  · clear hs hi
    obtain ⟨R0, hR0⟩ : ∃ x, x = r0.length := ⟨_, rfl⟩
    obtain ⟨R1, hR1⟩ : ∃ x, x = r1.length := ⟨_, rfl⟩
    rw [← hR0] at HI0 hm0 hr0 ⊢
    rw [← hR1] at HI1 hm1 ⊢
    clear hR0 hR1
    go_enter Try.func5, Try.ntmps5
    go_wp2
    go_ret
    exact ⟨rfl, Below.refl _ _⟩
  · by_cases hr1 : 1048576 < r1.length
    · clear hs hi
      obtain ⟨R0, hR0⟩ : ∃ x, x = r0.length := ⟨_, rfl⟩
      obtain ⟨R1, hR1⟩ : ∃ x, x = r1.length := ⟨_, rfl⟩
      rw [← hR0] at HI0 hm0 hr0 ⊢
      rw [← hR1] at HI1 hm1 hr1 ⊢
      clear hR0 hR1
      go_enter Try.func5, Try.ntmps5
      go_wp2
      go_ret
      exact ⟨rfl, Below.refl _ _⟩
    · skip
      have HR0 : Hid (r0.length ≤ 2000000) := hide (by omega)
      have HR1 : Hid (r1.length ≤ 2000000) := hide (by omega)
      have HS := hide (hs); have HM := hide (hi)
      clear hs hi
      go_enter Try.func5, Try.ntmps5
      go_wp2_with fail
      refine (toIntS_any _ r0 _ HR0.out HI0.out).mono ?_
      rintro e w1 ⟨p0, rfl, ho, hb⟩
      have P0L := hide (fun k e => (ho).lt k e)
      have P0_1 := hide (ho)
      have HB1 := hide (hb)
      have s1 := hb.size
      clear ho hb
      go_wp2_with fail
      refine (toIntS_any _ r1 _ HR1.out (inRow_below HI1.out HB1.out)).mono ?_
      rintro e w2 ⟨p1, rfl, ho, hb⟩
      have P0_2 := hide (own_below P0_1.out hb)
      have P1L := hide (fun k e => (ho).lt k e)
      have P1_2 := hide (ho)
      have HB2 := hide (HB1.out.trans (hb.mono HB1.out.size))
      have s2 := hb.size
      clear ho hb
      go_wp2_with fail
      refine (HS.out p0 p1 _ (inRow_own P0_2.out) (inRow_own P1_2.out)).mono ?_
      rintro e w3 ⟨rfl, hb⟩
      have HB3 := hide (HB2.out.trans (hb.mono HB2.out.size))
      have s3 := hb.size
      clear hb
      go_wp2_with fail
      refine (toIntS_any _ r0 _ HR0.out (inRow_below HI0.out HB3.out)).mono ?_
      rintro e w4 ⟨x0, rfl, ho, hb⟩
      have X0L := hide (fun k e => (ho).lt k e)
      have X0_4 := hide (ho)
      have HB4 := hide (HB3.out.trans (hb.mono HB3.out.size))
      have s4 := hb.size
      clear ho hb
      go_wp2_with fail
      refine (toIntS_any _ r1 _ HR1.out (inRow_below HI1.out HB4.out)).mono ?_
      rintro e w5 ⟨x1, rfl, ho, hb⟩
      have X0_5 := hide (own_below X0_4.out hb)
      have X1L := hide (fun k e => (ho).lt k e)
      have X1_5 := hide (ho)
      have HB5 := hide (HB4.out.trans (hb.mono HB4.out.size))
      have s5 := hb.size
      clear ho hb
      go_wp2_with fail
      refine (HM.out x0 x1 _ (inRow_own X0_5.out) (inRow_own X1_5.out)).mono ?_
      rintro e w6 ⟨rfl, hb⟩
      have X0_6 := hide (own_below X0_5.out hb)
      have X1_6 := hide (own_below X1_5.out hb)
      have HB6 := hide (HB5.out.trans (hb.mono HB5.out.size))
      have s6 := hb.size
      clear hb
      go_wp2_with fail
      refine (toIntS_any _ r0 _ HR0.out (inRow_below HI0.out HB6.out)).mono ?_
      rintro e w7 ⟨z0, rfl, ho, hb⟩
      have X0_7 := hide (own_below X0_6.out hb)
      have X1_7 := hide (own_below X1_6.out hb)
      have Z0L := hide (fun k e => (ho).lt k e)
      have Z0_7 := hide (ho)
      have HB7 := hide (HB6.out.trans (hb.mono HB6.out.size))
      have s7 := hb.size
      clear ho hb
      go_wp2_with fail
      refine (eqIntS_same x0 z0 r0 _ (inRow_own X0_7.out) (inRow_own Z0_7.out)).mono ?_
      rintro e w8 ⟨rfl, hb⟩
      have X0_8 := hide (own_below X0_7.out hb)
      have X1_8 := hide (own_below X1_7.out hb)
      have HB8 := hide (HB7.out.trans (hb.mono HB7.out.size))
      have s8 := hb.size
      clear hb
      go_wp2_with fail
      refine (toIntS_any _ r1 _ HR1.out (inRow_below HI1.out HB8.out)).mono ?_
      rintro e w9 ⟨z1, rfl, ho, hb⟩
      have X0_9 := hide (own_below X0_8.out hb)
      have X1_9 := hide (own_below X1_8.out hb)
      have Z1L := hide (fun k e => (ho).lt k e)
      have Z1_9 := hide (ho)
      have HB9 := hide (HB8.out.trans (hb.mono HB8.out.size))
      have s9 := hb.size
      clear ho hb
      go_wp2_with fail
      refine (eqIntS_same x1 z1 r1 _ (inRow_own X1_9.out) (inRow_own Z1_9.out)).mono ?_
      rintro e w10 ⟨rfl, hb⟩
      have X0_10 := hide (own_below X0_9.out hb)
      have X1_10 := hide (own_below X1_9.out hb)
      have HB10 := hide (HB9.out.trans (hb.mono HB9.out.size))
      have s10 := hb.size
      clear hb
      go_wp2
      go_ret
      exact ⟨rfl, HB10.out⟩
end Go.Proofs.Ytinhdcchfeokpaa
/-
  slices.Clone at integers; sumsWithout of the program; slices with their capacity.
-/
namespace Go.Proofs.Ytinhdcchfeokpaa
open Go.RowKit

theorem clone_any (v : Value) (r : List Int) (w : World) (hin : InRow w v r) (hn : r.length ≤ 2000000) :
    Calls Try.prog 38 #[v] w (IntsRes r w) := by
  obtain ⟨a, c, rfl, hm, hp⟩ := hin
  by_cases h0 : r.length = 0
  · obtain rfl : r = [] := List.eq_nil_of_length_eq_zero h0
    cases a with
    | none =>
      refine (Try.slices_Clone_int_nil 0 c w).mono ?_
      rintro e w' ⟨rfl, rfl⟩
      exact intsRes_nil (Below.refl _ _)
    | some x =>
      refine (Try.slices_Clone_int_zero x c w).mono ?_
      rintro e w' ⟨v', rfl, ho, -, hb⟩
      exact ⟨v', rfl, ho, hb⟩
  · obtain ⟨g, o, rfl, -, hc⟩ := hp.resolve_left h0
    refine (Try.slices_Clone_int g o r.length c r w (Nat.le_refl _) (by omega) (fun j hj => ?_)).mono ?_
    · rw [hc j hj, List.getD_eq_getElem?_getD, List.getElem?_eq_getElem hj]; rfl
    rintro e w' ⟨v', rfl, ho, -, hb⟩
    rw [List.take_length] at ho
    exact ⟨v', rfl, ho, hb⟩
/-- What has been left behind k cells of the row. -/
def subF (c row : List Int) (k x : Nat) : Int := c.getD x 0 - if x < k then row.getD x 0 else 0
theorem subF_zero (c row : List Int) : tabL c.length (subF c row 0) = c := by
  rw [show tabL c.length (subF c row 0) = tabL c.length (fun x => c.getD x 0) from tabL_congr fun i _ => by rw [subF, if_neg (Nat.not_lt_zero _)]; simp]
  exact tabL_self c
theorem subF_all (c row : List Int) (k : Nat) (h : c.length ≤ k) : tabL c.length (subF c row k) = subL c row :=
  tabL_congr fun i hi => by rw [subF, if_pos (by omega)]
set_option maxHeartbeats 1000000 in
theorem sumsWithout_any (vc vr : Value) (c row : List Int) (w : World) (hc : InRow w vc c) (hr : InRow w vr row) (hl : row.length = c.length) (hn : c.length ≤ 5) (hM : ∀ x, x < c.length → -1000 ≤ c.getD x 0 ∧ c.getD x 0 ≤ 1000) (hR : ∀ x, x < c.length → -1000 ≤ row.getD x 0 ∧ row.getD x 0 ≤ 1000) :
    Calls Try.prog 35 #[vc, vr] w (IntsRes (subL c row) w) := by
  have HCL := hide (clone_any vc c w hc (by omega))
  have HM := hide hM; have HRR := hide hR
  obtain ⟨a, ca, rfl, hm, hp⟩ := hr
  unfold maxLen at hm
  have HP := hide fun h : row.length ≠ 0 => hp.resolve_left h
  have HZ := hide (subF_zero c row); have HA := hide (subF_all c row)
  have HX : Hid (∀ x, (h : x < row.length) → row.getD x 0 = row[x]) := hide fun x h => by rw [List.getD_eq_getElem?_getD, List.getElem?_eq_getElem h]; rfl
  rw [hl] at hm ⊢
  have HLL : Hid (row.length = c.length) := hide hl
  obtain ⟨C, hC⟩ : ∃ C, C = c.length := ⟨_, rfl⟩
  have HC := hide hC
  rw [← hC] at HZ HA hm hn HM HRR HLL ⊢
  clear hc hM hR hp hC hl
  go_enter Try.func35, Try.ntmps35
  go_wp2_with fail
  refine HCL.out.mono ?_
  rintro e w1 ⟨v1, rfl, ho, hb⟩
  rw [← HC.out] at ho
  obtain ⟨xa, xc, rfl⟩ := own_slice ho
  have HO := hide ho; have HB := hide hb
  clear ho hb
  go_wp2
  go_loopw [12] (fun i w' => ∃ k : Nat, k ≤ C ∧ i = .int .i64 k ∧ w'.ownsRow w.heap.size 3 1 (.slice xa C xc) C (ints (tabL C (subF c row k))) ∧ Below w.heap.size w w') (fun i _ => C - (intOf i).toNat)
  case atStart => exact ⟨0, Nat.zero_le _, rfl, by rw [HZ.out]; exact HO.out, HB.out⟩
  case round =>
    clear HO HB
    obtain ⟨k, hk, rfl, hown, hb⟩ := hrel
    have HO := hide hown; have HB := hide hb
    clear hb
    by_cases hlt : k < C
    · have hkr : k < row.length := by rw [HLL.out]; exact hlt
      obtain ⟨g, o, rfl, hg, hcell⟩ := HP.out (by omega)
      obtain ⟨g1, c1, he, hb1, -, -, -, -, -⟩ := own_some hown (by omega)
      cases he
      have hx := below_cell HB.out hg (hcell k hkr)
      rw [← HX.out k hkr] at hx
      have hc1 := cell_held HO.out hlt
      rw [tabL_held hlt, subF, if_neg (Nat.lt_irrefl k), Int.sub_zero] at hc1
      have hf := HO.out.frozenAt k
      have hm1 := HM.out k hlt
      have hm2 := HRR.out k hlt
      have HS := HO.out.stored k (.int .i64 (c.getD k 0 - row.getD k 0))
      rw [ints_set, tabL_set] at HS
      rw [show (tabL C fun t => if t = k then c.getD k 0 - row.getD k 0 else subF c row k t) = tabL C (subF c row (k + 1)) from tabL_congr fun i _ => by
        unfold subF
        by_cases e : i = k
        · subst e; rw [if_pos rfl, if_pos (Nat.lt_succ_self _)]
        · rw [if_neg e]
          by_cases e' : i < k
          · rw [if_pos e', if_pos (by omega)]
          · rw [if_neg e', if_neg (by omega)]] at HS
      have HS := hide HS
      obtain ⟨x1, hx1⟩ : ∃ x1, x1 = c.getD k 0 := ⟨_, rfl⟩
      obtain ⟨x2, hx2⟩ : ∃ x2, x2 = row.getD k 0 := ⟨_, rfl⟩
      rw [← hx1] at hc1 hm1 HS
      rw [← hx2] at hx hm2 HS
      obtain ⟨hm11, hm12⟩ := hm1
      obtain ⟨hm21, hm22⟩ := hm2
      clear hx1 hx2 hown hcell
      go_wp2
      go_roundw
      case rel => exact ⟨k + 1, by omega, by go_num, HS.out.1, HB.out.setCell hb1 _⟩
      case measure => simp [intOf]; omega
    · obtain rfl : k = C := by omega
      have HF := hide (HA.out k (Nat.le_refl _))
      rw [HF.out] at HO
      clear hown
      go_wp2
      go_ret
      exact ⟨_, rfl, by rw [subL_len, ← HC.out]; exact HO.out, HB.out⟩

/-- The slice reads as r, and its capacity is no less than its length. -/
def RowC (w : World) (v : Value) (r : List Int) : Prop := InRow w v r ∧ ∃ a c, v = .slice a r.length c ∧ r.length ≤ c ∧ c ≤ maxLen
theorem rowC_below {w w' : World} {v : Value} {r : List Int} (h : RowC w v r) (hb : Below w.heap.size w w') : RowC w' v r := ⟨inRow_below h.1 hb, h.2⟩
theorem rowC_own {w : World} {base : Nat} {v : Value} {r : List Int} (h : w.ownsRow base 3 1 v r.length (ints r)) : RowC w v r := by
  refine ⟨inRow_own h, ?_⟩
  rcases h.2 with ⟨rfl, h0⟩ | ⟨g, cap, cur, rfl, hbg, hg, hc, hm, _⟩
  · exact ⟨none, 0, by rw [h0], by omega, Nat.zero_le _⟩
  · exact ⟨_, _, rfl, hc, hm⟩
theorem rowC_tail {w : World} {g o n c : Nat} {x : Int} {r : List Int} (h : RowC w (.slice (some ⟨g, o, none⟩) n c) (x :: r)) : RowC w (.slice (if c = 1 then some ⟨g, o, none⟩ else some ⟨g, o + 1, none⟩) (n - 1) (c - 1)) r := by
  obtain ⟨⟨a, c', he, hm, hp⟩, a2, c2, he2, hl, hmx⟩ := h
  cases he; cases he2
  simp only [List.length_cons, Nat.add_sub_cancel] at hl hm ⊢
  refine ⟨⟨_, _, rfl, by omega, ?_⟩, _, _, rfl, by omega, by omega⟩
  obtain ⟨g', o', he', hg, hc⟩ := hp.resolve_left (by simp)
  cases he'
  by_cases h0 : r.length = 0
  · exact .inl h0
  · rw [if_neg (by omega)]
    refine .inr ⟨g, o + 1, rfl, hg, fun i hi => ?_⟩
    have := hc (i + 1) (by simp; omega)
    rw [List.getElem_cons_succ] at this
    rw [← this, show o + (i + 1) = o + 1 + i by omega]
end Go.Proofs.Ytinhdcchfeokpaa
/-
  SumsFit, ChangeOf and ParityOf of the program.
-/
namespace Go.Proofs.Ytinhdcchfeokpaa
open Go.RowKit

theorem absolute_any (n : Int) (w : World) (hn : -1000 ≤ n ∧ n ≤ 1000) :
    Calls Try.prog 34 #[.int .i64 n] w fun e w' => e = .returned (.int .i64 (max n (-n))) ∧ w = w' := by
  go_enter Try.func34, Try.ntmps34
  go_wp2
  go_ret
  exact ⟨rfl, rfl⟩
theorem repairSide_any (n : Int) (w : World) :
    Calls Try.prog 18 #[.int .i64 n] w fun e w' => e = .returned (.bool (decide (1 ≤ n ∧ n ≤ 4))) ∧ w = w' := by
  go_enter Try.func18, Try.ntmps18
  by_cases h : 1 ≤ n
  · go_wp2
    go_ret
    exact ⟨ret_bool (by simp [h]), rfl⟩
  · go_wp2
    go_ret
    exact ⟨ret_bool (by simp; omega), rfl⟩
theorem bad_in13 (r : List Int) (n : Nat) : (!r.any (badB (n : Int))) = r.all (inB n) := by
  rw [List.not_any_eq_all_not]
  refine List.all_congr rfl fun x => ?_
  unfold badB inB
  by_cases h1 : x < 0 <;> by_cases h2 : x > (n : Int) <;> simp [h1, h2] <;> omega
theorem fit_cut {r c : List Int} : fitB r c = (if 1 ≤ r.length ∧ r.length ≤ 4 then if 1 ≤ c.length ∧ c.length ≤ 4 then if r.all (inB c.length) = true then c.all (inB r.length) else false else false else false) := by
  unfold fitB
  split
  · rename_i h1
    rw [decide_eq_true h1]
    split
    · rename_i h2
      rw [decide_eq_true h2]
      split
      · rename_i h3
        rw [h3]; rfl
      · rename_i h3
        rw [Bool.not_eq_true] at h3
        rw [h3]; rfl
    · rename_i h2
      rw [decide_eq_false h2]; rfl
  · rename_i h1
    rw [decide_eq_false h1]; rfl
set_option maxHeartbeats 2000000 in
theorem implSumsFit_any (va vb : Value) (r c : List Int) (w : World) (ha : InRow w va r) (hb : InRow w vb c) :
    Calls Try.prog 8 #[va, vb] w fun e w' => e = .returned (.bool (fitB r c)) ∧ Below w.heap.size w w' := by
  have HA := hide ha; have HB := hide hb
  have HS1 := hide fun w' => repairSide_any (r.length : Int) w'
  have HS2 := hide fun w' => repairSide_any (c.length : Int) w'
  have HR1 := hide fun w' (h : Below w.heap.size w w') => sumsInRange_any va r (c.length : Int) w' (inRow_below ha h)
  have HR2 := hide fun w' (h : Below w.heap.size w w') => sumsInRange_any vb c (r.length : Int) w' (inRow_below hb h)
  have HF := hide (fit_cut (r := r) (c := c))
  rw [bad_in13] at HR1 HR2
  obtain ⟨q, hq⟩ : ∃ q, q = fitB r c := ⟨_, rfl⟩
  rw [← hq] at HF ⊢
  obtain ⟨x1, hx1⟩ : ∃ q, q = r.all (inB c.length) := ⟨_, rfl⟩
  obtain ⟨x2, hx2⟩ : ∃ q, q = c.all (inB r.length) := ⟨_, rfl⟩
  rw [← hx1] at HR1 HF
  rw [← hx2] at HR2 HF
  obtain ⟨ar, cr, rfl, hmr, -⟩ := ha
  obtain ⟨ac, cc, rfl, hmc, -⟩ := hb
  clear hq hx1 hx2 HA HB
  unfold maxLen at hmr hmc
  generalize r.length = nr at *
  generalize c.length = nc at *
  have e1 : ((1 : Int) ≤ (nr : Int) ∧ (nr : Int) ≤ 4) ↔ 1 ≤ nr ∧ nr ≤ 4 := by omega
  have e2 : ((1 : Int) ≤ (nc : Int) ∧ (nc : Int) ≤ 4) ↔ 1 ≤ nc ∧ nc ≤ 4 := by omega
  simp only [e1] at HS1
  simp only [e2] at HS2
  clear e1 e2
  by_cases h1 : 1 ≤ nr ∧ nr ≤ 4
  · rw [decide_eq_true h1] at HS1
    rw [if_pos h1] at HF
    by_cases h2 : 1 ≤ nc ∧ nc ≤ 4
    · rw [decide_eq_true h2] at HS2
      rw [if_pos h2] at HF
      cases x1 with
      | true =>
        rw [if_pos rfl] at HF
        rw [HF.out]
        go_enter Try.func8, Try.ntmps8
        go_wp2_with (first | ((with_reducible refine (HS1.out _).mono ?_); rintro e w9 ⟨rfl, rfl⟩) | ((with_reducible refine (HS2.out _).mono ?_); rintro e w9 ⟨rfl, rfl⟩) | ((with_reducible refine (HR1.out _ (Below.refl _ _)).mono ?_); rintro e w2 ⟨rfl, hb2⟩; have B2 := hide hb2; clear hb2) | ((with_reducible refine (HR2.out _ B2.out).mono ?_); rintro e w3 ⟨rfl, hb3⟩; have B3 := hide (B2.out.trans (hb3.mono B2.out.size)); clear hb3))
        go_ret
        exact ⟨rfl, B3.out⟩
      | false =>
        rw [if_neg Bool.false_ne_true] at HF
        rw [HF.out]
        go_enter Try.func8, Try.ntmps8
        go_wp2_with (first | ((with_reducible refine (HS1.out _).mono ?_); rintro e w9 ⟨rfl, rfl⟩) | ((with_reducible refine (HS2.out _).mono ?_); rintro e w9 ⟨rfl, rfl⟩) | ((with_reducible refine (HR1.out _ (Below.refl _ _)).mono ?_); rintro e w2 ⟨rfl, hb2⟩; have B2 := hide hb2; clear hb2))
        go_ret
        exact ⟨rfl, B2.out⟩
    · rw [decide_eq_false h2] at HS2
      rw [if_neg h2] at HF
      rw [HF.out]
      go_enter Try.func8, Try.ntmps8
      go_wp2_with (first | ((with_reducible refine (HS1.out _).mono ?_); rintro e w9 ⟨rfl, rfl⟩) | ((with_reducible refine (HS2.out _).mono ?_); rintro e w9 ⟨rfl, rfl⟩))
      go_ret
      exact ⟨rfl, Below.refl _ _⟩
  · rw [decide_eq_false h1] at HS1
    rw [if_neg h1] at HF
    rw [HF.out]
    go_enter Try.func8, Try.ntmps8
    go_wp2_with (((with_reducible refine (HS1.out _).mono ?_); rintro e w9 ⟨rfl, rfl⟩))
    go_ret
    exact ⟨rfl, Below.refl _ _⟩
/-- What the columns still want behind y rows. -/
def wantF (c : List Int) (f : Nat → Nat → Int) (y x : Nat) : Int := c.getD x 0 - (cs y f x : Nat)
theorem want_zero (c : List Int) (f : Nat → Nat → Int) : tabL c.length (wantF c f 0) = c := by
  rw [show tabL c.length (wantF c f 0) = tabL c.length (fun x => c.getD x 0) from tabL_congr fun i _ => by simp [wantF, cs, cnt]]
  exact tabL_self c
theorem want_step {R C : Nat} {c : List Int} {f : Nat → Nat → Int} (hI : Img R C f) {y : Nat} (hy : y < R) : subL (tabL C (wantF c f y)) (rowF C (f y)) = tabL C (wantF c f (y + 1)) := by
  unfold subL
  rw [tabL_len]
  refine tabL_congr fun x hx => ?_
  rw [tabL_getD hx, rowF_getD13, if_pos hx]
  have : ((cs (y + 1) f x : Nat) : Int) = (cs y f x : Nat) + f y x := by
    unfold cs
    rcases hI.cell y x hy hx with e | e
    · rw [cnt_no (by simp [e]), e]; simp
    · rw [cnt_yes (by simp [e]), e]; simp
  unfold wantF
  omega
theorem want_range {c : List Int} {f : Nat → Nat → Int} {n : Nat} (h : ∀ x ∈ c, 0 ≤ x ∧ x ≤ (n : Int)) (h5 : n ≤ 5) {y : Nat} (hy : y ≤ 5) (x : Nat) : -5 ≤ wantF c f y x ∧ wantF c f y x ≤ 5 := by
  have h1 := fit_getD h x
  have h2 : cs y f x ≤ y := cnt_le _ _
  unfold wantF
  omega
theorem rowF_sum_cnt {C : Nat} {f : Nat → Nat → Int} {R : Nat} (hI : Img R C f) {y : Nat} (hy : y < R) : ∀ k, k ≤ C → (rowF k (f y)).sum = (cnt (fun x => f y x == 1) k : Nat)
  | 0, _ => rfl
  | k + 1, h => by
    rw [show (rowF (k + 1) (f y)).sum = (rowF k (f y)).sum + f y k by simp [rowF, List.range_succ], rowF_sum_cnt hI hy k (by omega)]
    rw [rs_cell hI hy (show k < C by omega)]
theorem rowF_rs {C : Nat} {f : Nat → Nat → Int} {R : Nat} (hI : Img R C f) {y : Nat} (hy : y < R) : (rowF C (f y)).sum = (rs C f y : Nat) := rowF_sum_cnt hI hy C (Nat.le_refl _)
theorem rowF_small {C : Nat} {f : Nat → Nat → Int} {R : Nat} (hI : Img R C f) {y : Nat} (hy : y < R) : SmallL (rowF C (f y)) := by
  refine ⟨by rw [rowF_len]; exact hI.c2, fun i hi => ?_⟩
  rw [rowF_len] at hi
  rw [rowF_at]
  rcases hI.cell y i hy hi with e | e <;> rw [e] <;> omega
theorem rowsL_at13 {R C : Nat} (f : Nat → Nat → Int) {y : Nat} (hy : y < R) : (rowsL R C f).getD y 0 = (rs C f y : Nat) := by
  unfold rowsL
  rw [rowF_getD13, if_pos hy]
theorem gapL_step13 (a b : List Int) (k : Nat) : gapL a b (k + 1) = gapL a b k + max (a.getD k 0 - b.getD k 0) (-(a.getD k 0 - b.getD k 0)) := by
  rw [gapL]
  omega
theorem mat_rows13 {w : World} {v : Value} {R C : Nat} {f : Nat → Nat → Int} (h : InMat w v (mkM R C f)) (hR : 0 < R) :
    ∃ g o c, v = .slice (some ⟨g, o, none⟩) R c ∧ g < w.heap.size ∧ ∀ y, y < R → ∃ a k, w.cell? ⟨g, o + y, none⟩ = some (.slice a C k) ∧ InRow w (.slice a C k) (rowF C (f y)) := by
  obtain ⟨a, c, rfl, -, hp⟩ := h
  obtain ⟨g, o, rfl, hg, hc⟩ := hp.resolve_left (by rw [mkM_len]; omega)
  refine ⟨g, o, c, by rw [mkM_len], hg, fun y hy => ?_⟩
  obtain ⟨u, hu, hr⟩ := hc y (by rw [mkM_len]; exact hy)
  rw [mkM_at] at hr
  have hr' := hr
  obtain ⟨a', c', rfl, -, -⟩ := hr'
  rw [rowF_len] at hu hr
  exact ⟨a', c', hu, hr⟩
theorem total_quiet13 {v : Value} {r : List Int} {S : Int} {w : World} (n : Nat) (hin : InRow w v r) (hs : SmallL r) (hS : r.sum = S) :
    Calls Try.prog 28 #[v] (w.drewN n) fun e w'' => e = .returned (.int .i64 S) ∧ ∃ n', w'' = w.drewN n' := by
  refine Calls.quiet_of_same ((totalOf_any v r (w.drewN n) hin hs).mono ?_)
  rintro e w' ⟨rfl, rfl⟩
  exact ⟨by rw [hS], rfl⟩
theorem absolute_quiet {D : Int} (x : Int) (w : World) (n : Nat) (hx : x = D) (hn : -1000 ≤ D ∧ D ≤ 1000) :
    Calls Try.prog 34 #[.int .i64 x] (w.drewN n) fun e w'' => e = .returned (.int .i64 (max D (-D))) ∧ ∃ n', w'' = w.drewN n' := by
  subst hx
  refine Calls.quiet_of_same ((absolute_any x (w.drewN n) hn).mono ?_)
  rintro e w' ⟨rfl, rfl⟩
  exact ⟨rfl, rfl⟩
set_option maxRecDepth 100000 in
set_option maxHeartbeats 4000000 in
theorem changeBy_any (va vb vm : Value) (r c : List Int) (R C : Nat) (f : Nat → Nat → Int) (w : World) (ha : InRow w va r) (hb : InRow w vb c) (hm : InMat w vm (mkM R C f)) (hI : Img R C f) (hf : fitB r c = true) (hR : R = r.length) (hC : C = c.length) :
    Calls Try.prog 26 #[va, vb, vm] w fun e w' => e = .returned (.int .i64 (chgF r c R C f)) ∧ Below w.heap.size w w' := by
  have HI := hide hI
  obtain ⟨ra1, ra2⟩ := chg_ranges (f := f) hf hR hC
  have HRA := hide ra1; have HRB := hide ra2
  obtain ⟨s1, s2, s3, s4⟩ := fit_yes hf
  have hR1 := hI.r1; have hC1 := hI.c1; have hR5 := hI.r2; have hC5 := hI.c2
  have hR4 : R ≤ 4 := by omega
  have hC4 : C ≤ 4 := by omega
  have HW := hide fun (y : Nat) (hy : y ≤ R) (x : Nat) => want_range (f := f) s4 (by omega) (show y ≤ 5 by omega) x
  have hD : Hid (chgF r c R C f = gapL r (rowsL R C f) R + gapL c (rowsL C R (trM f)) C) := hide rfl
  have HST := hide fun (y : Nat) (hy : y < R) => want_step (c := c) hI hy
  have HZ := want_zero c f
  rw [← hC] at HZ
  rw [← HZ] at hb
  have HGR := hide fun k => gapL_range ra1 k
  have HGC := hide fun k => gapL_range ra2 k
  have HSR := hide fun k => gapL_step13 r (rowsL R C f) k
  have HSC := hide fun k => gapL_step13 c (rowsL C R (trM f)) k
  have HRS := hide fun (y : Nat) (hy : y < R) => rowsL_at13 (C := C) f hy
  have HCS := hide fun (x : Nat) (hx : x < C) => show (rowsL C R (trM f)).getD x 0 = (cs R f x : Nat) from rowsL_at13 (C := R) (trM f) hx
  have HSUM := hide fun (y : Nat) (hy : y < R) => rowF_rs hI hy
  have HSM := hide fun (y : Nat) (hy : y < R) => rowF_small hI hy
  have HRX := hide fun (y : Nat) (hy : y < r.length) => show r[y] = r.getD y 0 by rw [List.getD_eq_getElem?_getD, List.getElem?_eq_getElem hy]; rfl
  obtain ⟨aa, ca, rfl, hma, hpa⟩ := ha
  obtain ⟨gm, om, cm, rfl, hgm, hrow⟩ := mat_rows13 hm (by omega)
  have HROW := hide hrow
  obtain ⟨ga, oa, rfl, hga, hca⟩ := hpa.resolve_left (by omega)
  have HCA := hide hca
  have HB := hide hb
  obtain ⟨ab, cb, rfl, -, -⟩ := hb
  have HR := hide hR
  rw [← hR] at hma
  rw [← hR]
  rw [tabL_len] at HB ⊢
  unfold maxLen at hma
  obtain ⟨G, hG⟩ : ∃ G, G = chgF r c R C f := ⟨_, rfl⟩
  rw [← hG] at hD ⊢
  obtain ⟨GR, hGR⟩ : ∃ G, G = gapL r (rowsL R C f) := ⟨_, rfl⟩
  obtain ⟨GC, hGC⟩ : ∃ G, G = gapL c (rowsL C R (trM f)) := ⟨_, rfl⟩
  rw [← hGR] at hD HGR HSR
  rw [← hGC] at hD HGC HSC
  have HGR0 : Hid (GR 0 = 0) := hide (by rw [hGR]; rfl)
  have HGC0 : Hid (GC 0 = 0) := hide (by rw [hGC]; rfl)
  clear hrow ra1 ra2 s1 s2 s3 s4 hm hI hf hR hC HZ hpa hca hG hGR hGC hR5 hC5
  go_enter Try.func26, Try.ntmps26
  go_wp2
  go_loopw [7, 8, 16] (fun q l i w' => ∃ y : Nat, y ≤ R ∧ i = .int .i64 y ∧ q = .int .i64 (GR y) ∧ InRow w' l (tabL C (wantF c f y)) ∧ (∃ a z, l = .slice a C z) ∧ Below w.heap.size w w') (fun _ _ i _ => R - (intOf i).toNat)
  case atStart => exact ⟨0, Nat.zero_le _, rfl, by rw [HGR0.out], HB.out, ⟨_, _, rfl⟩, Below.refl _ _⟩
  case round =>
    obtain ⟨y, hy, rfl, rfl, hl, ⟨xa, xc, rfl⟩, hbo⟩ := hrel
    have HL := hide hl; have HBO := hide hbo
    clear hl hbo
    by_cases hlt : y < R
    · have hltI : (y : Int) < R := by omega
      have hya : y < r.length := by rw [← HR.out]; exact hlt
      obtain ⟨ua, uc, hu, hin⟩ := HROW.out y hlt
      have hx := below_cell HBO.out hga (HCA.out y hya)
      rw [HRX.out y hya] at hx
      have hv := below_cell HBO.out hgm hu
      have HIN := hide (inRow_below hin HBO.out)
      have HTS := hide (HSM.out y hlt)
      have HTV := hide (HSUM.out y hlt)
      have hr1 := HRA.out y
      have hg1 := HGR.out y
      have hst := HSR.out y
      rw [HRS.out y hlt] at hr1 hst
      have hwn := HST.out y hlt
      have hl1 := HW.out y (by omega)
      obtain ⟨X, hX⟩ : ∃ X, X = r.getD y 0 := ⟨_, rfl⟩
      obtain ⟨S, hS⟩ : ∃ S : Int, S = (rs C f y : Nat) := ⟨_, rfl⟩
      obtain ⟨G1, hG1⟩ : ∃ G, G = GR y := ⟨_, rfl⟩
      rw [← hX] at hx hr1 hst
      rw [← hS] at hr1 hst HTV
      rw [← hG1] at hg1 hst ⊢
      obtain ⟨⟨q1, q2⟩, q3, q4⟩ := hr1
      obtain ⟨D, hD2⟩ : ∃ D, D = X - S := ⟨_, rfl⟩
      rw [← hD2] at hst
      have HWR : Hid (IntKind.i64.wrap (X - S) = D) := hide (by rw [← hD2]; exact IntWalk.i64_in _ (by omega))
      have hd3 : -10 ≤ D ∧ D ≤ 10 := by omega
      obtain ⟨d1, d2⟩ := hd3
      have HSW := hide fun (v : Value) (w' : World) (h1 : InRow w' (.slice xa C xc) (tabL C (wantF c f y))) (h2 : InRow w' v (rowF C (f y))) => sumsWithout_any (.slice xa C xc) v (tabL C (wantF c f y)) (rowF C (f y)) w' h1 h2 (by rw [rowF_len, tabL_len]) (by rw [tabL_len]; omega) (fun x hx => by rw [tabL_len] at hx; rw [tabL_getD hx]; have := hl1 x; omega) (fun x hx => by rw [tabL_len] at hx; rw [rowF_getD13, if_pos hx]; rcases HI.out.cell y x hlt hx with e | e <;> rw [e] <;> omega)
      have HSU := hide (show IntKind.i64.wrap (G1 + max D (-D)) = GR (y + 1) by rw [hst]; exact IntWalk.i64_in _ (by omega))
      clear hX hS hG1 hD2
      go_wp2_with fail
      go_quiet (first | (go_at_call 28; exact total_quiet13 _ HIN.out HTS.out HTV.out) | (go_at_call 34; exact absolute_quiet _ _ _ HWR.out (by omega)))
      go_wp2_with fail
      refine (HSW.out _ (World.drewN wr _) HL.out HIN.out).mono ?_
      rintro e w2 ⟨v2, rfl, ho, hb2⟩
      rw [hwn] at ho
      have hoI := inRow_own ho
      obtain ⟨xa2, xc2, rfl⟩ := own_slice ho
      rw [tabL_len] at hoI ⊢
      have HO := hide hoI
      have HB2 := hide (show Below w.heap.size w w2 from (below_draws HBO.out _).trans (hb2.mono HBO.out.size))
      clear ho hb2 hoI
      go_wp2
      go_roundw
      case rel => exact ⟨y + 1, by omega, by go_num, by rw [HSU.out], HO.out, ⟨_, _, rfl⟩, HB2.out⟩
      case measure => simp [intOf]; omega
    · obtain rfl : y = R := by omega
      have hgR := HGR.out y
      obtain ⟨GA, hGA⟩ : ∃ A, A = GR y := ⟨_, rfl⟩
      rw [← hGA] at hgR hD ⊢
      have HW' := hide (HW.out y (Nat.le_refl _))
      obtain ⟨a9, c9, e9, -, hp9⟩ := HL.out
      obtain ⟨gl, ol, rfl, hgl, hcl⟩ := hp9.resolve_left (by rw [tabL_len]; omega)
      rw [tabL_len] at e9
      injection e9 with e91 e92 e93
      subst e91
      clear e92 e93
      have HCL := hide hcl
      clear HW HST HRS HSUM HSM HROW HRX HCA HR HSR HGR HGR0 HRA HB hGA hp9 hcl HL
      go_wp2
      go_loopw [7, 37] (fun q i w' => ∃ x : Nat, x ≤ C ∧ i = .int .i64 x ∧ q = .int .i64 (GA + GC x) ∧ Below wr.heap.size wr w') (fun _ i _ => C - (intOf i).toNat)
      case atStart => exact ⟨0, Nat.zero_le _, rfl, by rw [HGC0.out, Int.add_zero], Below.refl _ _⟩
      case round =>
        obtain ⟨x, hx, rfl, rfl, hb9⟩ := hrel
        have HB9 := hide hb9
        clear hb9
        by_cases hlt2 : x < C
        · have hltI : (x : Int) < C := by omega
          have hcx := below_cell HB9.out hgl (HCL.out x (by rw [tabL_len]; exact hlt2))
          rw [tabL_at] at hcx
          have hwx := HW'.out x
          have hst := HSC.out x
          have hgc := HGC.out x
          have hgc' := HGC.out (x + 1)
          rw [HCS.out x hlt2, show c.getD x 0 - ((cs y f x : Nat) : Int) = wantF c f y x from rfl] at hst
          obtain ⟨D, hD2⟩ : ∃ D, D = wantF c f y x := ⟨_, rfl⟩
          obtain ⟨G1, hG1⟩ : ∃ G, G = GC x := ⟨_, rfl⟩
          rw [← hD2] at hcx hwx hst
          rw [← hG1] at hgc hst ⊢
          have HSU := hide (show GA + G1 + max D (-D) = GA + GC (x + 1) by rw [hst]; omega)
          have HAB := hide fun w' => absolute_any D w' (by omega)
          have hmx : 0 ≤ max D (-D) ∧ max D (-D) ≤ 5 := by omega
          obtain ⟨M, hM⟩ : ∃ M, M = max D (-D) := ⟨_, rfl⟩
          rw [← hM] at HSU HAB hmx
          obtain ⟨m1, m2⟩ := hmx
          obtain ⟨m3, m4⟩ := hgc
          clear hst hgc' hM hD2 hG1 hwx
          go_wp2_with (go_at_call 34; (with_reducible refine (HAB.out _).mono ?_); rintro e w9 ⟨rfl, rfl⟩)
          go_roundw
          case rel => exact ⟨x + 1, by omega, by go_num, by rw [← HSU.out], HB9.out⟩
          case measure => simp [intOf]; omega
        · obtain rfl : x = C := by omega
          go_wp2
          go_ret
          exact ⟨by rw [hD.out]; rfl, HBO.out.trans (HB9.out.mono HBO.out.size)⟩
set_option maxHeartbeats 2000000 in
theorem implChangeOf_any (va vb vm : Value) (r c : List Int) (m : List (List Int)) (w : World) (ha : InRow w va r) (hb : InRow w vb c) (hm : InMat w vm m) :
    Calls Try.prog 13 #[va, vb, vm] w fun e w' => e = .returned (.int .i64 (chgOf r c m)) ∧ Below w.heap.size w w' := by
  have HFT := hide (implSumsFit_any va vb r c w ha hb)
  have HOK := hide fun (w' : World) (h : Below w.heap.size w w') => implImageOk_any vm m w' (inMat_below hm h)
  cases hf : fitB r c with
  | false =>
    rw [hf] at HFT
    have HE : Hid (chgOf r c m = -1) := hide (by unfold chgOf chgB; rw [hf]; rfl)
    rw [HE.out]
    obtain ⟨aa, ca, rfl, -, -⟩ := ha
    obtain ⟨ab, cb, rfl, -, -⟩ := hb
    obtain ⟨am, cm, rfl, -, -⟩ := hm
    generalize r.length = nr at *
    generalize c.length = nc at *
    generalize m.length = nm at *
    clear hf HE
    go_enter Try.func13, Try.ntmps13
    go_wp2_with (go_at_call 8; refine HFT.out.mono ?_; rintro e w1 ⟨rfl, hb1'⟩; have B1 := hide hb1'; clear hb1')
    go_ret
    exact ⟨rfl, B1.out⟩
  | true =>
    rw [hf] at HFT
    cases hok : okB m with
    | false =>
      rw [hok] at HOK
      have HE : Hid (chgOf r c m = -1) := hide (by unfold chgOf chgB; rw [hok, Bool.and_false]; rfl)
      rw [HE.out]
      obtain ⟨aa, ca, rfl, -, -⟩ := ha
      obtain ⟨ab, cb, rfl, -, -⟩ := hb
      obtain ⟨am, cm, rfl, -, -⟩ := hm
      generalize r.length = nr at *
      generalize c.length = nc at *
      generalize m.length = nm at *
      clear hf HE hok
      go_enter Try.func13, Try.ntmps13
      go_wp2_with (first | (go_at_call 8; refine HFT.out.mono ?_; rintro e w1 ⟨rfl, hb1'⟩; have B1 := hide hb1'; clear hb1') | (go_at_call 25; refine (HOK.out _ B1.out).mono ?_; rintro e w3 ⟨rfl, rfl⟩))
      go_ret
      exact ⟨rfl, B1.out⟩
    | true =>
      rw [hok] at HOK
      obtain ⟨R, C, f, rfl, hI⟩ := ok_img hok
      have hR1 := hI.r1; have hC1 := hI.c1; have hR5 := hI.r2; have hC5 := hI.c2
      have hw := width_mkM (C := C) (f := f) (show 0 < R by omega)
      have HA := hide ha; have HB := hide hb; have HM := hide hm
      obtain ⟨aa, ca, rfl, -, -⟩ := ha
      obtain ⟨ab, cb, rfl, -, -⟩ := hb
      obtain ⟨gm, om, cm, rfl, hgm, hra⟩ := inMat_img hm (by omega) (by omega)
      obtain ⟨g0, o0, k0, hc0, -, -⟩ := hra 0 (by omega)
      rw [Nat.add_zero] at hc0
      have hRp : (0 : Int) < R := by omega
      obtain ⟨nr, hnr⟩ : ∃ n, n = r.length := ⟨_, rfl⟩
      obtain ⟨nc, hnc⟩ : ∃ n, n = c.length := ⟨_, rfl⟩
      by_cases hRe : R = nr
      · by_cases hCe : C = nc
        · have hRI : (R : Int) = nr := by omega
          have hCI : (C : Int) = nc := by omega
          have HE := hide (chg_yes hI hf hok (hRe.trans hnr) (hCe.trans hnc))
          rw [HE.out]
          have HBD := chg_bound (f := f) hf (hRe.trans hnr) (hCe.trans hnc)
          obtain ⟨hr1, hr2⟩ := chg_ranges (f := f) hf (hRe.trans hnr) (hCe.trans hnc)
          have hb1 := gapL_range hr1 R
          have hb2 := gapL_range hr2 C
          have HCB := hide fun (w' : World) (hb' : Below w.heap.size w w') => changeBy_any (.slice aa r.length ca) (.slice ab c.length cb) (.slice (some ⟨gm, om, none⟩) R cm) r c R C f w' (inRow_below HA.out hb') (inRow_below HB.out hb') (inMat_below HM.out hb') hI hf (hRe.trans hnr) (hCe.trans hnc)
          obtain ⟨G, hG⟩ : ∃ G, G = chgF r c R C f := ⟨_, rfl⟩
          rw [← hG] at HCB ⊢
          have e1 : r.length = R := by omega
          have e2 : c.length = C := by omega
          rw [e1] at HCB HFT ⊢
          rw [e2] at HCB HFT ⊢
          subst hRe
          subst hCe
          clear HE hI hok hf hw hra hnr hnc hRI hCI e1 e2 HA HB HM hG
          go_enter Try.func13, Try.ntmps13
          go_wp2_with (first | (go_at_call 8; refine HFT.out.mono ?_; rintro e w1 ⟨rfl, hb1'⟩; have B1 := hide hb1'; clear hb1'; have hx0 := below_cell B1.out hgm hc0) | (go_at_call 25; refine (HOK.out _ B1.out).mono ?_; rintro e w1 ⟨rfl, rfl⟩) | ((with_reducible refine (HCB.out _ B1.out).mono ?_); rintro e w2 ⟨rfl, hb2'⟩; have B2 := hide (B1.out.trans (hb2'.mono B1.out.size)); clear hb2'))
          go_ret
          exact ⟨rfl, B2.out⟩
        · have HE : Hid (chgOf r c (mkM R C f) = -1) := hide (by unfold chgOf chgB; rw [hw, decide_eq_false (show ¬ C = c.length by omega), Bool.and_false]; rfl)
          have hRI : (R : Int) = nr := by omega
          have hCI : ¬ (C : Int) = nc := by omega
          rw [HE.out]
          rw [← hnr, ← hnc] at HFT ⊢
          subst hRe
          clear HE hI hok hf hw hra hnr hnc HA HB HM hRI
          go_enter Try.func13, Try.ntmps13
          go_wp2_with (first | (go_at_call 8; refine HFT.out.mono ?_; rintro e w1 ⟨rfl, hb1'⟩; have B1 := hide hb1'; clear hb1'; have hx0 := below_cell B1.out hgm hc0) | (go_at_call 25; refine (HOK.out _ B1.out).mono ?_; rintro e w3 ⟨rfl, rfl⟩))
          go_ret
          exact ⟨rfl, B1.out⟩
      · have HE : Hid (chgOf r c (mkM R C f) = -1) := hide (by unfold chgOf chgB; rw [mkM_len, decide_eq_false (show ¬ R = r.length by omega), Bool.and_false, Bool.false_and]; rfl)
        have hRI : ¬ (R : Int) = nr := by omega
        rw [HE.out]
        rw [← hnr, ← hnc] at HFT ⊢
        clear HE hI hok hf hw hra hnr hnc HA HB HM hRe
        go_enter Try.func13, Try.ntmps13
        go_wp2_with (first | (go_at_call 8; refine HFT.out.mono ?_; rintro e w1 ⟨rfl, hb1'⟩; have B1 := hide hb1'; clear hb1'; have hx0 := below_cell B1.out hgm hc0) | (go_at_call 25; refine (HOK.out _ B1.out).mono ?_; rintro e w3 ⟨rfl, rfl⟩))
        go_ret
        exact ⟨rfl, B1.out⟩
set_option maxHeartbeats 1000000 in
theorem implParityOf_any (va vb : Value) (r c : List Int) (w : World) (ha : InRow w va r) (hb : InRow w vb c) :
    Calls Try.prog 16 #[va, vb] w fun e w' => e = .returned (.int .i64 (parOf r c)) ∧ Below w.heap.size w w' := by
  have HFT := hide (implSumsFit_any va vb r c w ha hb)
  cases hf : fitB r c with
  | false =>
    rw [hf] at HFT
    have HE : Hid (parOf r c = -1) := hide (by unfold parOf; rw [hf]; rfl)
    rw [HE.out]
    obtain ⟨aa, ca, rfl, -, -⟩ := ha
    obtain ⟨ab, cb, rfl, -, -⟩ := hb
    generalize r.length = nr at *
    generalize c.length = nc at *
    clear hf HE
    go_enter Try.func16, Try.ntmps16
    go_wp2_with (go_at_call 8; refine HFT.out.mono ?_; rintro e w1 ⟨rfl, hb1'⟩; have B1 := hide hb1'; clear hb1')
    go_ret
    exact ⟨rfl, B1.out⟩
  | true =>
    rw [hf] at HFT
    obtain ⟨s1, s2⟩ := fit_small hf
    have HT1 := hide fun (w' : World) (h : Below w.heap.size w w') => totalOf_any va r w' (inRow_below ha h) s1
    have HT2 := hide fun (w' : World) (h : Below w.heap.size w w') => totalOf_any vb c w' (inRow_below hb h) s2
    have hb1 := small_sum13 s1
    have hb2 := small_sum13 s2
    have HE : Hid (parOf r c = (r.sum + c.sum) % 2) := hide (by unfold parOf; rw [if_pos hf])
    rw [HE.out]
    obtain ⟨S, hS⟩ : ∃ S, S = r.sum := ⟨_, rfl⟩
    obtain ⟨T, hT⟩ : ∃ T, T = c.sum := ⟨_, rfl⟩
    rw [← hS] at HT1 hb1 ⊢
    rw [← hT] at HT2 hb2 ⊢
    obtain ⟨aa, ca, rfl, -, -⟩ := ha
    obtain ⟨ab, cb, rfl, -, -⟩ := hb
    generalize r.length = nr at *
    generalize c.length = nc at *
    clear hf HE s1 s2 hS hT
    go_enter Try.func16, Try.ntmps16
    go_wp2_with (first | (go_at_call 8; refine HFT.out.mono ?_; rintro e w1 ⟨rfl, hb1'⟩; have B1 := hide hb1'; clear hb1') | ((with_reducible refine (HT1.out _ B1.out).mono ?_); rintro e w1 ⟨rfl, rfl⟩) | ((with_reducible refine (HT2.out _ B1.out).mono ?_); rintro e w1 ⟨rfl, rfl⟩))
    go_ret
    exact ⟨rfl, B1.out⟩
end Go.Proofs.Ytinhdcchfeokpaa
/-
  The exact laws on SumsFit, ChangeOf and ParityOf, walked.
-/
namespace Go.Proofs.Ytinhdcchfeokpaa
open Go.RowKit

theorem lawSumsFit_walk (a0 : Option Addr) (n0 c0 : Nat) (r0 : List Int) (a1 : Option Addr) (n1 c1 : Nat) (r1 : List Int) (w : World) (hin0 : InRow w (.slice a0 n0 c0) r0) (hin1 : InRow w (.slice a1 n1 c1) r1) :
    Calls Try.prog 3 #[.slice a0 n0 c0, .slice a1 n1 c1] w fun e w' => e = .returned (.bool true) ∧ Below w.heap.size w w' :=
  lawSumsFit_gen a0 n0 c0 r0 a1 n1 c1 r1 w hin0 hin1 (fitB r0 r1) (fun v0 v1 w h0 h1 => (specSumsFit_any v0 v1 r0 r1 w h0 h1).mono fun _ _ h => ⟨h.1, h.2 ▸ Below.refl _ _⟩) (fun v0 v1 w h0 h1 => implSumsFit_any v0 v1 r0 r1 w h0 h1)
theorem lawParityOf_walk (a0 : Option Addr) (n0 c0 : Nat) (r0 : List Int) (a1 : Option Addr) (n1 c1 : Nat) (r1 : List Int) (w : World) (hin0 : InRow w (.slice a0 n0 c0) r0) (hin1 : InRow w (.slice a1 n1 c1) r1) :
    Calls Try.prog 5 #[.slice a0 n0 c0, .slice a1 n1 c1] w fun e w' => e = .returned (.bool true) ∧ Below w.heap.size w w' :=
  lawParityOf_gen a0 n0 c0 r0 a1 n1 c1 r1 w hin0 hin1 (parOf r0 r1) (fun v0 v1 w h0 h1 => (specParityOf_any v0 v1 r0 r1 w h0 h1).mono fun _ _ h => ⟨h.1, h.2 ▸ Below.refl _ _⟩) (fun v0 v1 w h0 h1 => implParityOf_any v0 v1 r0 r1 w h0 h1)
theorem lawChangeOf_walk (a0 : Option Addr) (n0 c0 : Nat) (r0 : List Int) (a1 : Option Addr) (n1 c1 : Nat) (r1 : List Int) (a2 : Option Addr) (n2 c2 : Nat) (m2 : List (List Int)) (w : World) (hin0 : InRow w (.slice a0 n0 c0) r0) (hin1 : InRow w (.slice a1 n1 c1) r1) (hin2 : InMat w (.slice a2 n2 c2) m2) :
    Calls Try.prog 4 #[.slice a0 n0 c0, .slice a1 n1 c1, .slice a2 n2 c2] w fun e w' => e = .returned (.bool true) ∧ Below w.heap.size w w' :=
  lawChangeOf_gen a0 n0 c0 r0 a1 n1 c1 r1 a2 n2 c2 m2 w hin0 hin1 hin2 (chgOf r0 r1 m2) (fun v0 v1 v2 w h0 h1 h2 => specChangeOf_any v0 v1 v2 r0 r1 m2 w h0 h1 h2) (fun v0 v1 v2 w h0 h1 h2 => implChangeOf_any v0 v1 v2 r0 r1 m2 w h0 h1 h2)
end Go.Proofs.Ytinhdcchfeokpaa
