/-
  Texts of this claim, one behind the other: LawsCv.
-/
import Derived.Test.YtpinkjgpdapgeaaPackE
import Derived.Test.YtpinkjgpdapgeaaPackA
import Derived.Test.YtpinkjgpdapgeaaPackC
/-
  The exact laws on IsHConvex, IsVConvex and IsConvex, walked.
-/
namespace Go.Proofs.Ytpinkjgpdapgeaa
open Go.RowKit
set_option linter.unusedVariables false

set_option maxRecDepth 100000 in
set_option maxHeartbeats 4000000 in
theorem lawIsHConvex_gen (a0 : Option Addr) (n0 c0 : Nat) (m0 : List (List Int)) (w : World) (hin0 : InMat w (.slice a0 n0 c0) m0) (v_0 : Bool) 
    (hs : ∀ (v0 : Value) (w : World), MatC w v0 m0 → Calls Try.prog 12 #[v0] w (fun e w' => e = .returned (.bool v_0) ∧ Below w.heap.size w w'))
    (hi : ∀ (v0 : Value) (w : World), MatC w v0 m0 → Calls Try.prog 14 #[v0] w (fun e w' => e = .returned (.bool v_0) ∧ Below w.heap.size w w')) :
    Calls Try.prog 4 #[.slice a0 n0 c0] w fun e w' => e = .returned (.bool true) ∧ Below w.heap.size w w' := by
  have HI0 := hide hin0
  obtain ⟨a', c', he, hm0, -⟩ := hin0
  cases he
  unfold maxLen at hm0
  have hbb0 : (v_0 != v_0) = false := by cases v_0 <;> rfl
  go_enter Try.func4, Try.ntmps4
  go_wp2_with fail
  refine (szIntSS_any _ m0 (1048576) _ (by omega) HI0.out).mono ?_
  rintro e w1 ⟨q0, rfl, hq0, hb⟩
  have HB1 := hide (hb)
  have s1 := hb.size
  clear hb
  rcases hq0 with rfl | ⟨hsz0, rfl⟩
  · go_wp2
    go_ret
    exact ⟨rfl, HB1.out⟩
  · skip
    have HZ0 : Hid (m0.length + cellsM m0 ≤ 1048576) := hide (by omega)
    have HS := hide (hs); have HM := hide (hi)
    clear hs hi
    go_wp2_with fail
    refine (toIntSS_any _ m0 _ (by have := HZ0.out; omega) (inMat_below HI0.out HB1.out)).mono ?_
    rintro e w2 ⟨p0, rfl, ho, hb⟩
    have P0_2 := hide (ho)
    have HB2 := hide (HB1.out.trans (hb.mono HB1.out.size))
    have s2 := hb.size
    clear ho hb
    go_wp2_with fail
    refine (HS.out p0 _ (matC_own P0_2.out)).mono ?_
    rintro e w3 ⟨rfl, hb⟩
    have HB3 := hide (HB2.out.trans (hb.mono HB2.out.size))
    have s3 := hb.size
    clear hb
    go_wp2_with fail
    refine (toIntSS_any _ m0 _ (by have := HZ0.out; omega) (inMat_below HI0.out HB3.out)).mono ?_
    rintro e w4 ⟨x0, rfl, ho, hb⟩
    have X0_4 := hide (ho)
    have HB4 := hide (HB3.out.trans (hb.mono HB3.out.size))
    have s4 := hb.size
    clear ho hb
    go_wp2_with fail
    refine (HM.out x0 _ (matC_own X0_4.out)).mono ?_
    rintro e w5 ⟨rfl, hb⟩
    have X0_5 := hide (ownMat_below X0_4.out hb)
    have HB5 := hide (HB4.out.trans (hb.mono HB4.out.size))
    have s5 := hb.size
    clear hb
    go_wp2_with fail
    refine (toIntSS_any _ m0 _ (by have := HZ0.out; omega) (inMat_below HI0.out HB5.out)).mono ?_
    rintro e w6 ⟨z0, rfl, ho, hb⟩
    have X0_6 := hide (ownMat_below X0_5.out hb)
    have Z0_6 := hide (ho)
    have HB6 := hide (HB5.out.trans (hb.mono HB5.out.size))
    have s6 := hb.size
    clear ho hb
    go_wp2_with fail
    refine (eqIntSS_same x0 z0 m0 _ (inMat_own X0_6.out) (inMat_own Z0_6.out)).mono ?_
    rintro e w7 ⟨rfl, hb⟩
    have X0_7 := hide (ownMat_below X0_6.out hb)
    have HB7 := hide (HB6.out.trans (hb.mono HB6.out.size))
    have s7 := hb.size
    clear hb
    go_wp2
    go_ret
    exact ⟨rfl, HB7.out⟩

theorem lawIsHConvex_walk (a0 : Option Addr) (n0 c0 : Nat) (m0 : List (List Int)) (w : World) (hin0 : InMat w (.slice a0 n0 c0) m0) :
    Calls Try.prog 4 #[.slice a0 n0 c0] w fun e w' => e = .returned (.bool true) ∧ Below w.heap.size w w' :=
  lawIsHConvex_gen a0 n0 c0 m0 w hin0 (hconvB m0) (fun v0 w h0 => (specHConvex_any v0 m0 w (matC_in h0)).mono (by rintro e w' ⟨h1, rfl⟩; exact ⟨h1, Below.refl _ _⟩)) (fun v0 w h0 => implHConvex_any v0 m0 w h0)

set_option maxRecDepth 100000 in
set_option maxHeartbeats 4000000 in
theorem lawIsVConvex_gen (a0 : Option Addr) (n0 c0 : Nat) (m0 : List (List Int)) (w : World) (hin0 : InMat w (.slice a0 n0 c0) m0) (v_0 : Bool) 
    (hs : ∀ (v0 : Value) (w : World), MatC w v0 m0 → Calls Try.prog 16 #[v0] w (fun e w' => e = .returned (.bool v_0) ∧ Below w.heap.size w w'))
    (hi : ∀ (v0 : Value) (w : World), MatC w v0 m0 → Calls Try.prog 17 #[v0] w (fun e w' => e = .returned (.bool v_0) ∧ Below w.heap.size w w')) :
    Calls Try.prog 5 #[.slice a0 n0 c0] w fun e w' => e = .returned (.bool true) ∧ Below w.heap.size w w' := by
  have HI0 := hide hin0
  obtain ⟨a', c', he, hm0, -⟩ := hin0
  cases he
  unfold maxLen at hm0
  have hbb0 : (v_0 != v_0) = false := by cases v_0 <;> rfl
  go_enter Try.func5, Try.ntmps5
  go_wp2_with fail
  refine (szIntSS_any _ m0 (1048576) _ (by omega) HI0.out).mono ?_
  rintro e w1 ⟨q0, rfl, hq0, hb⟩
  have HB1 := hide (hb)
  have s1 := hb.size
  clear hb
  rcases hq0 with rfl | ⟨hsz0, rfl⟩
  · go_wp2
    go_ret
    exact ⟨rfl, HB1.out⟩
  · skip
    have HZ0 : Hid (m0.length + cellsM m0 ≤ 1048576) := hide (by omega)
    have HS := hide (hs); have HM := hide (hi)
    clear hs hi
    go_wp2_with fail
    refine (toIntSS_any _ m0 _ (by have := HZ0.out; omega) (inMat_below HI0.out HB1.out)).mono ?_
    rintro e w2 ⟨p0, rfl, ho, hb⟩
    have P0_2 := hide (ho)
    have HB2 := hide (HB1.out.trans (hb.mono HB1.out.size))
    have s2 := hb.size
    clear ho hb
    go_wp2_with fail
    refine (HS.out p0 _ (matC_own P0_2.out)).mono ?_
    rintro e w3 ⟨rfl, hb⟩
    have HB3 := hide (HB2.out.trans (hb.mono HB2.out.size))
    have s3 := hb.size
    clear hb
    go_wp2_with fail
    refine (toIntSS_any _ m0 _ (by have := HZ0.out; omega) (inMat_below HI0.out HB3.out)).mono ?_
    rintro e w4 ⟨x0, rfl, ho, hb⟩
    have X0_4 := hide (ho)
    have HB4 := hide (HB3.out.trans (hb.mono HB3.out.size))
    have s4 := hb.size
    clear ho hb
    go_wp2_with fail
    refine (HM.out x0 _ (matC_own X0_4.out)).mono ?_
    rintro e w5 ⟨rfl, hb⟩
    have X0_5 := hide (ownMat_below X0_4.out hb)
    have HB5 := hide (HB4.out.trans (hb.mono HB4.out.size))
    have s5 := hb.size
    clear hb
    go_wp2_with fail
    refine (toIntSS_any _ m0 _ (by have := HZ0.out; omega) (inMat_below HI0.out HB5.out)).mono ?_
    rintro e w6 ⟨z0, rfl, ho, hb⟩
    have X0_6 := hide (ownMat_below X0_5.out hb)
    have Z0_6 := hide (ho)
    have HB6 := hide (HB5.out.trans (hb.mono HB5.out.size))
    have s6 := hb.size
    clear ho hb
    go_wp2_with fail
    refine (eqIntSS_same x0 z0 m0 _ (inMat_own X0_6.out) (inMat_own Z0_6.out)).mono ?_
    rintro e w7 ⟨rfl, hb⟩
    have X0_7 := hide (ownMat_below X0_6.out hb)
    have HB7 := hide (HB6.out.trans (hb.mono HB6.out.size))
    have s7 := hb.size
    clear hb
    go_wp2
    go_ret
    exact ⟨rfl, HB7.out⟩

theorem lawIsVConvex_walk (a0 : Option Addr) (n0 c0 : Nat) (m0 : List (List Int)) (w : World) (hin0 : InMat w (.slice a0 n0 c0) m0) :
    Calls Try.prog 5 #[.slice a0 n0 c0] w fun e w' => e = .returned (.bool true) ∧ Below w.heap.size w w' :=
  lawIsVConvex_gen a0 n0 c0 m0 w hin0 (hconvB (trB m0)) (fun v0 w h0 => specVConvex_any v0 m0 w (matC_in h0)) (fun v0 w h0 => implVConvex_any v0 m0 w (matC_in h0))

set_option maxRecDepth 100000 in
set_option maxHeartbeats 4000000 in
theorem lawIsConvex_gen (a0 : Option Addr) (n0 c0 : Nat) (m0 : List (List Int)) (w : World) (hin0 : InMat w (.slice a0 n0 c0) m0) (v_0 : Bool) 
    (hs : ∀ (v0 : Value) (w : World), MatC w v0 m0 → Calls Try.prog 18 #[v0] w (fun e w' => e = .returned (.bool v_0) ∧ Below w.heap.size w w'))
    (hi : ∀ (v0 : Value) (w : World), MatC w v0 m0 → Calls Try.prog 19 #[v0] w (fun e w' => e = .returned (.bool v_0) ∧ Below w.heap.size w w')) :
    Calls Try.prog 6 #[.slice a0 n0 c0] w fun e w' => e = .returned (.bool true) ∧ Below w.heap.size w w' := by
  have HI0 := hide hin0
  obtain ⟨a', c', he, hm0, -⟩ := hin0
  cases he
  unfold maxLen at hm0
  have hbb0 : (v_0 != v_0) = false := by cases v_0 <;> rfl
  go_enter Try.func6, Try.ntmps6
  go_wp2_with fail
  refine (szIntSS_any _ m0 (1048576) _ (by omega) HI0.out).mono ?_
  rintro e w1 ⟨q0, rfl, hq0, hb⟩
  have HB1 := hide (hb)
  have s1 := hb.size
  clear hb
  rcases hq0 with rfl | ⟨hsz0, rfl⟩
  · go_wp2
    go_ret
    exact ⟨rfl, HB1.out⟩
  · skip
    have HZ0 : Hid (m0.length + cellsM m0 ≤ 1048576) := hide (by omega)
    have HS := hide (hs); have HM := hide (hi)
    clear hs hi
    go_wp2_with fail
    refine (toIntSS_any _ m0 _ (by have := HZ0.out; omega) (inMat_below HI0.out HB1.out)).mono ?_
    rintro e w2 ⟨p0, rfl, ho, hb⟩
    have P0_2 := hide (ho)
    have HB2 := hide (HB1.out.trans (hb.mono HB1.out.size))
    have s2 := hb.size
    clear ho hb
    go_wp2_with fail
    refine (HS.out p0 _ (matC_own P0_2.out)).mono ?_
    rintro e w3 ⟨rfl, hb⟩
    have HB3 := hide (HB2.out.trans (hb.mono HB2.out.size))
    have s3 := hb.size
    clear hb
    go_wp2_with fail
    refine (toIntSS_any _ m0 _ (by have := HZ0.out; omega) (inMat_below HI0.out HB3.out)).mono ?_
    rintro e w4 ⟨x0, rfl, ho, hb⟩
    have X0_4 := hide (ho)
    have HB4 := hide (HB3.out.trans (hb.mono HB3.out.size))
    have s4 := hb.size
    clear ho hb
    go_wp2_with fail
    refine (HM.out x0 _ (matC_own X0_4.out)).mono ?_
    rintro e w5 ⟨rfl, hb⟩
    have X0_5 := hide (ownMat_below X0_4.out hb)
    have HB5 := hide (HB4.out.trans (hb.mono HB4.out.size))
    have s5 := hb.size
    clear hb
    go_wp2_with fail
    refine (toIntSS_any _ m0 _ (by have := HZ0.out; omega) (inMat_below HI0.out HB5.out)).mono ?_
    rintro e w6 ⟨z0, rfl, ho, hb⟩
    have X0_6 := hide (ownMat_below X0_5.out hb)
    have Z0_6 := hide (ho)
    have HB6 := hide (HB5.out.trans (hb.mono HB5.out.size))
    have s6 := hb.size
    clear ho hb
    go_wp2_with fail
    refine (eqIntSS_same x0 z0 m0 _ (inMat_own X0_6.out) (inMat_own Z0_6.out)).mono ?_
    rintro e w7 ⟨rfl, hb⟩
    have X0_7 := hide (ownMat_below X0_6.out hb)
    have HB7 := hide (HB6.out.trans (hb.mono HB6.out.size))
    have s7 := hb.size
    clear hb
    go_wp2
    go_ret
    exact ⟨rfl, HB7.out⟩

theorem lawIsConvex_walk (a0 : Option Addr) (n0 c0 : Nat) (m0 : List (List Int)) (w : World) (hin0 : InMat w (.slice a0 n0 c0) m0) :
    Calls Try.prog 6 #[.slice a0 n0 c0] w fun e w' => e = .returned (.bool true) ∧ Below w.heap.size w w' :=
  lawIsConvex_gen a0 n0 c0 m0 w hin0 (convB m0) (fun v0 w h0 => specConvex_any v0 m0 w (matC_in h0)) (fun v0 w h0 => implConvex_any v0 m0 w h0)
end Go.Proofs.Ytpinkjgpdapgeaa
