/-
  The exact laws that answer an image out of sums, walked.
-/
import Derived.Test.YtecfigjkcpbggaaLawsQ
import Derived.Test.YtecfigjkcpbggaaImg
namespace Go.Proofs.Ytecfigjkcpbggaa
open Go.RowKit
set_option linter.unusedVariables false

set_option maxRecDepth 100000 in
set_option maxHeartbeats 2000000 in
theorem lawStaircaseOf_gen (a0 : Option Addr) (n0 c0 : Nat) (r0 : List Int) (m1 : Int) (w : World) (hin0 : InRow w (.slice a0 n0 c0) r0) (rows : List (List Int)) (hrows : rows.length + cellsM rows ≤ 1000000)
    (hs : ∀ (v0 : Value) (w : World), InRow w v0 r0 → Calls Try.prog 24 #[v0, .int .i64 m1] w (MatRes rows w))
    (hi : ∀ (v0 : Value) (w : World), InRow w v0 r0 → Calls Try.prog 25 #[v0, .int .i64 m1] w (MatRes rows w)) :
    Calls Try.prog 7 #[.slice a0 n0 c0, .int .i64 m1] w fun e w' => e = .returned (.bool true) ∧ Below w.heap.size w w' := by
  have HI0 := hide hin0
  obtain ⟨a', c', he, hm0, -⟩ := hin0
  cases he
  unfold maxLen at hm0
  by_cases hr0 : 1048576 < r0.length
  · clear hs hi
    obtain ⟨R0, hR0⟩ : ∃ R0, R0 = r0.length := ⟨_, rfl⟩
    rw [← hR0] at HI0 hm0 hr0 ⊢
    clear hR0
    go_enter Try.func7, Try.ntmps7
    go_wp2
    go_ret
    exact ⟨rfl, Below.refl _ _⟩
  · have HS := hide hs; have HM := hide hi
    have HR0 : Hid (r0.length ≤ 2000000) := hide (by omega)
    clear hs hi
    go_enter Try.func7, Try.ntmps7
    go_wp2_with fail
    refine (toIntS_any _ r0 _ HR0.out HI0.out).mono ?_
    rintro e w1 ⟨p0, rfl, ho, hb⟩
    have P0L := hide (fun k e => ho.lt k e); have P0_1 := hide ho; have HB1 := hide (hb); have s1 := hb.size; clear ho hb
    go_wp2_with fail
    refine (HS.out p0 _ (inRow_own P0_1.out)).mono ?_
    rintro e w2 ⟨u, rfl, ho, hb⟩
    have U_2 := hide ho; have HB2 := hide (HB1.out.trans (hb.mono HB1.out.size)); have s2 := hb.size; clear ho hb
    go_wp2_with fail
    refine (toIntS_any _ r0 _ HR0.out (inRow_below HI0.out HB2.out)).mono ?_
    rintro e w3 ⟨x0, rfl, ho, hb⟩
    have U_3 := hide (ownMat_below U_2.out hb); have X0L := hide (fun k e => ho.lt k e); have X0_3 := hide ho; have HB3 := hide (HB2.out.trans (hb.mono HB2.out.size)); have s3 := hb.size; clear ho hb
    go_wp2_with fail
    refine (HM.out x0 _ (inRow_own X0_3.out)).mono ?_
    rintro e w4 ⟨g, rfl, ho, hb⟩
    have U_4 := hide (ownMat_below U_3.out hb); have X0_4 := hide (own_below X0_3.out hb); have G_4 := hide ho; have HB4 := hide (HB3.out.trans (hb.mono HB3.out.size)); have s4 := hb.size; clear ho hb
    go_wp2_with fail
    refine (eqIntSS_same g u rows _ (inMat_own G_4.out) (inMat_own U_4.out)).mono ?_
    rintro e w5 ⟨rfl, hb⟩
    have U_5 := hide (ownMat_below U_4.out hb); have X0_5 := hide (own_below X0_4.out hb); have G_5 := hide (ownMat_below G_4.out hb); have HB5 := hide (HB4.out.trans (hb.mono HB4.out.size)); have s5 := hb.size; clear hb
    go_wp2_with fail
    refine (toIntS_any _ r0 _ HR0.out (inRow_below HI0.out HB5.out)).mono ?_
    rintro e w6 ⟨z0, rfl, ho, hb⟩
    have U_6 := hide (ownMat_below U_5.out hb); have X0_6 := hide (own_below X0_5.out hb); have G_6 := hide (ownMat_below G_5.out hb); have Z0L := hide (fun k e => ho.lt k e); have Z0_6 := hide ho; have HB6 := hide (HB5.out.trans (hb.mono HB5.out.size)); have s6 := hb.size; clear ho hb
    go_wp2_with fail
    refine (eqIntS_same x0 z0 r0 _ (inRow_own X0_6.out) (inRow_own Z0_6.out)).mono ?_
    rintro e w7 ⟨rfl, hb⟩
    have U_7 := hide (ownMat_below U_6.out hb); have X0_7 := hide (own_below X0_6.out hb); have G_7 := hide (ownMat_below G_6.out hb); have HB7 := hide (HB6.out.trans (hb.mono HB6.out.size)); have s7 := hb.size; clear hb
    go_wp2_with fail
    refine (markIntS_any r0.length 1 x0 _ _ _ (by have := HR0.out; omega) (by omega) X0_7.out).mono ?_
    rintro e w8 ⟨rfl, -, hg⟩; have hwi := within_grown (lo := w2.heap.size) (hi := w3.heap.size) hg (fun k e => X0L.out k e); clear hg
    have U_8 := hide (ownMat_within U_7.out hwi (by omega)); have G_8 := hide (ownMat_within G_7.out hwi (by omega)); have HB8 := hide (HB7.out.trans (below_within hwi (by omega) HB7.out.size)); have s8 := hwi.size; clear hwi
    go_wp2_with fail
    refine (eqIntSS_same g u rows _ (inMat_own G_8.out) (inMat_own U_8.out)).mono ?_
    rintro e w9 ⟨rfl, hb⟩
    have U_9 := hide (ownMat_below U_8.out hb); have G_9 := hide (ownMat_below G_8.out hb); have HB9 := hide (HB8.out.trans (hb.mono HB8.out.size)); have s9 := hb.size; clear hb
    go_wp2_with fail
    refine (markIntSS_any rows 1 _ _ g _ (by omega) (by omega) G_9.out).mono ?_
    rintro e w10 ⟨rfl, ho, hwi⟩
    have U_10 := hide (ownMat_within U_9.out hwi (by omega)); have HB10 := hide (HB9.out.trans (below_within hwi (by omega) HB9.out.size)); have s10 := hwi.size; clear hwi
    have M_10 := hide (inMat_own ho); clear ho
    go_wp2_with fail
    refine (heldIntSS_any rows 1 g _ (by omega) (by omega) M_10.out).mono ?_
    rintro e w11 ⟨rfl, hb⟩
    have U_11 := hide (ownMat_below U_10.out hb); have M_11 := hide (inMat_below M_10.out hb); have HB11 := hide (HB10.out.trans (hb.mono HB10.out.size)); have s11 := hb.size; clear hb
    go_wp2_with fail
    refine (toIntS_any _ r0 _ HR0.out (inRow_below HI0.out HB11.out)).mono ?_
    rintro e w12 ⟨y0, rfl, ho, hb⟩
    have U_12 := hide (ownMat_below U_11.out hb); have M_12 := hide (inMat_below M_11.out hb); have Y0L := hide (fun k e => ho.lt k e); have Y0_12 := hide ho; have HB12 := hide (HB11.out.trans (hb.mono HB11.out.size)); have s12 := hb.size; clear ho hb
    go_wp2_with fail
    refine (HM.out y0 _ (inRow_own Y0_12.out)).mono ?_
    rintro e w13 ⟨h, rfl, ho, hb⟩
    have U_13 := hide (ownMat_below U_12.out hb); have M_13 := hide (inMat_below M_12.out hb); have H_13 := hide ho; have HB13 := hide (HB12.out.trans (hb.mono HB12.out.size)); have s13 := hb.size; clear ho hb
    go_wp2_with fail
    refine (eqIntSS_same h u rows _ (inMat_own H_13.out) (inMat_own U_13.out)).mono ?_
    rintro e w14 ⟨rfl, hb⟩
    have U_14 := hide (ownMat_below U_13.out hb); have M_14 := hide (inMat_below M_13.out hb); have H_14 := hide (ownMat_below H_13.out hb); have HB14 := hide (HB13.out.trans (hb.mono HB13.out.size)); have s14 := hb.size; clear hb
    go_wp2_with fail
    refine (heldIntSS_any rows 1 g _ (by omega) (by omega) M_14.out).mono ?_
    rintro e w15 ⟨rfl, hb⟩
    have M_15 := hide (inMat_below M_14.out hb); have HB15 := hide (HB14.out.trans (hb.mono HB14.out.size)); have s15 := hb.size; clear hb
    go_wp2
    go_ret
    exact ⟨rfl, HB15.out⟩
end Go.Proofs.Ytecfigjkcpbggaa
