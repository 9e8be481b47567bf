/-
  The exact laws on RowSums and ColSums, walked.
-/
import Derived.Test.YteogbddbafkieaaColS
namespace Go.Proofs.Yteogbddbafkieaa
open Go.RowKit
set_option linter.unusedVariables false

set_option maxRecDepth 100000 in
set_option maxHeartbeats 1000000 in
theorem lawRowSums_gen (a : Option Addr) (n c : Nat) (m : List (List Int)) (w : World) (hin : InMat w (.slice a n c) m) (rows : List Int) (hrows : rows.length ≤ 1000000)
    (hs : ∀ v w, InMat w v m → Calls Try.prog 12 #[v] w (IntsRes rows w))
    (hi : ∀ v w, InMat w v m → Calls Try.prog 14 #[v] w (IntsRes rows w)) :
    Calls Try.prog 3 #[.slice a n c] w fun e w' => e = .returned (.bool true) ∧ Below w.heap.size w w' := by
  have HI := hide hin; have HS := hide hs; have HM := hide hi
  clear hin hs hi
  go_enter Try.func3, Try.ntmps3
  go_wp2_with fail
  refine (szIntSS_any _ m 1048576 _ (by omega) HI.out).mono ?_
  rintro e w1 ⟨r, rfl, hr, hb1⟩
  have HB1 := hide hb1
  clear hb1
  rcases hr with rfl | ⟨hsz, rfl⟩
  · go_wp2
    go_ret
    exact ⟨rfl, HB1.out⟩
  · go_wp2_with fail
    refine (toIntSS_any _ m _ (by omega) (inMat_below HI.out HB1.out)).mono ?_
    rintro e w2 ⟨v2, rfl, ho2, hb2⟩
    have HO2 := hide ho2; have HB2 := hide (HB1.out.trans (hb2.mono HB1.out.size)); clear ho2 hb2
    go_wp2_with fail
    refine (HS.out v2 _ (inMat_own HO2.out)).mono ?_
    rintro e w3 ⟨u0, rfl, ho3, hb3⟩
    have HUL := hide (fun k e => (ho3.lt k e).2); have HU0 := hide ho3; have HB3 := hide (HB2.out.trans (hb3.mono HB2.out.size)); clear ho3 hb3
    go_wp2_with fail
    refine (toIntSS_any _ m _ (by omega) (inMat_below HI.out HB3.out)).mono ?_
    rintro e w4 ⟨v4, rfl, ho4, hb4⟩
    have HO4 := hide ho4; have HU1 := hide (own_below HU0.out hb4); have HB4 := hide (HB3.out.trans (hb4.mono HB3.out.size)); have hs4 := hb4.size; clear ho4 hb4
    go_wp2_with fail
    refine (HM.out v4 _ (inMat_own HO4.out)).mono ?_
    rintro e w5 ⟨g0, rfl, ho5, hb5⟩
    have HG0 := hide ho5; have HO5 := hide (ownMat_below HO4.out hb5); have HU2 := hide (own_below HU1.out hb5); have HB5 := hide (HB4.out.trans (hb5.mono HB4.out.size))
    have hs5 := hb5.size; clear ho5 hb5
    go_wp2_with fail
    refine (eqIntS_same g0 u0 rows _ (inRow_own HG0.out) (inRow_own HU2.out)).mono ?_
    rintro e w6 ⟨rfl, hb6⟩
    have HG1 := hide (own_below HG0.out hb6); have HO6 := hide (ownMat_below HO5.out hb6); have HU3 := hide (own_below HU2.out hb6); have HB6 := hide (HB5.out.trans (hb6.mono HB5.out.size))
    have hs6 := hb6.size; clear hb6
    go_wp2_with fail
    refine (toIntSS_any _ m _ (by omega) (inMat_below HI.out HB6.out)).mono ?_
    rintro e w7 ⟨v7, rfl, ho7, hb7⟩
    have HV7 := hide ho7; have HG2 := hide (own_below HG1.out hb7); have HO7 := hide (ownMat_below HO6.out hb7); have HU4 := hide (own_below HU3.out hb7); have HB7 := hide (HB6.out.trans (hb7.mono HB6.out.size))
    have hs7 := hb7.size; clear ho7 hb7
    go_wp2_with fail
    refine (eqIntSS_same v4 v7 m _ (inMat_own HO7.out) (inMat_own HV7.out)).mono ?_
    rintro e w8 ⟨rfl, hb8⟩
    have HG3 := hide (own_below HG2.out hb8); have HO8 := hide (ownMat_below HO7.out hb8); have HU5 := hide (own_below HU4.out hb8); have HB8 := hide (HB7.out.trans (hb8.mono HB7.out.size))
    have hs8 := hb8.size; clear hb8
    go_wp2_with fail
    refine (markIntSS_any m 1 _ _ v4 _ (by omega) (by omega) HO8.out).mono ?_
    rintro e w9 ⟨rfl, -, hw9⟩
    have HG4 := hide (own_within HG3.out hw9 (fun k e => .inr (HG3.out.lt k e).1)); have HU6 := hide (own_within HU5.out hw9 (fun k e => .inl (HUL.out k e))); have HB9 := hide (HB8.out.trans (below_within hw9 HB3.out.size HB8.out.size))
    have hs9 := hw9.size; clear hw9
    go_wp2_with fail
    refine (eqIntS_same g0 u0 rows _ (inRow_own HG4.out) (inRow_own HU6.out)).mono ?_
    rintro e w10 ⟨rfl, hb10⟩
    have HG5 := hide (own_below HG4.out hb10); have HU7 := hide (own_below HU6.out hb10); have HB10 := hide (HB9.out.trans (hb10.mono HB9.out.size))
    have hs10 := hb10.size; clear hb10
    go_wp2_with fail
    refine (markIntS_any rows.length 1 g0 _ _ _ (by omega) (by omega) HG5.out).mono ?_
    rintro e w11 ⟨rfl, ho11, hg11⟩
    have HNE : Hid (u0.ownBlock = none ∨ u0.ownBlock ≠ g0.ownBlock) := hide (by
      cases e0 : u0.ownBlock with
      | none => exact .inl rfl
      | some k =>
        refine .inr fun e1 => ?_
        have q1 := HUL.out k e0
        have q2 := (HG5.out.lt k e1.symm).1
        omega)
    have HG6 := hide (inRow_own (r := markR rows.length 1) (by rw [markR_len]; exact ho11)); have HU8 := hide (HU7.out.kept hg11 HNE.out)
    have HB11 := hide (HB10.out.trans (grown_below hg11 (fun k hk => by have := (HG5.out.lt k hk).1; have := HB4.out.size; omega) HB10.out.size))
    clear ho11 hg11
    go_wp2_with fail
    refine (heldIntS_any rows.length 1 g0 _ (by omega) (by omega) HG6.out).mono ?_
    rintro e w12 ⟨rfl, hb12⟩
    have HG7 := hide (inRow_below HG6.out hb12); have HU9 := hide (own_below HU8.out hb12); have HB12 := hide (HB11.out.trans (hb12.mono HB11.out.size))
    clear hb12
    go_wp2_with fail
    refine (toIntSS_any _ m _ (by omega) (inMat_below HI.out HB12.out)).mono ?_
    rintro e w13 ⟨v13, rfl, ho13, hb13⟩
    have HV13 := hide ho13; have HG8 := hide (inRow_below HG7.out hb13); have HU10 := hide (own_below HU9.out hb13); have HB13 := hide (HB12.out.trans (hb13.mono HB12.out.size))
    clear ho13 hb13
    go_wp2_with fail
    refine (HM.out v13 _ (inMat_own HV13.out)).mono ?_
    rintro e w14 ⟨h0, rfl, ho14, hb14⟩
    have HH := hide ho14; have HG9 := hide (inRow_below HG8.out hb14); have HU11 := hide (own_below HU10.out hb14); have HB14 := hide (HB13.out.trans (hb14.mono HB13.out.size))
    clear ho14 hb14
    go_wp2_with fail
    refine (eqIntS_same h0 u0 rows _ (inRow_own HH.out) (inRow_own HU11.out)).mono ?_
    rintro e w15 ⟨rfl, hb15⟩
    have HG10 := hide (inRow_below HG9.out hb15); have HB15 := hide (HB14.out.trans (hb15.mono HB14.out.size))
    clear hb15
    go_wp2_with fail
    refine (heldIntS_any rows.length 1 g0 _ (by omega) (by omega) HG10.out).mono ?_
    rintro e w16 ⟨rfl, hb16⟩
    have HB16 := hide (HB15.out.trans (hb16.mono HB15.out.size))
    clear hb16
    go_wp2
    go_ret
    exact ⟨rfl, HB16.out⟩
theorem lawRowSums_walk (a : Option Addr) (n c : Nat) (m : List (List Int)) (w : World) (hin : InMat w (.slice a n c) m) :
    Calls Try.prog 3 #[.slice a n c] w fun e w' => e = .returned (.bool true) ∧ Below w.heap.size w w' := by
  cases h : okB m with
  | false => exact lawRowSums_gen a n c m w hin [] (by decide) (fun v w hv => specRowSums_no v m w hv h) (fun v w hv => implRowSums_no v m w hv h)
  | true =>
    obtain ⟨R, C, f, rfl, hI⟩ := ok_img h
    exact lawRowSums_gen a n c _ w hin (rowsL R C f) (by rw [rowsL, rowF_len]; have := hI.r2; have := hI.c2; omega) (fun v w hv => specRowSums_yes v R C f w hv hI) (fun v w hv => implRowSums_yes v R C f w hv hI)

set_option maxRecDepth 100000 in
set_option maxHeartbeats 1000000 in
theorem lawColSums_gen (a : Option Addr) (n c : Nat) (m : List (List Int)) (w : World) (hin : InMat w (.slice a n c) m) (rows : List Int) (hrows : rows.length ≤ 1000000)
    (hs : ∀ v w, InMat w v m → Calls Try.prog 20 #[v] w (IntsRes rows w))
    (hi : ∀ v w, InMat w v m → Calls Try.prog 21 #[v] w (IntsRes rows w)) :
    Calls Try.prog 4 #[.slice a n c] w fun e w' => e = .returned (.bool true) ∧ Below w.heap.size w w' := by
  have HI := hide hin; have HS := hide hs; have HM := hide hi
  clear hin hs hi
  go_enter Try.func4, Try.ntmps4
  go_wp2_with fail
  refine (szIntSS_any _ m 1048576 _ (by omega) HI.out).mono ?_
  rintro e w1 ⟨r, rfl, hr, hb1⟩
  have HB1 := hide hb1
  clear hb1
  rcases hr with rfl | ⟨hsz, rfl⟩
  · go_wp2
    go_ret
    exact ⟨rfl, HB1.out⟩
  · go_wp2_with fail
    refine (toIntSS_any _ m _ (by omega) (inMat_below HI.out HB1.out)).mono ?_
    rintro e w2 ⟨v2, rfl, ho2, hb2⟩
    have HO2 := hide ho2; have HB2 := hide (HB1.out.trans (hb2.mono HB1.out.size)); clear ho2 hb2
    go_wp2_with fail
    refine (HS.out v2 _ (inMat_own HO2.out)).mono ?_
    rintro e w3 ⟨u0, rfl, ho3, hb3⟩
    have HUL := hide (fun k e => (ho3.lt k e).2); have HU0 := hide ho3; have HB3 := hide (HB2.out.trans (hb3.mono HB2.out.size)); clear ho3 hb3
    go_wp2_with fail
    refine (toIntSS_any _ m _ (by omega) (inMat_below HI.out HB3.out)).mono ?_
    rintro e w4 ⟨v4, rfl, ho4, hb4⟩
    have HO4 := hide ho4; have HU1 := hide (own_below HU0.out hb4); have HB4 := hide (HB3.out.trans (hb4.mono HB3.out.size)); have hs4 := hb4.size; clear ho4 hb4
    go_wp2_with fail
    refine (HM.out v4 _ (inMat_own HO4.out)).mono ?_
    rintro e w5 ⟨g0, rfl, ho5, hb5⟩
    have HG0 := hide ho5; have HO5 := hide (ownMat_below HO4.out hb5); have HU2 := hide (own_below HU1.out hb5); have HB5 := hide (HB4.out.trans (hb5.mono HB4.out.size))
    have hs5 := hb5.size; clear ho5 hb5
    go_wp2_with fail
    refine (eqIntS_same g0 u0 rows _ (inRow_own HG0.out) (inRow_own HU2.out)).mono ?_
    rintro e w6 ⟨rfl, hb6⟩
    have HG1 := hide (own_below HG0.out hb6); have HO6 := hide (ownMat_below HO5.out hb6); have HU3 := hide (own_below HU2.out hb6); have HB6 := hide (HB5.out.trans (hb6.mono HB5.out.size))
    have hs6 := hb6.size; clear hb6
    go_wp2_with fail
    refine (toIntSS_any _ m _ (by omega) (inMat_below HI.out HB6.out)).mono ?_
    rintro e w7 ⟨v7, rfl, ho7, hb7⟩
    have HV7 := hide ho7; have HG2 := hide (own_below HG1.out hb7); have HO7 := hide (ownMat_below HO6.out hb7); have HU4 := hide (own_below HU3.out hb7); have HB7 := hide (HB6.out.trans (hb7.mono HB6.out.size))
    have hs7 := hb7.size; clear ho7 hb7
    go_wp2_with fail
    refine (eqIntSS_same v4 v7 m _ (inMat_own HO7.out) (inMat_own HV7.out)).mono ?_
    rintro e w8 ⟨rfl, hb8⟩
    have HG3 := hide (own_below HG2.out hb8); have HO8 := hide (ownMat_below HO7.out hb8); have HU5 := hide (own_below HU4.out hb8); have HB8 := hide (HB7.out.trans (hb8.mono HB7.out.size))
    have hs8 := hb8.size; clear hb8
    go_wp2_with fail
    refine (markIntSS_any m 1 _ _ v4 _ (by omega) (by omega) HO8.out).mono ?_
    rintro e w9 ⟨rfl, -, hw9⟩
    have HG4 := hide (own_within HG3.out hw9 (fun k e => .inr (HG3.out.lt k e).1)); have HU6 := hide (own_within HU5.out hw9 (fun k e => .inl (HUL.out k e))); have HB9 := hide (HB8.out.trans (below_within hw9 HB3.out.size HB8.out.size))
    have hs9 := hw9.size; clear hw9
    go_wp2_with fail
    refine (eqIntS_same g0 u0 rows _ (inRow_own HG4.out) (inRow_own HU6.out)).mono ?_
    rintro e w10 ⟨rfl, hb10⟩
    have HG5 := hide (own_below HG4.out hb10); have HU7 := hide (own_below HU6.out hb10); have HB10 := hide (HB9.out.trans (hb10.mono HB9.out.size))
    have hs10 := hb10.size; clear hb10
    go_wp2_with fail
    refine (markIntS_any rows.length 1 g0 _ _ _ (by omega) (by omega) HG5.out).mono ?_
    rintro e w11 ⟨rfl, ho11, hg11⟩
    have HNE : Hid (u0.ownBlock = none ∨ u0.ownBlock ≠ g0.ownBlock) := hide (by
      cases e0 : u0.ownBlock with
      | none => exact .inl rfl
      | some k =>
        refine .inr fun e1 => ?_
        have q1 := HUL.out k e0
        have q2 := (HG5.out.lt k e1.symm).1
        omega)
    have HG6 := hide (inRow_own (r := markR rows.length 1) (by rw [markR_len]; exact ho11)); have HU8 := hide (HU7.out.kept hg11 HNE.out)
    have HB11 := hide (HB10.out.trans (grown_below hg11 (fun k hk => by have := (HG5.out.lt k hk).1; have := HB4.out.size; omega) HB10.out.size))
    clear ho11 hg11
    go_wp2_with fail
    refine (heldIntS_any rows.length 1 g0 _ (by omega) (by omega) HG6.out).mono ?_
    rintro e w12 ⟨rfl, hb12⟩
    have HG7 := hide (inRow_below HG6.out hb12); have HU9 := hide (own_below HU8.out hb12); have HB12 := hide (HB11.out.trans (hb12.mono HB11.out.size))
    clear hb12
    go_wp2_with fail
    refine (toIntSS_any _ m _ (by omega) (inMat_below HI.out HB12.out)).mono ?_
    rintro e w13 ⟨v13, rfl, ho13, hb13⟩
    have HV13 := hide ho13; have HG8 := hide (inRow_below HG7.out hb13); have HU10 := hide (own_below HU9.out hb13); have HB13 := hide (HB12.out.trans (hb13.mono HB12.out.size))
    clear ho13 hb13
    go_wp2_with fail
    refine (HM.out v13 _ (inMat_own HV13.out)).mono ?_
    rintro e w14 ⟨h0, rfl, ho14, hb14⟩
    have HH := hide ho14; have HG9 := hide (inRow_below HG8.out hb14); have HU11 := hide (own_below HU10.out hb14); have HB14 := hide (HB13.out.trans (hb14.mono HB13.out.size))
    clear ho14 hb14
    go_wp2_with fail
    refine (eqIntS_same h0 u0 rows _ (inRow_own HH.out) (inRow_own HU11.out)).mono ?_
    rintro e w15 ⟨rfl, hb15⟩
    have HG10 := hide (inRow_below HG9.out hb15); have HB15 := hide (HB14.out.trans (hb15.mono HB14.out.size))
    clear hb15
    go_wp2_with fail
    refine (heldIntS_any rows.length 1 g0 _ (by omega) (by omega) HG10.out).mono ?_
    rintro e w16 ⟨rfl, hb16⟩
    have HB16 := hide (HB15.out.trans (hb16.mono HB15.out.size))
    clear hb16
    go_wp2
    go_ret
    exact ⟨rfl, HB16.out⟩
theorem lawColSums_walk (a : Option Addr) (n c : Nat) (m : List (List Int)) (w : World) (hin : InMat w (.slice a n c) m) :
    Calls Try.prog 4 #[.slice a n c] w fun e w' => e = .returned (.bool true) ∧ Below w.heap.size w w' := by
  cases h : okB m with
  | false => exact lawColSums_gen a n c m w hin [] (by decide) (fun v w hv => specColSums_no v m w hv h) (fun v w hv => implColSums_no v m w hv h)
  | true =>
    obtain ⟨R, C, f, rfl, hI⟩ := ok_img h
    exact lawColSums_gen a n c _ w hin (rowsL C R (trM f)) (by rw [rowsL, rowF_len]; have := hI.r2; have := hI.c2; omega) (fun v w hv => specColSums_yes v R C f w hv hI) (fun v w hv => implColSums_yes v R C f w hv hI)
end Go.Proofs.Yteogbddbafkieaa
