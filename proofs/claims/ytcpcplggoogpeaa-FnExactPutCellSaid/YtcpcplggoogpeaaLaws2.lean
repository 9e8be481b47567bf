/-
  The exact laws on images, walked.
-/
import Derived.Test.YtcpcplggoogpeaaSpecT
namespace Go.Proofs.Ytcpcplggoogpeaa
open Go.RowKit
set_option linter.unusedVariables false

theorem small_img {R C : Nat} {f : Nat → Nat → Int} (h : Img R C f) (g : Nat → Nat → Int) : (mkM R C g).length + cellsM (mkM R C g) ≤ 1000000 := by
  rw [mkM_len, cells_mkM]
  have h1 := h.r2; have h2 := h.c2
  have : R * C ≤ 5 * 5 := Nat.mul_le_mul h1 h2
  omega

set_option maxHeartbeats 1000000 in
theorem lawCountBlack_gen (a : Option Addr) (n c : Nat) (m : List (List Int)) (w : World) (hin : InMat w (.slice a n c) m) (val : Int)
    (hs : ∀ v w, InMat w v m → Calls Try.prog 36 #[v] w fun e w' => e = .returned (.int .i64 val) ∧ w = w')
    (hi : ∀ v w, InMat w v m → Calls Try.prog 19 #[v] w fun e w' => e = .returned (.int .i64 val) ∧ Below w.heap.size w w') :
    Calls Try.prog 8 #[.slice a n c] w fun e w' => e = .returned (.bool true) ∧ Below w.heap.size w w' := by
  have HI := hide hin; have HS := hide hs; have HM := hide hi
  clear hin hs hi
  go_enter Try.func8, Try.ntmps8
  go_wp2_with fail
  refine (szIntSS_any _ m 1048576 _ (by omega) HI.out).mono ?_
  rintro e w1 ⟨r, rfl, hr, hb1⟩
  have HB1 := hide hb1
  clear hb1
  rcases hr with rfl | ⟨hsz, rfl⟩
  · go_wp2
    go_ret
    exact ⟨rfl, HB1.out⟩
  · go_wp2_with fail
    refine (toIntSS_any _ m _ (by omega) (inMat_below HI.out HB1.out)).mono ?_
    rintro e w2 ⟨v2, rfl, ho2, hb2⟩
    have HO2 := hide ho2; have HB2 := hide (HB1.out.trans (hb2.mono HB1.out.size)); clear ho2 hb2
    go_wp2_with fail
    refine (HS.out v2 _ (inMat_own HO2.out)).mono ?_
    rintro e w3 ⟨rfl, rfl⟩
    go_wp2_with fail
    refine (toIntSS_any _ m _ (by omega) (inMat_below HI.out HB2.out)).mono ?_
    rintro e w4 ⟨v4, rfl, ho4, hb4⟩
    have HO4 := hide ho4; have HB4 := hide (HB2.out.trans (hb4.mono HB2.out.size)); clear ho4 hb4
    go_wp2_with fail
    refine (HM.out v4 _ (inMat_own HO4.out)).mono ?_
    rintro e w5 ⟨rfl, hb5⟩
    have HO5 := hide (ownMat_below HO4.out hb5); have HB5 := hide (HB4.out.trans (hb5.mono HB4.out.size)); clear hb5
    go_wp2_with fail
    refine (toIntSS_any _ m _ (by omega) (inMat_below HI.out HB5.out)).mono ?_
    rintro e w6 ⟨v6, rfl, ho6, hb6⟩
    have HO6 := hide ho6; have HO46 := hide (ownMat_below HO5.out hb6); have HB6 := hide (HB5.out.trans (hb6.mono HB5.out.size)); clear ho6 hb6
    go_wp2_with fail
    refine (eqIntSS_same v4 v6 m _ (inMat_own HO46.out) (inMat_own HO6.out)).mono ?_
    rintro e w7 ⟨rfl, hb7⟩
    have HB7 := hide (HB6.out.trans (hb7.mono HB6.out.size)); clear hb7
    go_wp2
    go_ret
    exact ⟨rfl, HB7.out⟩
theorem lawCountBlack_walk (a : Option Addr) (n c : Nat) (m : List (List Int)) (w : World) (hin : InMat w (.slice a n c) m) :
    Calls Try.prog 8 #[.slice a n c] w fun e w' => e = .returned (.bool true) ∧ Below w.heap.size w w' := by
  cases h : okB m with
  | false => exact lawCountBlack_gen a n c m w hin _ (fun v w hv => specCountBlack_no v m w hv h) (fun v w hv => implCountBlack_no v m w hv h)
  | true =>
    obtain ⟨R, C, f, rfl, hI⟩ := ok_img h
    exact lawCountBlack_gen a n c _ w hin _ (fun v w hv => specCountBlack_yes v R C f w hv hI) (fun v w hv => implCountBlack_yes v R C f w hv hI)

set_option maxHeartbeats 1000000 in
theorem lawCellAt_gen (a : Option Addr) (n c : Nat) (m : List (List Int)) (y x : Int) (w : World) (hin : InMat w (.slice a n c) m) (val : Int)
    (hs : ∀ v w, InMat w v m → Calls Try.prog 33 #[v, .int .i64 y, .int .i64 x] w fun e w' => e = .returned (.int .i64 val) ∧ w = w')
    (hi : ∀ v w, InMat w v m → Calls Try.prog 23 #[v, .int .i64 y, .int .i64 x] w fun e w' => e = .returned (.int .i64 val) ∧ Below w.heap.size w w') :
    Calls Try.prog 6 #[.slice a n c, .int .i64 y, .int .i64 x] w fun e w' => e = .returned (.bool true) ∧ Below w.heap.size w w' := by
  have HI := hide hin; have HS := hide hs; have HM := hide hi
  clear hin hs hi
  go_enter Try.func6, Try.ntmps6
  go_wp2_with fail
  refine (szIntSS_any _ m 1048576 _ (by omega) HI.out).mono ?_
  rintro e w1 ⟨r, rfl, hr, hb1⟩
  have HB1 := hide hb1
  clear hb1
  rcases hr with rfl | ⟨hsz, rfl⟩
  · go_wp2
    go_ret
    exact ⟨rfl, HB1.out⟩
  · go_wp2_with fail
    refine (toIntSS_any _ m _ (by omega) (inMat_below HI.out HB1.out)).mono ?_
    rintro e w2 ⟨v2, rfl, ho2, hb2⟩
    have HO2 := hide ho2; have HB2 := hide (HB1.out.trans (hb2.mono HB1.out.size)); clear ho2 hb2
    go_wp2_with fail
    refine (HS.out v2 _ (inMat_own HO2.out)).mono ?_
    rintro e w3 ⟨rfl, rfl⟩
    go_wp2_with fail
    refine (toIntSS_any _ m _ (by omega) (inMat_below HI.out HB2.out)).mono ?_
    rintro e w4 ⟨v4, rfl, ho4, hb4⟩
    have HO4 := hide ho4; have HB4 := hide (HB2.out.trans (hb4.mono HB2.out.size)); clear ho4 hb4
    go_wp2_with fail
    refine (HM.out v4 _ (inMat_own HO4.out)).mono ?_
    rintro e w5 ⟨rfl, hb5⟩
    have HO5 := hide (ownMat_below HO4.out hb5); have HB5 := hide (HB4.out.trans (hb5.mono HB4.out.size)); clear hb5
    go_wp2_with fail
    refine (toIntSS_any _ m _ (by omega) (inMat_below HI.out HB5.out)).mono ?_
    rintro e w6 ⟨v6, rfl, ho6, hb6⟩
    have HO6 := hide ho6; have HO46 := hide (ownMat_below HO5.out hb6); have HB6 := hide (HB5.out.trans (hb6.mono HB5.out.size)); clear ho6 hb6
    go_wp2_with fail
    refine (eqIntSS_same v4 v6 m _ (inMat_own HO46.out) (inMat_own HO6.out)).mono ?_
    rintro e w7 ⟨rfl, hb7⟩
    have HB7 := hide (HB6.out.trans (hb7.mono HB6.out.size)); clear hb7
    go_wp2
    go_ret
    exact ⟨rfl, HB7.out⟩
theorem lawCellAt_walk (a : Option Addr) (n c : Nat) (m : List (List Int)) (y x : Int) (w : World) (hin : InMat w (.slice a n c) m) (_hy : (Lit.int .i64 y).wf = true) (_hx : (Lit.int .i64 x).wf = true) :
    Calls Try.prog 6 #[.slice a n c, .int .i64 y, .int .i64 x] w fun e w' => e = .returned (.bool true) ∧ Below w.heap.size w w' := by
  cases h : okB m with
  | false => exact lawCellAt_gen a n c m y x w hin _ (fun v w hv => specCellAt_no v m y x w hv h) (fun v w hv => implCellAt_no v m y x w hv h)
  | true =>
    obtain ⟨R, C, f, rfl, hI⟩ := ok_img h
    exact lawCellAt_gen a n c _ y x w hin _ (fun v w hv => specCellAt_yes v R C f y x w hv hI) (fun v w hv => implCellAt_yes v R C f y x w hv hI)

set_option maxRecDepth 100000 in
set_option maxHeartbeats 1000000 in
theorem lawTransposeOf_gen (a : Option Addr) (n c : Nat) (m : List (List Int)) (w : World) (hin : InMat w (.slice a n c) m) (rows : List (List Int)) (hrows : rows.length + cellsM rows ≤ 1000000)
    (hs : ∀ v w, InMat w v m → Calls Try.prog 37 #[v] w (MatRes rows w))
    (hi : ∀ v w, InMat w v m → Calls Try.prog 16 #[v] w (MatRes rows w)) :
    Calls Try.prog 9 #[.slice a n c] w fun e w' => e = .returned (.bool true) ∧ Below w.heap.size w w' := by
  have HI := hide hin; have HS := hide hs; have HM := hide hi
  clear hin hs hi
  go_enter Try.func9, Try.ntmps9
  go_wp2_with fail
  refine (szIntSS_any _ m 1048576 _ (by omega) HI.out).mono ?_
  rintro e w1 ⟨r, rfl, hr, hb1⟩
  have HB1 := hide hb1
  clear hb1
  rcases hr with rfl | ⟨hsz, rfl⟩
  · go_wp2
    go_ret
    exact ⟨rfl, HB1.out⟩
  · go_wp2_with fail
    refine (toIntSS_any _ m _ (by omega) (inMat_below HI.out HB1.out)).mono ?_
    rintro e w2 ⟨v2, rfl, ho2, hb2⟩
    have HO2 := hide ho2; have HB2 := hide (HB1.out.trans (hb2.mono HB1.out.size)); clear ho2 hb2
    go_wp2_with fail
    refine (HS.out v2 _ (inMat_own HO2.out)).mono ?_
    rintro e w3 ⟨u0, rfl, ho3, hb3⟩
    have HU0 := hide ho3; have HB3 := hide (HB2.out.trans (hb3.mono HB2.out.size)); clear ho3 hb3
    go_wp2_with fail
    refine (toIntSS_any _ m _ (by omega) (inMat_below HI.out HB3.out)).mono ?_
    rintro e w4 ⟨v4, rfl, ho4, hb4⟩
    have HO4 := hide ho4; have HU1 := hide (ownMat_below HU0.out hb4); have HB4 := hide (HB3.out.trans (hb4.mono HB3.out.size)); have hs4 := hb4.size; clear ho4 hb4
    go_wp2_with fail
    refine (HM.out v4 _ (inMat_own HO4.out)).mono ?_
    rintro e w5 ⟨g0, rfl, ho5, hb5⟩
    have HG0 := hide ho5; have HO5 := hide (ownMat_below HO4.out hb5); have HU2 := hide (ownMat_below HU1.out hb5); have HB5 := hide (HB4.out.trans (hb5.mono HB4.out.size))
    have hs5 := hb5.size; clear ho5 hb5
    go_wp2_with fail
    refine (eqIntSS_same g0 u0 rows _ (inMat_own HG0.out) (inMat_own HU2.out)).mono ?_
    rintro e w6 ⟨rfl, hb6⟩
    have HG1 := hide (ownMat_below HG0.out hb6); have HO6 := hide (ownMat_below HO5.out hb6); have HU3 := hide (ownMat_below HU2.out hb6); have HB6 := hide (HB5.out.trans (hb6.mono HB5.out.size))
    have hs6 := hb6.size; clear hb6
    go_wp2_with fail
    refine (toIntSS_any _ m _ (by omega) (inMat_below HI.out HB6.out)).mono ?_
    rintro e w7 ⟨v7, rfl, ho7, hb7⟩
    have HV7 := hide ho7; have HG2 := hide (ownMat_below HG1.out hb7); have HO7 := hide (ownMat_below HO6.out hb7); have HU4 := hide (ownMat_below HU3.out hb7); have HB7 := hide (HB6.out.trans (hb7.mono HB6.out.size))
    have hs7 := hb7.size; clear ho7 hb7
    go_wp2_with fail
    refine (eqIntSS_same v4 v7 m _ (inMat_own HO7.out) (inMat_own HV7.out)).mono ?_
    rintro e w8 ⟨rfl, hb8⟩
    have HG3 := hide (ownMat_below HG2.out hb8); have HO8 := hide (ownMat_below HO7.out hb8); have HU5 := hide (ownMat_below HU4.out hb8); have HB8 := hide (HB7.out.trans (hb8.mono HB7.out.size))
    have hs8 := hb8.size; clear hb8
    go_wp2_with fail
    refine (markIntSS_any m 1 _ _ v4 _ (by omega) (by omega) HO8.out).mono ?_
    rintro e w9 ⟨rfl, -, hw9⟩
    have HG4 := hide (ownMat_within HG3.out hw9 (.inr (Nat.le_refl _))); have HU6 := hide (ownMat_within HU5.out hw9 (.inl (Nat.le_refl _))); have HB9 := hide (HB8.out.trans (below_within hw9 HB3.out.size HB8.out.size))
    have hs9 := hw9.size; clear hw9
    go_wp2_with fail
    refine (eqIntSS_same g0 u0 rows _ (inMat_own HG4.out) (inMat_own HU6.out)).mono ?_
    rintro e w10 ⟨rfl, hb10⟩
    have HG5 := hide (ownMat_below HG4.out hb10); have HU7 := hide (ownMat_below HU6.out hb10); have HB10 := hide (HB9.out.trans (hb10.mono HB9.out.size))
    have hs10 := hb10.size; clear hb10
    go_wp2_with fail
    refine (markIntSS_any rows 1 _ _ g0 _ (by omega) (by omega) HG5.out).mono ?_
    rintro e w11 ⟨rfl, ho11, hw11⟩
    have HG6 := hide ho11; have HU8 := hide (ownMat_within HU7.out hw11 (.inl (by omega))); have HB11 := hide (HB10.out.trans (below_within hw11 HB4.out.size HB10.out.size))
    have hs11 := hw11.size; clear ho11 hw11
    go_wp2_with fail
    refine (heldIntSS_any rows 1 g0 _ (by omega) (by omega) (inMat_own HG6.out)).mono ?_
    rintro e w12 ⟨rfl, hb12⟩
    have HG7 := hide (ownMat_below HG6.out hb12); have HU9 := hide (ownMat_below HU8.out hb12); have HB12 := hide (HB11.out.trans (hb12.mono HB11.out.size))
    have hs12 := hb12.size; clear hb12
    go_wp2_with fail
    refine (toIntSS_any _ m _ (by omega) (inMat_below HI.out HB12.out)).mono ?_
    rintro e w13 ⟨v13, rfl, ho13, hb13⟩
    have HV13 := hide ho13; have HG8 := hide (ownMat_below HG7.out hb13); have HU10 := hide (ownMat_below HU9.out hb13); have HB13 := hide (HB12.out.trans (hb13.mono HB12.out.size))
    have hs13 := hb13.size; clear ho13 hb13
    go_wp2_with fail
    refine (HM.out v13 _ (inMat_own HV13.out)).mono ?_
    rintro e w14 ⟨h0, rfl, ho14, hb14⟩
    have HH := hide ho14; have HG9 := hide (ownMat_below HG8.out hb14); have HU11 := hide (ownMat_below HU10.out hb14); have HB14 := hide (HB13.out.trans (hb14.mono HB13.out.size))
    clear ho14 hb14
    go_wp2_with fail
    refine (eqIntSS_same h0 u0 rows _ (inMat_own HH.out) (inMat_own HU11.out)).mono ?_
    rintro e w15 ⟨rfl, hb15⟩
    have HG10 := hide (ownMat_below HG9.out hb15); have HB15 := hide (HB14.out.trans (hb15.mono HB14.out.size))
    clear hb15
    go_wp2_with fail
    refine (heldIntSS_any rows 1 g0 _ (by omega) (by omega) (inMat_own HG10.out)).mono ?_
    rintro e w16 ⟨rfl, hb16⟩
    have HB16 := hide (HB15.out.trans (hb16.mono HB15.out.size))
    clear hb16
    go_wp2
    go_ret
    exact ⟨rfl, HB16.out⟩
theorem lawTransposeOf_walk (a : Option Addr) (n c : Nat) (m : List (List Int)) (w : World) (hin : InMat w (.slice a n c) m) :
    Calls Try.prog 9 #[.slice a n c] w fun e w' => e = .returned (.bool true) ∧ Below w.heap.size w w' := by
  cases h : okB m with
  | false => exact lawTransposeOf_gen a n c m w hin [] (by decide) (fun v w hv => specTransposeOf_no v m w hv h) (fun v w hv => implTransposeOf_no v m w hv h)
  | true =>
    obtain ⟨R, C, f, rfl, hI⟩ := ok_img h
    exact lawTransposeOf_gen a n c _ w hin _ (small_img (img_tr hI) _) (fun v w hv => specTransposeOf_yes v R C f w hv hI) (fun v w hv => implTransposeOf_yes v R C f w hv hI)

set_option maxRecDepth 100000 in
set_option maxHeartbeats 1000000 in
theorem lawMirrorOf_gen (a : Option Addr) (n c : Nat) (m : List (List Int)) (w : World) (hin : InMat w (.slice a n c) m) (rows : List (List Int)) (hrows : rows.length + cellsM rows ≤ 1000000)
    (hs : ∀ v w, InMat w v m → Calls Try.prog 38 #[v] w (MatRes rows w))
    (hi : ∀ v w, InMat w v m → Calls Try.prog 17 #[v] w (MatRes rows w)) :
    Calls Try.prog 10 #[.slice a n c] w fun e w' => e = .returned (.bool true) ∧ Below w.heap.size w w' := by
  have HI := hide hin; have HS := hide hs; have HM := hide hi
  clear hin hs hi
  go_enter Try.func10, Try.ntmps10
  go_wp2_with fail
  refine (szIntSS_any _ m 1048576 _ (by omega) HI.out).mono ?_
  rintro e w1 ⟨r, rfl, hr, hb1⟩
  have HB1 := hide hb1
  clear hb1
  rcases hr with rfl | ⟨hsz, rfl⟩
  · go_wp2
    go_ret
    exact ⟨rfl, HB1.out⟩
  · go_wp2_with fail
    refine (toIntSS_any _ m _ (by omega) (inMat_below HI.out HB1.out)).mono ?_
    rintro e w2 ⟨v2, rfl, ho2, hb2⟩
    have HO2 := hide ho2; have HB2 := hide (HB1.out.trans (hb2.mono HB1.out.size)); clear ho2 hb2
    go_wp2_with fail
    refine (HS.out v2 _ (inMat_own HO2.out)).mono ?_
    rintro e w3 ⟨u0, rfl, ho3, hb3⟩
    have HU0 := hide ho3; have HB3 := hide (HB2.out.trans (hb3.mono HB2.out.size)); clear ho3 hb3
    go_wp2_with fail
    refine (toIntSS_any _ m _ (by omega) (inMat_below HI.out HB3.out)).mono ?_
    rintro e w4 ⟨v4, rfl, ho4, hb4⟩
    have HO4 := hide ho4; have HU1 := hide (ownMat_below HU0.out hb4); have HB4 := hide (HB3.out.trans (hb4.mono HB3.out.size)); have hs4 := hb4.size; clear ho4 hb4
    go_wp2_with fail
    refine (HM.out v4 _ (inMat_own HO4.out)).mono ?_
    rintro e w5 ⟨g0, rfl, ho5, hb5⟩
    have HG0 := hide ho5; have HO5 := hide (ownMat_below HO4.out hb5); have HU2 := hide (ownMat_below HU1.out hb5); have HB5 := hide (HB4.out.trans (hb5.mono HB4.out.size))
    have hs5 := hb5.size; clear ho5 hb5
    go_wp2_with fail
    refine (eqIntSS_same g0 u0 rows _ (inMat_own HG0.out) (inMat_own HU2.out)).mono ?_
    rintro e w6 ⟨rfl, hb6⟩
    have HG1 := hide (ownMat_below HG0.out hb6); have HO6 := hide (ownMat_below HO5.out hb6); have HU3 := hide (ownMat_below HU2.out hb6); have HB6 := hide (HB5.out.trans (hb6.mono HB5.out.size))
    have hs6 := hb6.size; clear hb6
    go_wp2_with fail
    refine (toIntSS_any _ m _ (by omega) (inMat_below HI.out HB6.out)).mono ?_
    rintro e w7 ⟨v7, rfl, ho7, hb7⟩
    have HV7 := hide ho7; have HG2 := hide (ownMat_below HG1.out hb7); have HO7 := hide (ownMat_below HO6.out hb7); have HU4 := hide (ownMat_below HU3.out hb7); have HB7 := hide (HB6.out.trans (hb7.mono HB6.out.size))
    have hs7 := hb7.size; clear ho7 hb7
    go_wp2_with fail
    refine (eqIntSS_same v4 v7 m _ (inMat_own HO7.out) (inMat_own HV7.out)).mono ?_
    rintro e w8 ⟨rfl, hb8⟩
    have HG3 := hide (ownMat_below HG2.out hb8); have HO8 := hide (ownMat_below HO7.out hb8); have HU5 := hide (ownMat_below HU4.out hb8); have HB8 := hide (HB7.out.trans (hb8.mono HB7.out.size))
    have hs8 := hb8.size; clear hb8
    go_wp2_with fail
    refine (markIntSS_any m 1 _ _ v4 _ (by omega) (by omega) HO8.out).mono ?_
    rintro e w9 ⟨rfl, -, hw9⟩
    have HG4 := hide (ownMat_within HG3.out hw9 (.inr (Nat.le_refl _))); have HU6 := hide (ownMat_within HU5.out hw9 (.inl (Nat.le_refl _))); have HB9 := hide (HB8.out.trans (below_within hw9 HB3.out.size HB8.out.size))
    have hs9 := hw9.size; clear hw9
    go_wp2_with fail
    refine (eqIntSS_same g0 u0 rows _ (inMat_own HG4.out) (inMat_own HU6.out)).mono ?_
    rintro e w10 ⟨rfl, hb10⟩
    have HG5 := hide (ownMat_below HG4.out hb10); have HU7 := hide (ownMat_below HU6.out hb10); have HB10 := hide (HB9.out.trans (hb10.mono HB9.out.size))
    have hs10 := hb10.size; clear hb10
    go_wp2_with fail
    refine (markIntSS_any rows 1 _ _ g0 _ (by omega) (by omega) HG5.out).mono ?_
    rintro e w11 ⟨rfl, ho11, hw11⟩
    have HG6 := hide ho11; have HU8 := hide (ownMat_within HU7.out hw11 (.inl (by omega))); have HB11 := hide (HB10.out.trans (below_within hw11 HB4.out.size HB10.out.size))
    have hs11 := hw11.size; clear ho11 hw11
    go_wp2_with fail
    refine (heldIntSS_any rows 1 g0 _ (by omega) (by omega) (inMat_own HG6.out)).mono ?_
    rintro e w12 ⟨rfl, hb12⟩
    have HG7 := hide (ownMat_below HG6.out hb12); have HU9 := hide (ownMat_below HU8.out hb12); have HB12 := hide (HB11.out.trans (hb12.mono HB11.out.size))
    have hs12 := hb12.size; clear hb12
    go_wp2_with fail
    refine (toIntSS_any _ m _ (by omega) (inMat_below HI.out HB12.out)).mono ?_
    rintro e w13 ⟨v13, rfl, ho13, hb13⟩
    have HV13 := hide ho13; have HG8 := hide (ownMat_below HG7.out hb13); have HU10 := hide (ownMat_below HU9.out hb13); have HB13 := hide (HB12.out.trans (hb13.mono HB12.out.size))
    have hs13 := hb13.size; clear ho13 hb13
    go_wp2_with fail
    refine (HM.out v13 _ (inMat_own HV13.out)).mono ?_
    rintro e w14 ⟨h0, rfl, ho14, hb14⟩
    have HH := hide ho14; have HG9 := hide (ownMat_below HG8.out hb14); have HU11 := hide (ownMat_below HU10.out hb14); have HB14 := hide (HB13.out.trans (hb14.mono HB13.out.size))
    clear ho14 hb14
    go_wp2_with fail
    refine (eqIntSS_same h0 u0 rows _ (inMat_own HH.out) (inMat_own HU11.out)).mono ?_
    rintro e w15 ⟨rfl, hb15⟩
    have HG10 := hide (ownMat_below HG9.out hb15); have HB15 := hide (HB14.out.trans (hb15.mono HB14.out.size))
    clear hb15
    go_wp2_with fail
    refine (heldIntSS_any rows 1 g0 _ (by omega) (by omega) (inMat_own HG10.out)).mono ?_
    rintro e w16 ⟨rfl, hb16⟩
    have HB16 := hide (HB15.out.trans (hb16.mono HB15.out.size))
    clear hb16
    go_wp2
    go_ret
    exact ⟨rfl, HB16.out⟩
theorem lawMirrorOf_walk (a : Option Addr) (n c : Nat) (m : List (List Int)) (w : World) (hin : InMat w (.slice a n c) m) :
    Calls Try.prog 10 #[.slice a n c] w fun e w' => e = .returned (.bool true) ∧ Below w.heap.size w w' := by
  cases h : okB m with
  | false => exact lawMirrorOf_gen a n c m w hin [] (by decide) (fun v w hv => specMirrorOf_no v m w hv h) (fun v w hv => implMirrorOf_no v m w hv h)
  | true =>
    obtain ⟨R, C, f, rfl, hI⟩ := ok_img h
    exact lawMirrorOf_gen a n c _ w hin _ (small_img (id hI) _) (fun v w hv => specMirrorOf_yes v R C f w hv hI) (fun v w hv => implMirrorOf_yes v R C f w hv hI)

set_option maxRecDepth 100000 in
set_option maxHeartbeats 1000000 in
theorem lawInvertOf_gen (a : Option Addr) (n c : Nat) (m : List (List Int)) (w : World) (hin : InMat w (.slice a n c) m) (rows : List (List Int)) (hrows : rows.length + cellsM rows ≤ 1000000)
    (hs : ∀ v w, InMat w v m → Calls Try.prog 39 #[v] w (MatRes rows w))
    (hi : ∀ v w, InMat w v m → Calls Try.prog 18 #[v] w (MatRes rows w)) :
    Calls Try.prog 11 #[.slice a n c] w fun e w' => e = .returned (.bool true) ∧ Below w.heap.size w w' := by
  have HI := hide hin; have HS := hide hs; have HM := hide hi
  clear hin hs hi
  go_enter Try.func11, Try.ntmps11
  go_wp2_with fail
  refine (szIntSS_any _ m 1048576 _ (by omega) HI.out).mono ?_
  rintro e w1 ⟨r, rfl, hr, hb1⟩
  have HB1 := hide hb1
  clear hb1
  rcases hr with rfl | ⟨hsz, rfl⟩
  · go_wp2
    go_ret
    exact ⟨rfl, HB1.out⟩
  · go_wp2_with fail
    refine (toIntSS_any _ m _ (by omega) (inMat_below HI.out HB1.out)).mono ?_
    rintro e w2 ⟨v2, rfl, ho2, hb2⟩
    have HO2 := hide ho2; have HB2 := hide (HB1.out.trans (hb2.mono HB1.out.size)); clear ho2 hb2
    go_wp2_with fail
    refine (HS.out v2 _ (inMat_own HO2.out)).mono ?_
    rintro e w3 ⟨u0, rfl, ho3, hb3⟩
    have HU0 := hide ho3; have HB3 := hide (HB2.out.trans (hb3.mono HB2.out.size)); clear ho3 hb3
    go_wp2_with fail
    refine (toIntSS_any _ m _ (by omega) (inMat_below HI.out HB3.out)).mono ?_
    rintro e w4 ⟨v4, rfl, ho4, hb4⟩
    have HO4 := hide ho4; have HU1 := hide (ownMat_below HU0.out hb4); have HB4 := hide (HB3.out.trans (hb4.mono HB3.out.size)); have hs4 := hb4.size; clear ho4 hb4
    go_wp2_with fail
    refine (HM.out v4 _ (inMat_own HO4.out)).mono ?_
    rintro e w5 ⟨g0, rfl, ho5, hb5⟩
    have HG0 := hide ho5; have HO5 := hide (ownMat_below HO4.out hb5); have HU2 := hide (ownMat_below HU1.out hb5); have HB5 := hide (HB4.out.trans (hb5.mono HB4.out.size))
    have hs5 := hb5.size; clear ho5 hb5
    go_wp2_with fail
    refine (eqIntSS_same g0 u0 rows _ (inMat_own HG0.out) (inMat_own HU2.out)).mono ?_
    rintro e w6 ⟨rfl, hb6⟩
    have HG1 := hide (ownMat_below HG0.out hb6); have HO6 := hide (ownMat_below HO5.out hb6); have HU3 := hide (ownMat_below HU2.out hb6); have HB6 := hide (HB5.out.trans (hb6.mono HB5.out.size))
    have hs6 := hb6.size; clear hb6
    go_wp2_with fail
    refine (toIntSS_any _ m _ (by omega) (inMat_below HI.out HB6.out)).mono ?_
    rintro e w7 ⟨v7, rfl, ho7, hb7⟩
    have HV7 := hide ho7; have HG2 := hide (ownMat_below HG1.out hb7); have HO7 := hide (ownMat_below HO6.out hb7); have HU4 := hide (ownMat_below HU3.out hb7); have HB7 := hide (HB6.out.trans (hb7.mono HB6.out.size))
    have hs7 := hb7.size; clear ho7 hb7
    go_wp2_with fail
    refine (eqIntSS_same v4 v7 m _ (inMat_own HO7.out) (inMat_own HV7.out)).mono ?_
    rintro e w8 ⟨rfl, hb8⟩
    have HG3 := hide (ownMat_below HG2.out hb8); have HO8 := hide (ownMat_below HO7.out hb8); have HU5 := hide (ownMat_below HU4.out hb8); have HB8 := hide (HB7.out.trans (hb8.mono HB7.out.size))
    have hs8 := hb8.size; clear hb8
    go_wp2_with fail
    refine (markIntSS_any m 1 _ _ v4 _ (by omega) (by omega) HO8.out).mono ?_
    rintro e w9 ⟨rfl, -, hw9⟩
    have HG4 := hide (ownMat_within HG3.out hw9 (.inr (Nat.le_refl _))); have HU6 := hide (ownMat_within HU5.out hw9 (.inl (Nat.le_refl _))); have HB9 := hide (HB8.out.trans (below_within hw9 HB3.out.size HB8.out.size))
    have hs9 := hw9.size; clear hw9
    go_wp2_with fail
    refine (eqIntSS_same g0 u0 rows _ (inMat_own HG4.out) (inMat_own HU6.out)).mono ?_
    rintro e w10 ⟨rfl, hb10⟩
    have HG5 := hide (ownMat_below HG4.out hb10); have HU7 := hide (ownMat_below HU6.out hb10); have HB10 := hide (HB9.out.trans (hb10.mono HB9.out.size))
    have hs10 := hb10.size; clear hb10
    go_wp2_with fail
    refine (markIntSS_any rows 1 _ _ g0 _ (by omega) (by omega) HG5.out).mono ?_
    rintro e w11 ⟨rfl, ho11, hw11⟩
    have HG6 := hide ho11; have HU8 := hide (ownMat_within HU7.out hw11 (.inl (by omega))); have HB11 := hide (HB10.out.trans (below_within hw11 HB4.out.size HB10.out.size))
    have hs11 := hw11.size; clear ho11 hw11
    go_wp2_with fail
    refine (heldIntSS_any rows 1 g0 _ (by omega) (by omega) (inMat_own HG6.out)).mono ?_
    rintro e w12 ⟨rfl, hb12⟩
    have HG7 := hide (ownMat_below HG6.out hb12); have HU9 := hide (ownMat_below HU8.out hb12); have HB12 := hide (HB11.out.trans (hb12.mono HB11.out.size))
    have hs12 := hb12.size; clear hb12
    go_wp2_with fail
    refine (toIntSS_any _ m _ (by omega) (inMat_below HI.out HB12.out)).mono ?_
    rintro e w13 ⟨v13, rfl, ho13, hb13⟩
    have HV13 := hide ho13; have HG8 := hide (ownMat_below HG7.out hb13); have HU10 := hide (ownMat_below HU9.out hb13); have HB13 := hide (HB12.out.trans (hb13.mono HB12.out.size))
    have hs13 := hb13.size; clear ho13 hb13
    go_wp2_with fail
    refine (HM.out v13 _ (inMat_own HV13.out)).mono ?_
    rintro e w14 ⟨h0, rfl, ho14, hb14⟩
    have HH := hide ho14; have HG9 := hide (ownMat_below HG8.out hb14); have HU11 := hide (ownMat_below HU10.out hb14); have HB14 := hide (HB13.out.trans (hb14.mono HB13.out.size))
    clear ho14 hb14
    go_wp2_with fail
    refine (eqIntSS_same h0 u0 rows _ (inMat_own HH.out) (inMat_own HU11.out)).mono ?_
    rintro e w15 ⟨rfl, hb15⟩
    have HG10 := hide (ownMat_below HG9.out hb15); have HB15 := hide (HB14.out.trans (hb15.mono HB14.out.size))
    clear hb15
    go_wp2_with fail
    refine (heldIntSS_any rows 1 g0 _ (by omega) (by omega) (inMat_own HG10.out)).mono ?_
    rintro e w16 ⟨rfl, hb16⟩
    have HB16 := hide (HB15.out.trans (hb16.mono HB15.out.size))
    clear hb16
    go_wp2
    go_ret
    exact ⟨rfl, HB16.out⟩
theorem lawInvertOf_walk (a : Option Addr) (n c : Nat) (m : List (List Int)) (w : World) (hin : InMat w (.slice a n c) m) :
    Calls Try.prog 11 #[.slice a n c] w fun e w' => e = .returned (.bool true) ∧ Below w.heap.size w w' := by
  cases h : okB m with
  | false => exact lawInvertOf_gen a n c m w hin [] (by decide) (fun v w hv => specInvertOf_no v m w hv h) (fun v w hv => implInvertOf_no v m w hv h)
  | true =>
    obtain ⟨R, C, f, rfl, hI⟩ := ok_img h
    exact lawInvertOf_gen a n c _ w hin _ (small_img (id hI) _) (fun v w hv => specInvertOf_yes v R C f w hv hI) (fun v w hv => implInvertOf_yes v R C f w hv hI)

set_option maxHeartbeats 1000000 in
theorem lawEmptyImage_gen (y x : Int) (w : World) (rows : List (List Int)) (hrows : rows.length + cellsM rows ≤ 1000000)
    (hs : ∀ w, Calls Try.prog 29 #[.int .i64 y, .int .i64 x] w (MatRes rows w))
    (hi : ∀ w, Calls Try.prog 30 #[.int .i64 y, .int .i64 x] w (MatRes rows w)) :
    Calls Try.prog 5 #[.int .i64 y, .int .i64 x] w fun e w' => e = .returned (.bool true) ∧ Below w.heap.size w w' := by
  have HS := hide hs; have HM := hide hi
  clear hs hi
  go_enter Try.func5, Try.ntmps5
  go_wp2_with fail
  refine (HS.out _).mono ?_
  rintro e w3 ⟨u0, rfl, ho3, hb3⟩
  have HU1 := hide ho3; have HB4 := hide hb3; clear ho3 hb3
  go_wp2_with fail
  refine (HM.out _).mono ?_
  rintro e w5 ⟨g0, rfl, ho5, hb5⟩
  have HG0 := hide ho5; have HU2 := hide (ownMat_below HU1.out hb5); have HB5 := hide (HB4.out.trans (hb5.mono HB4.out.size))
  have hs5 := hb5.size; clear ho5 hb5
  go_wp2_with fail
  refine (eqIntSS_same g0 u0 rows _ (inMat_own HG0.out) (inMat_own HU2.out)).mono ?_
  rintro e w10 ⟨rfl, hb10⟩
  have HG5 := hide (ownMat_below HG0.out hb10); have HU7 := hide (ownMat_below HU2.out hb10); have HB10 := hide (HB5.out.trans (hb10.mono HB5.out.size))
  have hs10 := hb10.size; clear hb10
  go_wp2_with fail
  refine (markIntSS_any rows 1 _ _ g0 _ (by omega) (by omega) HG5.out).mono ?_
  rintro e w11 ⟨rfl, ho11, hw11⟩
  have HG6 := hide ho11; have HU8 := hide (ownMat_within HU7.out hw11 (.inl (Nat.le_refl _))); have HB11 := hide (HB10.out.trans (below_within hw11 HB4.out.size HB10.out.size))
  clear ho11 hw11
  go_wp2_with fail
  refine (heldIntSS_any rows 1 g0 _ (by omega) (by omega) (inMat_own HG6.out)).mono ?_
  rintro e w12 ⟨rfl, hb12⟩
  have HG7 := hide (ownMat_below HG6.out hb12); have HU9 := hide (ownMat_below HU8.out hb12); have HB12 := hide (HB11.out.trans (hb12.mono HB11.out.size))
  clear hb12
  go_wp2_with fail
  refine (HM.out _).mono ?_
  rintro e w14 ⟨h0, rfl, ho14, hb14⟩
  have HH := hide ho14; have HG9 := hide (ownMat_below HG7.out hb14); have HU11 := hide (ownMat_below HU9.out hb14); have HB14 := hide (HB12.out.trans (hb14.mono HB12.out.size))
  clear ho14 hb14
  go_wp2_with fail
  refine (eqIntSS_same h0 u0 rows _ (inMat_own HH.out) (inMat_own HU11.out)).mono ?_
  rintro e w15 ⟨rfl, hb15⟩
  have HG10 := hide (ownMat_below HG9.out hb15); have HB15 := hide (HB14.out.trans (hb15.mono HB14.out.size))
  clear hb15
  go_wp2_with fail
  refine (heldIntSS_any rows 1 g0 _ (by omega) (by omega) (inMat_own HG10.out)).mono ?_
  rintro e w16 ⟨rfl, hb16⟩
  have HB16 := hide (HB15.out.trans (hb16.mono HB15.out.size))
  clear hb16
  go_wp2
  go_ret
  exact ⟨rfl, HB16.out⟩
theorem lawEmptyImage_walk (y x : Int) (w : World) (_hy : (Lit.int .i64 y).wf = true) (_hx : (Lit.int .i64 x).wf = true) :
    Calls Try.prog 5 #[.int .i64 y, .int .i64 x] w fun e w' => e = .returned (.bool true) ∧ Below w.heap.size w w' := by
  by_cases h : (1 ≤ y ∧ y ≤ 5) ∧ (1 ≤ x ∧ x ≤ 5)
  · obtain ⟨R, rfl⟩ : ∃ a : Nat, y = a := ⟨y.toNat, by omega⟩
    obtain ⟨C, rfl⟩ : ∃ b : Nat, x = b := ⟨x.toNat, by omega⟩
    have hR : 1 ≤ R ∧ R ≤ 5 := by omega
    have hC : 1 ≤ C ∧ C ≤ 5 := by omega
    exact lawEmptyImage_gen _ _ w _ (small_img (img_zero hR hC) _) (fun w => specEmptyImage_yes R C w hR hC) (fun w => implEmptyImage_yes R C w hR hC)
  · exact lawEmptyImage_gen y x w [] (by decide) (fun w => specEmptyImage_no y x w h) (fun w => implEmptyImage_no y x w h)
end Go.Proofs.Ytcpcplggoogpeaa
