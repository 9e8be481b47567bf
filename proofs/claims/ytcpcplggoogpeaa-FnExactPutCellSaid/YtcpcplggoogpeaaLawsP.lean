/-
  PutCell: the exact law, walked.
-/
import Derived.Test.YtcpcplggoogpeaaSpecP
import Derived.Test.YtcpcplggoogpeaaLaws2
namespace Go.Proofs.Ytcpcplggoogpeaa
open Go.RowKit
set_option linter.unusedVariables false

set_option maxRecDepth 100000 in
set_option maxHeartbeats 1000000 in
theorem lawPutCell_gen (a : Option Addr) (n c : Nat) (m : List (List Int)) (y x k : Int) (w : World) (hin : InMat w (.slice a n c) m) (rows : List (List Int)) (b : Bool) (hrows : rows.length + cellsM rows ≤ 1000000)
    (hs : ∀ v w, InMat w v m → Calls Try.prog 34 #[v, .int .i64 y, .int .i64 x, .int .i64 k] w (MatRes2 rows b w))
    (hi : ∀ v w, InMat w v m → Calls Try.prog 35 #[v, .int .i64 y, .int .i64 x, .int .i64 k] w (MatRes2 rows b w)) :
    Calls Try.prog 7 #[.slice a n c, .int .i64 y, .int .i64 x, .int .i64 k] w fun e w' => e = .returned (.bool true) ∧ Below w.heap.size w w' := by
  have HI := hide hin; have HS := hide hs; have HM := hide hi
  clear hin hs hi
  go_enter Try.func7, Try.ntmps7
  go_wp2_with fail
  refine (szIntSS_any _ m 1048576 _ (by omega) HI.out).mono ?_
  rintro e w1 ⟨r, rfl, hr, hb1⟩
  have HB1 := hide hb1
  clear hb1
  rcases hr with rfl | ⟨hsz, rfl⟩
  · go_wp2
    go_ret
    exact ⟨rfl, HB1.out⟩
  · go_wp2_with fail
    refine (toIntSS_any _ m _ (by omega) (inMat_below HI.out HB1.out)).mono ?_
    rintro e w2 ⟨v2, rfl, ho2, hb2⟩
    have HO2 := hide ho2; have HB2 := hide (HB1.out.trans (hb2.mono HB1.out.size)); clear ho2 hb2
    go_wp2_with fail
    refine (HS.out v2 _ (inMat_own HO2.out)).mono ?_
    rintro e w3 ⟨u0, rfl, ho3, hb3⟩
    have HU0 := hide ho3; have HB3 := hide (HB2.out.trans (hb3.mono HB2.out.size)); clear ho3 hb3
    go_wp2_with fail
    refine (toIntSS_any _ m _ (by omega) (inMat_below HI.out HB3.out)).mono ?_
    rintro e w4 ⟨v4, rfl, ho4, hb4⟩
    have HO4 := hide ho4; have HU1 := hide (ownMat_below HU0.out hb4); have HB4 := hide (HB3.out.trans (hb4.mono HB3.out.size)); have hs4 := hb4.size; clear ho4 hb4
    go_wp2_with fail
    refine (HM.out v4 _ (inMat_own HO4.out)).mono ?_
    rintro e w5 ⟨g0, rfl, ho5, hb5⟩
    have HG0 := hide ho5; have HO5 := hide (ownMat_below HO4.out hb5); have HU2 := hide (ownMat_below HU1.out hb5); have HB5 := hide (HB4.out.trans (hb5.mono HB4.out.size))
    have hs5 := hb5.size; clear ho5 hb5
    go_wp2_with fail
    refine (eqIntSS_same g0 u0 rows _ (inMat_own HG0.out) (inMat_own HU2.out)).mono ?_
    rintro e w6 ⟨rfl, hb6⟩
    have HG1 := hide (ownMat_below HG0.out hb6); have HO6 := hide (ownMat_below HO5.out hb6); have HU3 := hide (ownMat_below HU2.out hb6); have HB6 := hide (HB5.out.trans (hb6.mono HB5.out.size))
    have hs6 := hb6.size; clear hb6
    go_wp2_with fail
    refine (toIntSS_any _ m _ (by omega) (inMat_below HI.out HB6.out)).mono ?_
    rintro e w7 ⟨v7, rfl, ho7, hb7⟩
    have HV7 := hide ho7; have HG2 := hide (ownMat_below HG1.out hb7); have HO7 := hide (ownMat_below HO6.out hb7); have HU4 := hide (ownMat_below HU3.out hb7); have HB7 := hide (HB6.out.trans (hb7.mono HB6.out.size))
    have hs7 := hb7.size; clear ho7 hb7
    go_wp2_with fail
    refine (eqIntSS_same v4 v7 m _ (inMat_own HO7.out) (inMat_own HV7.out)).mono ?_
    rintro e w8 ⟨rfl, hb8⟩
    have HG3 := hide (ownMat_below HG2.out hb8); have HO8 := hide (ownMat_below HO7.out hb8); have HU5 := hide (ownMat_below HU4.out hb8); have HB8 := hide (HB7.out.trans (hb8.mono HB7.out.size))
    have hs8 := hb8.size; clear hb8
    go_wp2_with fail
    refine (markIntSS_any m 1 _ _ v4 _ (by omega) (by omega) HO8.out).mono ?_
    rintro e w9 ⟨rfl, -, hw9⟩
    have HG4 := hide (ownMat_within HG3.out hw9 (.inr (Nat.le_refl _))); have HU6 := hide (ownMat_within HU5.out hw9 (.inl (Nat.le_refl _))); have HB9 := hide (HB8.out.trans (below_within hw9 HB3.out.size HB8.out.size))
    have hs9 := hw9.size; clear hw9
    go_wp2_with fail
    refine (eqIntSS_same g0 u0 rows _ (inMat_own HG4.out) (inMat_own HU6.out)).mono ?_
    rintro e w10 ⟨rfl, hb10⟩
    have HG5 := hide (ownMat_below HG4.out hb10); have HU7 := hide (ownMat_below HU6.out hb10); have HB10 := hide (HB9.out.trans (hb10.mono HB9.out.size))
    have hs10 := hb10.size; clear hb10
    go_wp2_with fail
    refine (markIntSS_any rows 1 _ _ g0 _ (by omega) (by omega) HG5.out).mono ?_
    rintro e w11 ⟨rfl, ho11, hw11⟩
    have HG6 := hide ho11; have HU8 := hide (ownMat_within HU7.out hw11 (.inl (by omega))); have HB11 := hide (HB10.out.trans (below_within hw11 HB4.out.size HB10.out.size))
    have hs11 := hw11.size; clear ho11 hw11
    go_wp2_with fail
    refine (heldIntSS_any rows 1 g0 _ (by omega) (by omega) (inMat_own HG6.out)).mono ?_
    rintro e w12 ⟨rfl, hb12⟩
    have HG7 := hide (ownMat_below HG6.out hb12); have HU9 := hide (ownMat_below HU8.out hb12); have HB12 := hide (HB11.out.trans (hb12.mono HB11.out.size))
    have hs12 := hb12.size; clear hb12
    go_wp2_with fail
    refine (toIntSS_any _ m _ (by omega) (inMat_below HI.out HB12.out)).mono ?_
    rintro e w13 ⟨v13, rfl, ho13, hb13⟩
    have HV13 := hide ho13; have HG8 := hide (ownMat_below HG7.out hb13); have HU10 := hide (ownMat_below HU9.out hb13); have HB13 := hide (HB12.out.trans (hb13.mono HB12.out.size))
    have hs13 := hb13.size; clear ho13 hb13
    go_wp2_with fail
    refine (HM.out v13 _ (inMat_own HV13.out)).mono ?_
    rintro e w14 ⟨h0, rfl, ho14, hb14⟩
    have HH := hide ho14; have HG9 := hide (ownMat_below HG8.out hb14); have HU11 := hide (ownMat_below HU10.out hb14); have HB14 := hide (HB13.out.trans (hb14.mono HB13.out.size))
    clear ho14 hb14
    go_wp2_with fail
    refine (eqIntSS_same h0 u0 rows _ (inMat_own HH.out) (inMat_own HU11.out)).mono ?_
    rintro e w15 ⟨rfl, hb15⟩
    have HG10 := hide (ownMat_below HG9.out hb15); have HB15 := hide (HB14.out.trans (hb15.mono HB14.out.size))
    clear hb15
    go_wp2_with fail
    refine (heldIntSS_any rows 1 g0 _ (by omega) (by omega) (inMat_own HG10.out)).mono ?_
    rintro e w16 ⟨rfl, hb16⟩
    have HB16 := hide (HB15.out.trans (hb16.mono HB15.out.size))
    clear hb16
    go_wp2
    go_ret
    exact ⟨rfl, HB16.out⟩

theorem lawPutCell_walk (a : Option Addr) (n c : Nat) (m : List (List Int)) (y x k : Int) (w : World) (hin : InMat w (.slice a n c) m) (_hy : (Lit.int .i64 y).wf = true) (_hx : (Lit.int .i64 x).wf = true) (_hk : (Lit.int .i64 k).wf = true) :
    Calls Try.prog 7 #[.slice a n c, .int .i64 y, .int .i64 x, .int .i64 k] w fun e w' => e = .returned (.bool true) ∧ Below w.heap.size w w' := by
  cases h : okB m with
  | false => exact lawPutCell_gen a n c m y x k w hin [] false (by decide) (fun v w hv => specPutCell_no v m y x k w hv h) (fun v w hv => implPutCell_no v m y x k w hv h)
  | true =>
    obtain ⟨R, C, f, rfl, hI⟩ := ok_img h
    by_cases hyx : 0 ≤ y ∧ y < R ∧ 0 ≤ x ∧ x < C
    · obtain ⟨p, rfl⟩ : ∃ p : Nat, y = p := ⟨y.toNat, by omega⟩
      obtain ⟨q, rfl⟩ : ∃ q : Nat, x = q := ⟨x.toNat, by omega⟩
      have hp : p < R := by omega
      have hq : q < C := by omega
      cases hc : cellOk k with
      | false => exact lawPutCell_gen a n c _ p q k w hin [] false (by decide) (fun v w hv => specPutCell_color v R C f p q k w hv hI hp hq hc) (fun v w hv => implPutCell_color v R C f p q k w hv hI hp hq hc)
      | true =>
        have hk : k = 0 ∨ k = 1 := by simpa [cellOk] using hc
        exact lawPutCell_gen a n c _ p q k w hin _ true (small_img hI _) (fun v w hv => specPutCell_yes v R C f p q k w hv hI hp hq hk) (fun v w hv => implPutCell_yes v R C f p q k w hv hI hp hq hk)
    · exact lawPutCell_gen a n c _ y x k w hin [] false (by decide) (fun v w hv => specPutCell_out v R C f y x k w hv hI hyx) (fun v w hv => implPutCell_out v R C f y x k w hv hI hyx)
end Go.Proofs.Ytcpcplggoogpeaa
