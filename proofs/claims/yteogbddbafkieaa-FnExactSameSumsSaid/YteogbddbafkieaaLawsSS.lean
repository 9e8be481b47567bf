/-
  SameSums: the exact law, walked.
-/
import Derived.Test.YteogbddbafkieaaSameS
namespace Go.Proofs.Yteogbddbafkieaa
open Go.RowKit

set_option maxRecDepth 100000 in
set_option maxHeartbeats 1000000 in
theorem lawSameSums_gen (a : Option Addr) (n c : Nat) (m : List (List Int)) (b : Option Addr) (k d : Nat) (l : List (List Int)) (w : World) (hin : InMat w (.slice a n c) m) (hin2 : InMat w (.slice b k d) l) (val : Bool)
    (hs : ∀ v u w, InMat w v m → InMat w u l → Calls Try.prog 31 #[v, u] w fun e w' => e = .returned (.bool val) ∧ Below w.heap.size w w')
    (hi : ∀ v u w, InMat w v m → InMat w u l → Calls Try.prog 32 #[v, u] w fun e w' => e = .returned (.bool val) ∧ Below w.heap.size w w') :
    Calls Try.prog 9 #[.slice a n c, .slice b k d] w fun e w' => e = .returned (.bool true) ∧ Below w.heap.size w w' := by
  have HI := hide hin; have HJ := hide hin2; have HS := hide hs; have HM := hide hi
  clear hin hin2 hs hi
  go_enter Try.func9, Try.ntmps9
  go_wp2_with fail
  refine (szIntSS_any _ m 1048576 _ (by omega) HI.out).mono ?_
  rintro e w1 ⟨r, rfl, hr, hb1⟩
  have HB1 := hide hb1
  clear hb1
  rcases hr with rfl | ⟨hsz, rfl⟩
  · go_wp2
    go_ret
    exact ⟨rfl, HB1.out⟩
  · go_wp2_with fail
    refine (szIntSS_any _ l (1048576 - m.length - cellsM m) _ (by omega) (inMat_below HJ.out HB1.out)).mono ?_
    rintro e w2 ⟨r, rfl, hr, hb2⟩
    have HB2 := hide (HB1.out.trans (hb2.mono HB1.out.size))
    clear hb2
    rcases hr with rfl | ⟨hsz2, rfl⟩
    · go_wp2
      go_ret
      exact ⟨rfl, HB2.out⟩
    · go_wp2_with fail
      refine (toIntSS_any _ m _ (by omega) (inMat_below HI.out HB2.out)).mono ?_
      rintro e w3 ⟨v3, rfl, ho3, hb3⟩
      have HO3 := hide ho3; have HB3 := hide (HB2.out.trans (hb3.mono HB2.out.size)); clear ho3 hb3
      go_wp2_with fail
      refine (toIntSS_any _ l _ (by omega) (inMat_below HJ.out HB3.out)).mono ?_
      rintro e w4 ⟨v4, rfl, ho4, hb4⟩
      have HO4 := hide ho4; have HP4 := hide (ownMat_below HO3.out hb4); have HB4 := hide (HB3.out.trans (hb4.mono HB3.out.size)); clear ho4 hb4
      go_wp2_with fail
      refine (HS.out v3 v4 _ (inMat_own HP4.out) (inMat_own HO4.out)).mono ?_
      rintro e w5 ⟨rfl, hb5⟩
      have HB5 := hide (HB4.out.trans (hb5.mono HB4.out.size)); clear hb5
      go_wp2_with fail
      refine (toIntSS_any _ m _ (by omega) (inMat_below HI.out HB5.out)).mono ?_
      rintro e w6 ⟨v6, rfl, ho6, hb6⟩
      have HO6 := hide ho6; have HB6 := hide (HB5.out.trans (hb6.mono HB5.out.size)); clear ho6 hb6
      go_wp2_with fail
      refine (toIntSS_any _ l _ (by omega) (inMat_below HJ.out HB6.out)).mono ?_
      rintro e w7 ⟨v7, rfl, ho7, hb7⟩
      have HO7 := hide ho7; have HP7 := hide (ownMat_below HO6.out hb7); have HB7 := hide (HB6.out.trans (hb7.mono HB6.out.size)); clear ho7 hb7
      go_wp2_with fail
      refine (HM.out v6 v7 _ (inMat_own HP7.out) (inMat_own HO7.out)).mono ?_
      rintro e w8 ⟨rfl, hb8⟩
      have HO8 := hide (ownMat_below HO7.out hb8); have HP8 := hide (ownMat_below HP7.out hb8); have HB8 := hide (HB7.out.trans (hb8.mono HB7.out.size)); clear hb8
      go_wp2_with fail
      refine (toIntSS_any _ m _ (by omega) (inMat_below HI.out HB8.out)).mono ?_
      rintro e w9 ⟨v9, rfl, ho9, hb9⟩
      have HV9 := hide ho9; have HO9 := hide (ownMat_below HO8.out hb9); have HP9 := hide (ownMat_below HP8.out hb9); have HB9 := hide (HB8.out.trans (hb9.mono HB8.out.size)); clear ho9 hb9
      go_wp2_with fail
      refine (eqIntSS_same v6 v9 m _ (inMat_own HP9.out) (inMat_own HV9.out)).mono ?_
      rintro e w10 ⟨rfl, hb10⟩
      have HO10 := hide (ownMat_below HO9.out hb10); have HB10 := hide (HB9.out.trans (hb10.mono HB9.out.size)); clear hb10
      go_wp2_with fail
      refine (toIntSS_any _ l _ (by omega) (inMat_below HJ.out HB10.out)).mono ?_
      rintro e w11 ⟨v11, rfl, ho11, hb11⟩
      have HV11 := hide ho11; have HO11 := hide (ownMat_below HO10.out hb11); have HB11 := hide (HB10.out.trans (hb11.mono HB10.out.size)); clear ho11 hb11
      go_wp2_with fail
      refine (eqIntSS_same v7 v11 l _ (inMat_own HO11.out) (inMat_own HV11.out)).mono ?_
      rintro e w12 ⟨rfl, hb12⟩
      have HB12 := hide (HB11.out.trans (hb12.mono HB11.out.size)); clear hb12
      go_wp2
      go_ret
      exact ⟨rfl, HB12.out⟩
theorem lawSameSums_walk (a : Option Addr) (n c : Nat) (m : List (List Int)) (b : Option Addr) (k d : Nat) (l : List (List Int)) (w : World) (hin : InMat w (.slice a n c) m) (hin2 : InMat w (.slice b k d) l) :
    Calls Try.prog 9 #[.slice a n c, .slice b k d] w fun e w' => e = .returned (.bool true) ∧ Below w.heap.size w w' := by
  cases h : (okB m && okB l) with
  | false => exact lawSameSums_gen a n c m b k d l w hin hin2 false (fun v u w hv hu => specSameSums_neg v u w (specDistanceOf_no v u m l w hv hu h)) (fun v u w hv hu => implSameSums_no v u m l w hv hu h)
  | true =>
    rw [Bool.and_eq_true] at h
    obtain ⟨R, C, f, rfl, hI⟩ := ok_img h.1
    obtain ⟨R', C', g, rfl, hI'⟩ := ok_img h.2
    exact lawSameSums_gen a n c _ b k d _ w hin hin2 _ (fun v u w hv hu => specSameSums_any v u R C R' C' f g w hv hu hI hI') (fun v u w hv hu => implSameSums_any v u R C R' C' f g w hv hu hI hI')
end Go.Proofs.Yteogbddbafkieaa
