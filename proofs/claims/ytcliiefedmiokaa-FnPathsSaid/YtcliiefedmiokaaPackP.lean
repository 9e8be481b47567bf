/-
  Texts of this claim, one behind the other: LawsN, Draw, Pair, Alike, PathsP.
-/
import Derived.Test.YtcliiefedmiokaaPackO
import Derived.Test.YtcliiefedmiokaaPackI
import Derived.Test.YtcliiefedmiokaaPackH
import Derived.Test.YtcliiefedmiokaaPackJ
/-
  The exact laws on NextTo and PathTo, walked.
-/
namespace Go.Proofs.Ytcliiefedmiokaa
open Go.RowKit
set_option linter.unusedVariables false

set_option maxRecDepth 100000 in
set_option maxHeartbeats 4000000 in
theorem lawNextTo_walk (a : Option Addr) (n c : Nat) (m : List (List Int)) (a2 : Option Addr) (n2 c2 : Nat) (l : List (List Int)) (w : World) (hin : InMat w (.slice a n c) m) (hin2 : InMat w (.slice a2 n2 c2) l) :
    Calls Try.prog 8 #[.slice a n c, .slice a2 n2 c2] w fun e w' => e = .returned (.bool true) ∧ Below w.heap.size w w' := by
  have HI := hide hin; have HJ := hide hin2
  have HS := hide fun v u w h k => specNext_l v u m l w h k
  have HM := hide fun v u w h k => implNext_l v u m l w h k
  unfold NextAns at HS HM
  obtain ⟨s, hs⟩ : ∃ s, s = (pathL m l).headD zeroSw := ⟨_, rfl⟩
  obtain ⟨b, hb⟩ : ∃ b, b = !(pathL m l).isEmpty := ⟨_, rfl⟩
  rw [← hs, ← hb] at HS HM
  clear hs hb
  clear hin hin2
  go_enter Try.func8, Try.ntmps8
  have HB := hide (Below.refl w.heap.size w)
  go_wp2_with fail
  refine (szIntSS_any _ m 1048576 _ (by omega) HI.out).mono ?_
  rintro e w1 ⟨r, rfl, hr, hb⟩
  have hs1 := hb.size
  replace HB := hide (HB.out.trans (hb.mono HB.out.size))
  clear hb
  rcases hr with rfl | ⟨hsz, rfl⟩
  · go_wp2
    go_ret
    exact ⟨rfl, HB.out⟩
  · go_wp2_with fail
    refine (szIntSS_any _ l (1048576 - m.length - cellsM m) _ (by omega) (inMat_below HJ.out HB.out)).mono ?_
    rintro e w2 ⟨r, rfl, hr, hb⟩
    have hs2 := hb.size
    replace HB := hide (HB.out.trans (hb.mono HB.out.size))
    clear hb
    rcases hr with rfl | ⟨hsl, rfl⟩
    · go_wp2
      go_ret
      exact ⟨rfl, HB.out⟩
    · go_wp2_with fail
      refine (toIntSS_any _ m _ (by omega) (inMat_below HI.out HB.out)).mono ?_
      rintro e w3 ⟨v1, rfl, hv, hb⟩
      have hs3 := hb.size
      replace HB := hide (HB.out.trans (hb.mono HB.out.size))
      have HV1 := hide (hv)
      clear hb
      clear hv
      go_wp2_with fail
      refine (toIntSS_any _ l _ (by omega) (inMat_below HJ.out HB.out)).mono ?_
      rintro e w4 ⟨u1, rfl, hv, hb⟩
      have hs4 := hb.size
      replace HV1 := hide (ownMat_below HV1.out hb)
      replace HB := hide (HB.out.trans (hb.mono HB.out.size))
      have HU1 := hide (hv)
      clear hb
      clear hv
      go_wp2_with fail
      refine (HS.out v1 u1 _ (inMat_own HV1.out) (inMat_own HU1.out)).mono ?_
      rintro e w5 ⟨rfl, hb⟩
      have hs5 := hb.size
      replace HV1 := hide (ownMat_below HV1.out hb)
      replace HU1 := hide (ownMat_below HU1.out hb)
      replace HB := hide (HB.out.trans (hb.mono HB.out.size))
      clear hb
      go_wp2_with (first | ((with_reducible refine wpList_allocSw 6 rfl rfl rfl ?_); intro wa ha ba sa) | ((refine wpList_storeSw ha s rfl (.tmp 6) (.tmp 28) rfl rfl rfl ?_); intro w71 hd gb sb; have hb := ba.trans (grown_below gb (fun k hk => by cases hk; exact Nat.le_refl _) ba.size); have hs71 := hb.size; replace HV1 := hide (ownMat_below HV1.out hb); replace HU1 := hide (ownMat_below HU1.out hb); replace HB := hide (HB.out.trans (hb.mono HB.out.size)); have HD71 := hide hd; clear ha ba sa hd gb sb hb))
      refine (toIntSS_any _ m _ (by omega) (inMat_below HI.out HB.out)).mono ?_
      rintro e w6 ⟨v2, rfl, hv, hb⟩
      have hs6 := hb.size
      replace HV1 := hide (ownMat_below HV1.out hb)
      replace HU1 := hide (ownMat_below HU1.out hb)
      replace HD71 := hide (swAt_below HD71.out hb)
      replace HB := hide (HB.out.trans (hb.mono HB.out.size))
      have HV2 := hide (hv)
      clear hb
      clear hv
      go_wp2_with fail
      refine (toIntSS_any _ l _ (by omega) (inMat_below HJ.out HB.out)).mono ?_
      rintro e w7 ⟨u2, rfl, hv, hb⟩
      have hs7 := hb.size
      replace HV1 := hide (ownMat_below HV1.out hb)
      replace HU1 := hide (ownMat_below HU1.out hb)
      replace HV2 := hide (ownMat_below HV2.out hb)
      replace HD71 := hide (swAt_below HD71.out hb)
      replace HB := hide (HB.out.trans (hb.mono HB.out.size))
      have HU2 := hide (hv)
      clear hb
      clear hv
      go_wp2_with fail
      refine (HM.out v2 u2 _ (inMat_own HV2.out) (inMat_own HU2.out)).mono ?_
      rintro e w8 ⟨rfl, hb⟩
      have hs8 := hb.size
      replace HV1 := hide (ownMat_below HV1.out hb)
      replace HU1 := hide (ownMat_below HU1.out hb)
      replace HV2 := hide (ownMat_below HV2.out hb)
      replace HU2 := hide (ownMat_below HU2.out hb)
      replace HD71 := hide (swAt_below HD71.out hb)
      replace HB := hide (HB.out.trans (hb.mono HB.out.size))
      clear hb
      go_wp2_with (first | ((with_reducible refine wpList_allocSw 10 rfl rfl rfl ?_); intro wa ha ba sa) | ((refine wpList_storeSw ha s rfl (.tmp 10) (.tmp 38) rfl rfl rfl ?_); intro w72 hd gb sb; have hb := ba.trans (grown_below gb (fun k hk => by cases hk; exact Nat.le_refl _) ba.size); have hs72 := hb.size; replace HV1 := hide (ownMat_below HV1.out hb); replace HU1 := hide (ownMat_below HU1.out hb); replace HV2 := hide (ownMat_below HV2.out hb); replace HU2 := hide (ownMat_below HU2.out hb); replace HD71 := hide (swAt_below HD71.out hb); replace HB := hide (HB.out.trans (hb.mono HB.out.size)); have HD72 := hide hd; clear ha ba sa hd gb sb hb) | (with_reducible refine wpList_loadSw HD72.out 40 rfl rfl _ rfl rfl ?_) | (with_reducible refine wpList_loadSw HD71.out 41 rfl rfl _ rfl rfl ?_))
      refine (eqSwitch_same s _).mono ?_
      rintro e w9 ⟨rfl, hb⟩
      have hs9 := hb.size
      replace HV1 := hide (ownMat_below HV1.out hb)
      replace HU1 := hide (ownMat_below HU1.out hb)
      replace HV2 := hide (ownMat_below HV2.out hb)
      replace HU2 := hide (ownMat_below HU2.out hb)
      replace HD71 := hide (swAt_below HD71.out hb)
      replace HD72 := hide (swAt_below HD72.out hb)
      replace HB := hide (HB.out.trans (hb.mono HB.out.size))
      clear hb
      go_wp2_with fail
      refine (toIntSS_any _ m _ (by omega) (inMat_below HI.out HB.out)).mono ?_
      rintro e w10 ⟨v3, rfl, hv, hb⟩
      have hs10 := hb.size
      replace HV1 := hide (ownMat_below HV1.out hb)
      replace HU1 := hide (ownMat_below HU1.out hb)
      replace HV2 := hide (ownMat_below HV2.out hb)
      replace HU2 := hide (ownMat_below HU2.out hb)
      replace HD71 := hide (swAt_below HD71.out hb)
      replace HD72 := hide (swAt_below HD72.out hb)
      replace HB := hide (HB.out.trans (hb.mono HB.out.size))
      have HV3 := hide (hv)
      clear hb
      clear hv
      go_wp2_with fail
      refine (eqIntSS_same v2 v3 m _ (inMat_own HV2.out) (inMat_own HV3.out)).mono ?_
      rintro e w11 ⟨rfl, hb⟩
      have hs11 := hb.size
      replace HV1 := hide (ownMat_below HV1.out hb)
      replace HU1 := hide (ownMat_below HU1.out hb)
      replace HV2 := hide (ownMat_below HV2.out hb)
      replace HU2 := hide (ownMat_below HU2.out hb)
      replace HV3 := hide (ownMat_below HV3.out hb)
      replace HD71 := hide (swAt_below HD71.out hb)
      replace HD72 := hide (swAt_below HD72.out hb)
      replace HB := hide (HB.out.trans (hb.mono HB.out.size))
      clear hb
      go_wp2_with fail
      refine (toIntSS_any _ l _ (by omega) (inMat_below HJ.out HB.out)).mono ?_
      rintro e w12 ⟨u3, rfl, hv, hb⟩
      have hs12 := hb.size
      replace HV1 := hide (ownMat_below HV1.out hb)
      replace HU1 := hide (ownMat_below HU1.out hb)
      replace HV2 := hide (ownMat_below HV2.out hb)
      replace HU2 := hide (ownMat_below HU2.out hb)
      replace HV3 := hide (ownMat_below HV3.out hb)
      replace HD71 := hide (swAt_below HD71.out hb)
      replace HD72 := hide (swAt_below HD72.out hb)
      replace HB := hide (HB.out.trans (hb.mono HB.out.size))
      have HU3 := hide (hv)
      clear hb
      clear hv
      go_wp2_with fail
      refine (eqIntSS_same u2 u3 l _ (inMat_own HU2.out) (inMat_own HU3.out)).mono ?_
      rintro e w13 ⟨rfl, hb⟩
      have hs13 := hb.size
      replace HV1 := hide (ownMat_below HV1.out hb)
      replace HU1 := hide (ownMat_below HU1.out hb)
      replace HV2 := hide (ownMat_below HV2.out hb)
      replace HU2 := hide (ownMat_below HU2.out hb)
      replace HV3 := hide (ownMat_below HV3.out hb)
      replace HU3 := hide (ownMat_below HU3.out hb)
      replace HD71 := hide (swAt_below HD71.out hb)
      replace HD72 := hide (swAt_below HD72.out hb)
      replace HB := hide (HB.out.trans (hb.mono HB.out.size))
      clear hb
      go_wp2
      go_ret
      exact ⟨rfl, HB.out⟩

set_option maxRecDepth 100000 in
set_option maxHeartbeats 4000000 in
theorem lawPathTo_walk (a : Option Addr) (n c : Nat) (m : List (List Int)) (a2 : Option Addr) (n2 c2 : Nat) (l : List (List Int)) (w : World) (hin : InMat w (.slice a n c) m) (hin2 : InMat w (.slice a2 n2 c2) l) :
    Calls Try.prog 9 #[.slice a n c, .slice a2 n2 c2] w fun e w' => e = .returned (.bool true) ∧ Below w.heap.size w w' := by
  have HI := hide hin; have HJ := hide hin2
  have HLL := hide (pathL_len m l)
  have HS := hide fun v u w h k => specPath_l v u m l w h k
  have HM := hide fun v u w h k => implPath_l v u m l w h k
  unfold PathAns at HS HM
  obtain ⟨P, hP⟩ : ∃ P, P = pathL m l := ⟨_, rfl⟩
  obtain ⟨b, hb⟩ : ∃ b, b = pathB m l := ⟨_, rfl⟩
  rw [← hP] at HLL
  rw [← hP, ← hb] at HS HM
  clear hP hb
  clear hin hin2
  go_enter Try.func9, Try.ntmps9
  have HB := hide (Below.refl w.heap.size w)
  go_wp2_with fail
  refine (szIntSS_any _ m 1048576 _ (by omega) HI.out).mono ?_
  rintro e w1 ⟨r, rfl, hr, hb⟩
  have hs1 := hb.size
  replace HB := hide (HB.out.trans (hb.mono HB.out.size))
  clear hb
  rcases hr with rfl | ⟨hsz, rfl⟩
  · go_wp2
    go_ret
    exact ⟨rfl, HB.out⟩
  · go_wp2_with fail
    refine (szIntSS_any _ l (1048576 - m.length - cellsM m) _ (by omega) (inMat_below HJ.out HB.out)).mono ?_
    rintro e w2 ⟨r, rfl, hr, hb⟩
    have hs2 := hb.size
    replace HB := hide (HB.out.trans (hb.mono HB.out.size))
    clear hb
    rcases hr with rfl | ⟨hsl, rfl⟩
    · go_wp2
      go_ret
      exact ⟨rfl, HB.out⟩
    · go_wp2_with fail
      refine (toIntSS_any _ m _ (by omega) (inMat_below HI.out HB.out)).mono ?_
      rintro e w3 ⟨v1, rfl, hv, hb⟩
      have hs3 := hb.size
      replace HB := hide (HB.out.trans (hb.mono HB.out.size))
      have HV1 := hide (hv)
      clear hb
      clear hv
      go_wp2_with fail
      refine (toIntSS_any _ l _ (by omega) (inMat_below HJ.out HB.out)).mono ?_
      rintro e w4 ⟨u1, rfl, hv, hb⟩
      have hs4 := hb.size
      replace HV1 := hide (ownMat_below HV1.out hb)
      replace HB := hide (HB.out.trans (hb.mono HB.out.size))
      have HU1 := hide (hv)
      clear hb
      clear hv
      go_wp2_with fail
      refine (HS.out v1 u1 _ (inMat_own HV1.out) (inMat_own HU1.out)).mono ?_
      rintro e w5 ⟨x, rfl, hu, hb⟩
      have hs5 := hb.size
      replace HV1 := hide (ownMat_below HV1.out hb)
      replace HU1 := hide (ownMat_below HU1.out hb)
      replace HB := hide (HB.out.trans (hb.mono HB.out.size))
      have HX := hide (ownS2_of hu)
      clear hb
      clear hu
      go_wp2_with fail
      refine (toIntSS_any _ m _ (by omega) (inMat_below HI.out HB.out)).mono ?_
      rintro e w6 ⟨v2, rfl, hv, hb⟩
      have hs6 := hb.size
      replace HV1 := hide (ownMat_below HV1.out hb)
      replace HU1 := hide (ownMat_below HU1.out hb)
      replace HX := hide (ownS2_below HX.out hb)
      replace HB := hide (HB.out.trans (hb.mono HB.out.size))
      have HV2 := hide (hv)
      clear hb
      clear hv
      go_wp2_with fail
      refine (toIntSS_any _ l _ (by omega) (inMat_below HJ.out HB.out)).mono ?_
      rintro e w7 ⟨u2, rfl, hv, hb⟩
      have hs7 := hb.size
      replace HV1 := hide (ownMat_below HV1.out hb)
      replace HU1 := hide (ownMat_below HU1.out hb)
      replace HX := hide (ownS2_below HX.out hb)
      replace HV2 := hide (ownMat_below HV2.out hb)
      replace HB := hide (HB.out.trans (hb.mono HB.out.size))
      have HU2 := hide (hv)
      clear hb
      clear hv
      go_wp2_with fail
      refine (HM.out v2 u2 _ (inMat_own HV2.out) (inMat_own HU2.out)).mono ?_
      rintro e w8 ⟨g, rfl, hu, hb⟩
      have hs8 := hb.size
      replace HV1 := hide (ownMat_below HV1.out hb)
      replace HU1 := hide (ownMat_below HU1.out hb)
      replace HX := hide (ownS2_below HX.out hb)
      replace HV2 := hide (ownMat_below HV2.out hb)
      replace HU2 := hide (ownMat_below HU2.out hb)
      replace HB := hide (HB.out.trans (hb.mono HB.out.size))
      have HG := hide (ownS2_of hu)
      clear hb
      clear hu
      go_wp2_with fail
      refine (eqSwitchS_same g x P _ (inSws_own HG.out.1) (inSws_own HX.out.1)).mono ?_
      rintro e w9 ⟨rfl, hb⟩
      have hs9 := hb.size
      replace HV1 := hide (ownMat_below HV1.out hb)
      replace HU1 := hide (ownMat_below HU1.out hb)
      replace HX := hide (ownS2_below HX.out hb)
      replace HV2 := hide (ownMat_below HV2.out hb)
      replace HU2 := hide (ownMat_below HU2.out hb)
      replace HG := hide (ownS2_below HG.out hb)
      replace HB := hide (HB.out.trans (hb.mono HB.out.size))
      clear hb
      go_wp2_with fail
      refine (toIntSS_any _ m _ (by omega) (inMat_below HI.out HB.out)).mono ?_
      rintro e w10 ⟨v3, rfl, hv, hb⟩
      have hs10 := hb.size
      replace HV1 := hide (ownMat_below HV1.out hb)
      replace HU1 := hide (ownMat_below HU1.out hb)
      replace HX := hide (ownS2_below HX.out hb)
      replace HV2 := hide (ownMat_below HV2.out hb)
      replace HU2 := hide (ownMat_below HU2.out hb)
      replace HG := hide (ownS2_below HG.out hb)
      replace HB := hide (HB.out.trans (hb.mono HB.out.size))
      have HV3 := hide (hv)
      clear hb
      clear hv
      go_wp2_with fail
      refine (eqIntSS_same v2 v3 m _ (inMat_own HV2.out) (inMat_own HV3.out)).mono ?_
      rintro e w11 ⟨rfl, hb⟩
      have hs11 := hb.size
      replace HV1 := hide (ownMat_below HV1.out hb)
      replace HU1 := hide (ownMat_below HU1.out hb)
      replace HX := hide (ownS2_below HX.out hb)
      replace HV2 := hide (ownMat_below HV2.out hb)
      replace HU2 := hide (ownMat_below HU2.out hb)
      replace HG := hide (ownS2_below HG.out hb)
      replace HV3 := hide (ownMat_below HV3.out hb)
      replace HB := hide (HB.out.trans (hb.mono HB.out.size))
      clear hb
      go_wp2_with fail
      refine (toIntSS_any _ l _ (by omega) (inMat_below HJ.out HB.out)).mono ?_
      rintro e w12 ⟨u3, rfl, hv, hb⟩
      have hs12 := hb.size
      replace HV1 := hide (ownMat_below HV1.out hb)
      replace HU1 := hide (ownMat_below HU1.out hb)
      replace HX := hide (ownS2_below HX.out hb)
      replace HV2 := hide (ownMat_below HV2.out hb)
      replace HU2 := hide (ownMat_below HU2.out hb)
      replace HG := hide (ownS2_below HG.out hb)
      replace HV3 := hide (ownMat_below HV3.out hb)
      replace HB := hide (HB.out.trans (hb.mono HB.out.size))
      have HU3 := hide (hv)
      clear hb
      clear hv
      go_wp2_with fail
      refine (eqIntSS_same u2 u3 l _ (inMat_own HU2.out) (inMat_own HU3.out)).mono ?_
      rintro e w13 ⟨rfl, hb⟩
      have hs13 := hb.size
      replace HV1 := hide (ownMat_below HV1.out hb)
      replace HU1 := hide (ownMat_below HU1.out hb)
      replace HX := hide (ownS2_below HX.out hb)
      replace HV2 := hide (ownMat_below HV2.out hb)
      replace HU2 := hide (ownMat_below HU2.out hb)
      replace HG := hide (ownS2_below HG.out hb)
      replace HV3 := hide (ownMat_below HV3.out hb)
      replace HU3 := hide (ownMat_below HU3.out hb)
      replace HB := hide (HB.out.trans (hb.mono HB.out.size))
      clear hb
      go_wp2_with fail
      refine (markIntSS_any m 1 _ _ v2 _ (by omega) (by omega) HV2.out).mono ?_
      rintro e w14 ⟨rfl, -, hw⟩
      have hs14 := hw.size
      replace HV1 := hide (ownMat_within HV1.out hw (by omega))
      replace HU1 := hide (ownMat_within HU1.out hw (by omega))
      replace HX := hide (ownS2_within HX.out hw (by omega))
      replace HU2 := hide (ownMat_within HU2.out hw (by omega))
      replace HG := hide (ownS2_within HG.out hw (by omega))
      replace HV3 := hide (ownMat_within HV3.out hw (by omega))
      replace HU3 := hide (ownMat_within HU3.out hw (by omega))
      replace HB := hide (HB.out.trans (below_within hw (by omega) HB.out.size))
      clear HV2
      clear hw
      go_wp2_with fail
      refine (markIntSS_any l (1 + cellsM m) _ _ u2 _ (by omega) (by omega) HU2.out).mono ?_
      rintro e w15 ⟨rfl, -, hw⟩
      have hs15 := hw.size
      replace HV1 := hide (ownMat_within HV1.out hw (by omega))
      replace HU1 := hide (ownMat_within HU1.out hw (by omega))
      replace HX := hide (ownS2_within HX.out hw (by omega))
      replace HG := hide (ownS2_within HG.out hw (by omega))
      replace HV3 := hide (ownMat_within HV3.out hw (by omega))
      replace HU3 := hide (ownMat_within HU3.out hw (by omega))
      replace HB := hide (HB.out.trans (below_within hw (by omega) HB.out.size))
      clear HU2
      clear hw
      go_wp2_with fail
      refine (eqSwitchS_same g x P _ (inSws_own HG.out.1) (inSws_own HX.out.1)).mono ?_
      rintro e w16 ⟨rfl, hb⟩
      have hs16 := hb.size
      replace HV1 := hide (ownMat_below HV1.out hb)
      replace HU1 := hide (ownMat_below HU1.out hb)
      replace HX := hide (ownS2_below HX.out hb)
      replace HG := hide (ownS2_below HG.out hb)
      replace HV3 := hide (ownMat_below HV3.out hb)
      replace HU3 := hide (ownMat_below HU3.out hb)
      replace HB := hide (HB.out.trans (hb.mono HB.out.size))
      clear hb
      go_wp2_with fail
      refine (markSwitchS_any P.length 1 g _ _ _ (by have := HLL.out; omega) (by omega) HG.out.1).mono ?_
      rintro e w17 ⟨rfl, ho, hg⟩
      have hw := within_own HG.out hg
      clear hg
      have hs17 := hw.size
      replace HV1 := hide (ownMat_within HV1.out hw (by omega))
      replace HU1 := hide (ownMat_within HU1.out hw (by omega))
      replace HX := hide (ownS2_within HX.out hw (by omega))
      replace HV3 := hide (ownMat_within HV3.out hw (by omega))
      replace HU3 := hide (ownMat_within HU3.out hw (by omega))
      replace HB := hide (HB.out.trans (below_within hw (by omega) HB.out.size))
      have HC := hide (heldC_own ho)
      clear HG
      clear hw
      clear ho
      go_wp2_with fail
      refine (heldSwitchS_any P.length 1 g _ (by have := HLL.out; omega) (by omega) HC.out).mono ?_
      rintro e w18 ⟨rfl, rfl⟩
      go_wp2_with fail
      refine (toIntSS_any _ m _ (by omega) (inMat_below HI.out HB.out)).mono ?_
      rintro e w19 ⟨v4, rfl, hv, hb⟩
      have hs19 := hb.size
      replace HV1 := hide (ownMat_below HV1.out hb)
      replace HU1 := hide (ownMat_below HU1.out hb)
      replace HX := hide (ownS2_below HX.out hb)
      replace HV3 := hide (ownMat_below HV3.out hb)
      replace HU3 := hide (ownMat_below HU3.out hb)
      replace HC := hide (heldC_below HC.out hb)
      replace HB := hide (HB.out.trans (hb.mono HB.out.size))
      have HV4 := hide (hv)
      clear hb
      clear hv
      go_wp2_with fail
      refine (toIntSS_any _ l _ (by omega) (inMat_below HJ.out HB.out)).mono ?_
      rintro e w20 ⟨u4, rfl, hv, hb⟩
      have hs20 := hb.size
      replace HV1 := hide (ownMat_below HV1.out hb)
      replace HU1 := hide (ownMat_below HU1.out hb)
      replace HX := hide (ownS2_below HX.out hb)
      replace HV3 := hide (ownMat_below HV3.out hb)
      replace HU3 := hide (ownMat_below HU3.out hb)
      replace HV4 := hide (ownMat_below HV4.out hb)
      replace HC := hide (heldC_below HC.out hb)
      replace HB := hide (HB.out.trans (hb.mono HB.out.size))
      have HU4 := hide (hv)
      clear hb
      clear hv
      go_wp2_with fail
      refine (HM.out v4 u4 _ (inMat_own HV4.out) (inMat_own HU4.out)).mono ?_
      rintro e w21 ⟨h, rfl, hu, hb⟩
      have hs21 := hb.size
      replace HV1 := hide (ownMat_below HV1.out hb)
      replace HU1 := hide (ownMat_below HU1.out hb)
      replace HX := hide (ownS2_below HX.out hb)
      replace HV3 := hide (ownMat_below HV3.out hb)
      replace HU3 := hide (ownMat_below HU3.out hb)
      replace HV4 := hide (ownMat_below HV4.out hb)
      replace HU4 := hide (ownMat_below HU4.out hb)
      replace HC := hide (heldC_below HC.out hb)
      replace HB := hide (HB.out.trans (hb.mono HB.out.size))
      have HH := hide (ownS2_of hu)
      clear hb
      clear hu
      go_wp2_with fail
      refine (eqSwitchS_same h x P _ (inSws_own HH.out.1) (inSws_own HX.out.1)).mono ?_
      rintro e w22 ⟨rfl, hb⟩
      have hs22 := hb.size
      replace HV1 := hide (ownMat_below HV1.out hb)
      replace HU1 := hide (ownMat_below HU1.out hb)
      replace HX := hide (ownS2_below HX.out hb)
      replace HV3 := hide (ownMat_below HV3.out hb)
      replace HU3 := hide (ownMat_below HU3.out hb)
      replace HV4 := hide (ownMat_below HV4.out hb)
      replace HU4 := hide (ownMat_below HU4.out hb)
      replace HH := hide (ownS2_below HH.out hb)
      replace HC := hide (heldC_below HC.out hb)
      replace HB := hide (HB.out.trans (hb.mono HB.out.size))
      clear hb
      go_wp2_with fail
      refine (heldSwitchS_any P.length 1 g _ (by have := HLL.out; omega) (by omega) HC.out).mono ?_
      rintro e w23 ⟨rfl, rfl⟩
      go_wp2
      go_ret
      exact ⟨rfl, HB.out⟩
end Go.Proofs.Ytcliiefedmiokaa
/-
  The images that the laws draw: l02Draw, MakeImage, MakeSized.
-/
namespace Go.Proofs.Ytcliiefedmiokaa
open Go.RowKit

theorem curAt_within {w w' : World} {B n : Nat} {a : Option Addr} (h : CurAt w B a n) (hb : w'.heap[B]? = w.heap[B]?) : CurAt w' B a n := by
  obtain ⟨c, i, k, h1, h2, h3⟩ := h
  exact ⟨c, i, k, by rw [hb]; exact h1, h2, h3⟩
theorem curAt_lt {w : World} {B n : Nat} {a : Option Addr} (h : CurAt w B a n) : B < w.heap.size := by
  obtain ⟨c, i, k, h1, -⟩ := h
  exact (Array.getElem?_eq_some_iff.1 h1).1
theorem curAt_below {w w' : World} {B n : Nat} {a : Option Addr} (h : CurAt w B a n) (hb : Below w.heap.size w w') : CurAt w' B a n := curAt_within h (hb.block B (curAt_lt h))
theorem ownMat_cur {w w' : World} {lo hi B : Nat} {v : Value} {m : List (List Int)} (h : OwnMat w lo hi v m) (hg : w.grownBy w' (some B)) (hB : B < lo) : OwnMat w' lo hi v m :=
  ownMat_within h (within_grown (lo := B) (hi := B + 1) hg fun k hk => by cases hk; exact ⟨Nat.le_refl _, Nat.lt_succ_self _⟩) (.inr hB)
theorem grown_undrew {w w' : World} {row : Option Nat} (h : w.drew.grownBy w' row) : w.grownBy w' row := ⟨h.os, h.tape, h.output, h.size, h.block⟩
theorem cells_kept {w w' : World} {B gv y gr x : Nat} {u z : Value} (h : w.drew.grownBy w' (some B)) (h1 : w.cell? ⟨gv, y, none⟩ = some u) (h2 : w.cell? ⟨gr, x, none⟩ = some z) (h3 : w.frozen? ⟨gr, x, none⟩ = false) (n1 : gv ≠ B) (n2 : gr ≠ B) :
    w'.cell? ⟨gv, y, none⟩ = some u ∧ w'.cell? ⟨gr, x, none⟩ = some z ∧ w'.frozen? ⟨gr, x, none⟩ = false := by
  have hg := grown_undrew h
  refine ⟨hg.cell h1 (by simpa using n1), hg.cell h2 (by simpa using n2), ?_⟩
  have hlt : gr < w.heap.size := World.block_lt_of_cell? w _ h2
  rw [World.frozen?_of_block (w := w) (a := ⟨gr, x, none⟩) (hg.block gr hlt (by simpa using n2))]; exact h3
theorem img_upd {R C : Nat} {f : Nat → Nat → Int} (h : Img R C f) (y x : Nat) {z : Int} (hz : z = 0 ∨ z = 1) : Img R C fun a b => if a = y ∧ b = x then z else f a b :=
  ⟨h.r1, h.r2, h.c1, h.c2, fun a b ha hb => by
    show (if a = y ∧ b = x then z else f a b) = 0 ∨ (if a = y ∧ b = x then z else f a b) = 1
    split
    · exact hz
    · exact h.cell a b ha hb⟩

theorem ownMat_apart {w : World} {lo hi g n c g' n' c' : Nat} {m : List (List Int)} (h : OwnMat w lo hi (.slice (some ⟨g, 0, none⟩) n c) m) (i : Nat) (h' : i < m.length) (hc : w.cell? ⟨g, i, none⟩ = some (.slice (some ⟨g', 0, none⟩) n' c')) : g ≠ g' := by
  obtain ⟨vs, ho, -, hr, -⟩ := h
  have hn : n = m.length := by
    rcases ho.2 with ⟨e, _⟩ | ⟨g2, cap, cur, e, _⟩
    · cases e
    · cases e; rfl
  subst hn
  have h1 := cell_held ho h'
  rw [hc, Option.some.injEq] at h1
  rcases own_types ho (hr i h').1 (by decide) with e | e
  · cases e
  · rw [← h1] at e
    simpa [Value.ownBlock] using e
/-- What the laws draw: some image; the cursor in its place; nothing below it touched. -/
def DrawnImg (w : World) (B : Nat) (a : Option Addr) (n : Nat) (e : Ending) (w' : World) : Prop :=
  ∃ (v : Value) (R C : Nat) (f : Nat → Nat → Int), e = .returned v ∧ Img R C f ∧ OwnMat w' w.heap.size w'.heap.size v (mkM R C f) ∧ CurAt w' B a n ∧ Below B w w'

/-- And it is of the size asked. -/
def DrawnMost (most : Nat) (w : World) (B : Nat) (a : Option Addr) (n : Nat) (e : Ending) (w' : World) : Prop :=
  ∃ (v : Value) (R C : Nat) (f : Nat → Nat → Int), e = .returned v ∧ Img R C f ∧ (R ≤ most ∧ C ≤ most) ∧ OwnMat w' w.heap.size w'.heap.size v (mkM R C f) ∧ CurAt w' B a n ∧ Below B w w'
set_option maxRecDepth 100000 in
set_option maxHeartbeats 1000000 in
theorem l02Draw_most (B n : Nat) (a : Option Addr) (most : Nat) (w : World) (base : Nat) (hm0 : 1 ≤ most) (hm1 : most ≤ 5) (hc : CurAt w B a n) (hin : InBytes w base a n) (hbase : base ≤ B) :
    Calls Try.prog 69 #[.pointer (some ⟨B, 0, none⟩), .int .i64 most] w (DrawnMost most w B a n) := by
  have HC := hide hc; have HI := hide hin
  have hBw := curAt_lt hc
  clear hc hin
  go_enter Try.func69, Try.ntmps69
  go_wp2_with fail
  refine (l01Below_any B n a most _ base (by omega) (by omega) HC.out HI.out hbase).mono ?_
  rintro e w1 ⟨x1, hx10, hx11, rfl, hc1, hg1⟩
  have HC1 := hide hc1; have HI1 := hide (inBytes_grown HI.out hg1 hbase); have HG1 := hide hg1
  clear hc1 hg1
  go_wp2_with fail
  refine (l01Below_any B n a most _ base (by omega) (by omega) HC1.out HI1.out hbase).mono ?_
  rintro e w2 ⟨x2, hx20, hx21, rfl, hc2, hg2⟩
  have HC2 := hide hc2; have HI2 := hide (inBytes_grown HI1.out hg2 hbase); have HG2 := hide (grown_trans HG1.out hg2)
  clear hc2 hg2
  obtain ⟨R, hR⟩ : ∃ R : Nat, 1 + x1 = R := ⟨(1 + x1).toNat, by omega⟩
  obtain ⟨C, hC⟩ : ∃ C : Nat, 1 + x2 = C := ⟨(1 + x2).toNat, by omega⟩
  have HMOST : Hid (R ≤ most ∧ C ≤ most) := hide (by omega)
  have hR5 : 1 ≤ R ∧ R ≤ 5 := by omega
  have hC5 : 1 ≤ C ∧ C ≤ 5 := by omega
  obtain rfl : x1 = R - 1 := by omega
  obtain rfl : x2 = C - 1 := by omega
  have k1 : 1 + ((R : Int) - 1) = R := by omega
  have k2 : 1 + ((C : Int) - 1) = C := by omega
  clear hR hC
  go_wp2_with fail
  refine (l02Empty_any R C _ hR5.2 hC5.2).mono ?_
  rintro e w3 ⟨v3, rfl, o3, b3⟩
  clear k1 k2
  obtain ⟨gv, cv, rfl⟩ := ownMat_some o3 (by rw [mkM_len]; omega)
  rw [mkM_len] at *
  have hs2 := HG2.out.size
  have B3 := hide ((grown_below HG2.out (fun k hk => by cases hk; exact Nat.le_refl B) (by omega) : Below B w w2).trans (b3.mono (by omega)))
  have C3 := hide (curAt_below HC2.out b3)
  have I3 := hide (inBytes_below HI2.out (b3.mono (by have := HI2.out.2.1; omega)))
  have O3 := hide (ownMat_mono o3 hs2 (Nat.le_refl _))
  have IM3 := hide (img_zero hR5 hC5)
  obtain ⟨hi, hhi⟩ : ∃ hi, hi = w3.heap.size := ⟨_, rfl⟩
  have hge : hi ≤ w3.heap.size := by omega
  rw [← hhi] at O3
  clear HG2 HC2 HI2 HC1 HI1 HG1 o3 b3 hhi
  go_wp2
  go_loopw [19] (fun i w' => ∃ (y : Nat) (f : Nat → Nat → Int), y ≤ R ∧ i = .int .i64 y ∧ Img R C f ∧ hi ≤ w'.heap.size ∧ OwnMat w' w.heap.size hi (.slice (some ⟨gv, 0, none⟩) R cv) (mkM R C f) ∧ CurAt w' B a n ∧ InBytes w' base a n ∧ Below B w w') (fun i _ => R - (intOf i).toNat)
  case atStart => exact ⟨0, zeroM, by omega, rfl, IM3.out, hge, O3.out, C3.out, I3.out, B3.out⟩
  case round =>
    clear B3 C3 I3 O3 IM3 hge
    obtain ⟨y, f, hy, rfl, him, hhi, hown, hcu, hib, hb⟩ := hrel
    have HM := hide him; have HO := hide hown; have HCu := hide hcu; have HIB := hide hib; have HB := hide hb
    clear him hown hcu hib hb
    by_cases hlt : y < R
    · have hyI : (y : Int) < R := by omega
      obtain ⟨g0, c0, hrow0, -⟩ := ownMat_cell HO.out y 0 hlt (by omega)
      go_wp2
      clear hrow0
      go_loopw [27] (fun i w' => ∃ (x : Nat) (f : Nat → Nat → Int), x ≤ C ∧ i = .int .i64 x ∧ Img R C f ∧ hi ≤ w'.heap.size ∧ OwnMat w' w.heap.size hi (.slice (some ⟨gv, 0, none⟩) R cv) (mkM R C f) ∧ CurAt w' B a n ∧ InBytes w' base a n ∧ Below B w w') (fun i _ => C - (intOf i).toNat)
      case atStart => exact ⟨0, f, by omega, rfl, HM.out, hhi, HO.out, HCu.out, HIB.out, HB.out⟩
      case round =>
        clear HM HO HCu HIB HB hhi f
        obtain ⟨x, f, hx, rfl, him, hhi, hown, hcu, hib, hb⟩ := hrel
        have HM := hide him; have HO := hide hown; have HCu := hide hcu; have HIB := hide hib; have HB := hide hb
        clear him hown hcu hib hb
        by_cases hlx : x < C
        · have hxI : (x : Int) < C := by omega
          obtain ⟨gr, cr, hrow, hcl, hfr, hlo, hgh, -⟩ := ownMat_cell HO.out y x hlt hlx
          have hgv : gv ≠ B := by
            obtain ⟨vs, hvs, -⟩ := HO.out
            have := (hvs.lt gv rfl).1; omega
          have HK : Hid (∀ w5, CurAt w5 B a n → wr.drew.grownBy w5 (some B) → w5.cell? ⟨gv, y, none⟩ = some (.slice (some ⟨gr, 0, none⟩) C cr) ∧ w5.cell? ⟨gr, x, none⟩ = some (.int .i64 (f y x)) ∧ w5.frozen? ⟨gr, x, none⟩ = false) := hide fun w5 hc hg => cells_kept hg hrow hcl hfr hgv (by omega)
          have hgg : gv ≠ gr := ownMat_apart HO.out y (by rw [mkM_len]; exact hlt) hrow
          have HCd : Hid (CurAt wr.drew B a n) := hide HCu.out
          have HId : Hid (InBytes wr.drew base a n) := hide HIB.out
          go_wp2
          go_region_held3 (fun w' => w'.cell? ⟨gv, y, none⟩ = some (.slice (some ⟨gr, 0, none⟩) C cr))
            (first | exact hrow | exact k1 | exact HKS.out)
            (first | (go_at_call 71; refine (l01Below_any B n a 2 _ base (by omega) (by omega) HCd.out HId.out hbase).mono ?_; rintro e w5 ⟨z, hz0, hz1, rfl, hc5, hg5⟩; obtain ⟨k1, k2, k3⟩ := HK.out w5 hc5 hg5; have HZ : Hid (z = 0 ∨ z = 1) := hide (by omega); have HKS : Hid ((w5.setCell ⟨gr, x, none⟩ (.int .i64 z)).cell? ⟨gv, y, none⟩ = some (.slice (some ⟨gr, 0, none⟩) C cr)) := hide (by rw [World.cell?_setCell_other _ _ _ _ (fun e => hgg (congrArg Addr.block e).symm)]; exact k1); replace hc5 := hide hc5; replace hg5 := hide hg5))
          go_wp2
          go_roundw
          case rel =>
            have hg := grown_undrew hg5.out
            have ho5 := ownMat_cur HO.out hg (by omega)
            obtain ⟨g7, c7, hrow7, -, -, -, -, hset⟩ := ownMat_cell ho5 y x hlt hlx
            rw [k1] at hrow7
            simp only [Option.some.injEq, Value.slice.injEq, Addr.mk.injEq] at hrow7
            obtain ⟨⟨rfl, -, -⟩, -, -⟩ := hrow7
            exact ⟨x + 1, _, by omega, by go_num, img_upd HM.out y x HZ.out, (by have := hg.size; simp [World.setCell]; omega), hset z, curAt_within hc5.out (heap_setCell_other _ _ _ _ (by show B ≠ gr; omega)), inBytes_below (inBytes_grown HIB.out hg hbase) ((Below.refl _ _).setCell (by show base ≤ gr; omega) _), (HB.out.trans (grown_below hg (fun k hk => by cases hk; exact Nat.le_refl _) (by have := curAt_lt HCu.out; omega))).setCell (by show B ≤ gr; omega) _⟩
          case measure => simp [intOf]; omega
        · obtain rfl : x = C := by omega
          go_wp2
          go_roundw
          case rel => exact ⟨y + 1, f, by omega, by go_num, HM.out, hhi, HO.out, HCu.out, HIB.out, HB.out⟩
          case measure => simp [intOf]; omega
    · obtain rfl : y = R := by omega
      go_wp2
      go_ret
      exact ⟨_, y, C, f, rfl, HM.out, HMOST.out, ownMat_mono HO.out (Nat.le_refl _) hhi, HCu.out, HB.out⟩

theorem l02Draw_any (B n : Nat) (a : Option Addr) (most : Nat) (w : World) (base : Nat) (hm0 : 1 ≤ most) (hm1 : most ≤ 5) (hc : CurAt w B a n) (hin : InBytes w base a n) (hbase : base ≤ B) :
    Calls Try.prog 69 #[.pointer (some ⟨B, 0, none⟩), .int .i64 most] w (DrawnImg w B a n) :=
  (l02Draw_most B n a most w base hm0 hm1 hc hin hbase).mono fun _ _ ⟨v, R, C, f, h1, h2, _, h3, h4, h5⟩ => ⟨v, R, C, f, h1, h2, h3, h4, h5⟩

/-- What the laws' makers answer: some image. -/
def MadeImg (w : World) (e : Ending) (w' : World) : Prop := ∃ (v : Value) (R C : Nat) (f : Nat → Nat → Int), e = .returned v ∧ Img R C f ∧ OwnMat w' w.heap.size w'.heap.size v (mkM R C f) ∧ Below w.heap.size w w'
set_option maxHeartbeats 400000 in
theorem makeImage_any (n c : Nat) (a : Option Addr) (m : Nat) (w : World) (base : Nat) (hin : InBytes w base a n) (hn : n ≤ 2000000) (hm : m ≤ 1000) :
    Calls Try.prog 43 #[.slice a n c, .int .i64 m, .int .i64 5] w (MadeImg w) := by
  have HI := hide hin
  clear hin
  go_enter Try.func43, Try.ntmps43
  go_wp2_with fail
  refine (l18New_any n c a m _ base HI.out hn hm).mono ?_
  rintro e w1 ⟨rfl, hc, hb, hlt⟩
  have HC := hide hc; have HB := hide hb; have hs1 := hb.size
  have HI1 := hide (inBytes_below HI.out (hb.mono HI.out.2.1))
  clear hc hb
  go_wp2_with fail
  refine (l02Draw_any _ n a 5 _ base (by omega) (by omega) HC.out HI1.out HI.out.2.1).mono ?_
  rintro e w2 ⟨v, R, C, f, rfl, him, ho, -, hb⟩
  have HIM := hide him; have HO := hide (ownMat_mono ho hs1 (Nat.le_refl _)); have HB2 := hide (HB.out.trans hb)
  clear him ho hb
  go_wp2
  go_ret
  exact ⟨v, R, C, f, rfl, HIM.out, HO.out, HB2.out⟩

/-- What MakeSized answers: an image of the size asked. -/
def SizedImg (R C : Nat) (w : World) (e : Ending) (w' : World) : Prop := ∃ (v : Value) (f : Nat → Nat → Int), e = .returned v ∧ Img R C f ∧ OwnMat w' w.heap.size w'.heap.size v (mkM R C f) ∧ Below w.heap.size w w'
end Go.Proofs.Ytcliiefedmiokaa
/-
  MakePair: two images that switches join.
-/
namespace Go.Proofs.Ytcliiefedmiokaa
open Go.RowKit
set_option maxRecDepth 100000

theorem small_num : ((List.range 625).filter fun i => decide (i / 125 ≤ 3 ∧ i / 25 % 5 ≤ 3 ∧ i / 5 % 5 ≤ 3 ∧ i % 5 ≤ 3)).length = 256 := by decide +kernel
theorem len_mono {α : Type} {p q : α → Bool} (h : ∀ x, p x = true → q x = true) : ∀ l : List α, (l.filter p).length ≤ (l.filter q).length
  | [] => Nat.le_refl _
  | x :: l => by
    have := len_mono h l
    cases hp : p x with
    | false =>
      cases hq : q x with
      | false => simpa [List.filter_cons, hp, hq] using this
      | true => simp only [List.filter_cons, hp, hq, if_true, List.length_cons, Bool.false_eq_true, if_false]; omega
    | true => simp only [List.filter_cons, hp, h x hp, if_true, List.length_cons]; omega
theorem sws_small {R C : Nat} {f : Nat → Nat → Int} (hI : Img R C f) (hR : R ≤ 4) (hC : C ≤ 4) : (swsM (mkM R C f)).length ≤ 256 := by
  unfold swsM upS
  rw [List.length_map, ← small_num]
  refine len_mono (fun i h => ?_) _
  obtain ⟨h1, h2, h3, h4⟩ := swB_dec hI h
  rw [decide_eq_true_eq]
  omega
theorem sameF_flipF {R C : Nat} {f g : Nat → Nat → Int} {s : Sw} (hI : Img R C g) (h : SameF R C f g) (hs : swF R C g s = true) : SameF R C f (flipF g s) := by
  obtain ⟨a, b, c, d, rfl, h4⟩ := swF_iff.1 hs
  exact sameF_trans h (sameF_symm (sameF_flip h4 hI))
/-- What MakePair answers. -/
def PairRes (w : World) (e : Ending) (w' : World) : Prop :=
  ∃ (v u : Value) (R C : Nat) (f g : Nat → Nat → Int), e = .returned (.tuple #[v, u]) ∧ Img R C f ∧ Img R C g ∧ SameF R C f g ∧ R ≤ 4 ∧ C ≤ 4 ∧ InMat w' v (mkM R C f) ∧ InMat w' u (mkM R C g) ∧ Below w.heap.size w w'
theorem ownSws_cur {w w' : World} {lo B : Nat} {v : Value} {l : List Sw} (h : OwnSws w lo v l) (hg : w.grownBy w' (some B)) (hB : B < lo) : OwnSws w' lo v l :=
  ownA_grown h hg fun k hk e => by cases hk; have := (h.lt _ e).1; omega
set_option maxHeartbeats 2000000 in
theorem makePair_any (n c : Nat) (a : Option Addr) (w : World) (hin : InBytes w w.heap.size a n) :
    Calls Try.prog 28 #[.slice a n c] w (PairRes w) := by
  have HI := hide hin
  clear hin
  go_enter Try.func28, Try.ntmps28
  go_wp2_with fail
  refine (l01New_big n c a _ _ HI.out).mono ?_
  rintro e w1 ⟨rfl, hc, hb, hlt⟩
  obtain ⟨B, hB⟩ : ∃ B, w.heap.size = B := ⟨_, rfl⟩
  rw [hB] at hc hb hlt HI ⊢
  have HC := hide hc; have HB := hide hb; have HI1 := hide (inBytes_below HI.out hb)
  have HW := hide hB
  clear hc hb hB HI
  go_wp2_with fail
  refine (l02Draw_most B n a 4 _ B (by omega) (by omega) HC.out HI1.out (Nat.le_refl _)).mono ?_
  rintro e w2 ⟨v, R, C, f, rfl, him, ⟨hR, hC⟩, ho, hc, hb⟩
  have hsz := hb.size
  have HC2 := hide hc; have HB2 := hide (HB.out.trans hb); have HI2 := hide (inBytes_below HI1.out hb); have HIM := hide him
  have HV := hide (ownMat_mono ho (show B + 1 ≤ w1.heap.size from hlt) (Nat.le_refl _))
  clear hc hb ho HC HB HI1
  go_wp2_with fail
  refine (l02Copy_any v R C f _ (inMat_own HV.out) HIM.out).mono ?_
  rintro e w3 ⟨u, rfl, hu, hb⟩
  have hsz3 := hb.size
  have HC3 := hide (curAt_below HC2.out hb); have HB3 := hide (HB2.out.trans (hb.mono (by omega))); have HI3 := hide (inBytes_below HI2.out (hb.mono HI2.out.2.1))
  have HV3 := hide (ownMat_mono (ownMat_below HV.out hb) (Nat.le_refl _) hsz3)
  have HU := hide (ownMat_mono hu (show B + 1 ≤ w2.heap.size by omega) (Nat.le_refl _))
  clear hu hb HC2 HB2 HI2 HV
  go_wp2_with fail
  refine (l01Below_any B n a 6 _ B (by omega) (by omega) HC3.out HI3.out (Nat.le_refl _)).mono ?_
  rintro e w4 ⟨x, hx0, hx1, rfl, hc, hg⟩
  obtain ⟨k0, rfl⟩ : ∃ k : Nat, x = k := ⟨x.toNat, by omega⟩
  have hk0 : k0 ≤ 5 := by omega
  have hz4 := hg.size
  have HC4 := hide hc; have HI4 := hide (inBytes_grown HI3.out hg (Nat.le_refl _))
  have HV4 := hide (ownMat_mono (ownMat_cur HV3.out hg (Nat.lt_succ_self _)) (Nat.le_refl _) hz4); have HU4 := hide (ownMat_mono (ownMat_cur HU.out hg (Nat.lt_succ_self _)) (Nat.le_refl _) hz4)
  have HB4 := hide (HB3.out.trans (grown_below hg (fun k hk => by cases hk; exact Nat.le_refl _) (by omega)))
  have HSF : Hid (SameF R C f f) := hide ⟨fun _ _ => rfl, fun _ _ => rfl⟩
  have hB4 : B < w4.heap.size := by omega
  clear hc hg hx0 hx1 HC3 HI3 HV3 HU HB3
  go_wp2
  go_loopw [6, 7] (fun y t w' => ∃ (k : Nat) (g : Nat → Nat → Int) (u : Value), k ≤ 5 ∧ t = .int .i64 k ∧ u = y ∧ Img R C g ∧ SameF R C f g ∧ B < w'.heap.size ∧ OwnMat w' (B + 1) w'.heap.size u (mkM R C g) ∧ OwnMat w' (B + 1) w'.heap.size v (mkM R C f) ∧ CurAt w' B a n ∧ InBytes w' B a n ∧ Below B w w') (fun _ t _ => (intOf t).toNat)
  case atStart => exact ⟨k0, f, _, hk0, rfl, rfl, HIM.out, HSF.out, hB4, HU4.out, HV4.out, HC4.out, HI4.out, HB4.out⟩
  case round =>
    clear HC4 HI4 HV4 HU4 HB4 HSF hB4 hk0 hz4 hsz hsz3 hlt
    obtain ⟨k, g, u, hk, rfl, rfl, hig, hsf, hlt, ho, hv, hc, hi, hb⟩ := hrel
    have HIG := hide hig; have HSF := hide hsf; have HU := hide ho; have HV := hide hv; have HC := hide hc; have HI := hide hi; have HB := hide hb
    clear hig hsf ho hv hc hi hb
    cases k with
    | zero =>
      go_wp2
      go_ret2
      exact ⟨_, _, R, C, f, g, rfl, HIM.out, HIG.out, HSF.out, hR, hC, inMat_own HV.out, inMat_own HU.out, by rw [HW.out]; exact HB.out⟩
    | succ k =>
      have hkI : (0 : Int) < (k : Int) + 1 := by omega
      go_wp2_with fail
      refine (specSwitches_node _ _ (inMat_own HU.out) ⟨g, rfl, HIG.out⟩).mono ?_
      rintro e w6 ⟨sv, rfl, hsv, hb⟩
      have hz6 := hb.size
      obtain ⟨asl, cs, rfl⟩ := ownA_slice hsv
      have HU6 := hide (ownMat_mono (ownMat_below HU.out hb) (Nat.le_refl _) hz6); have HV6 := hide (ownMat_mono (ownMat_below HV.out hb) (Nat.le_refl _) hz6); have HC6 := hide (curAt_below HC.out hb); have HI6 := hide (inBytes_below HI.out (hb.mono HI.out.2.1)); have HB6 := hide (HB.out.trans (hb.mono (by omega)))
      have HSV := hide (ownSws_base hsv (show B + 1 ≤ wr.heap.size from hlt))
      have HSM := hide (sws_small HIG.out hR hC)
      have HAT := hide fun j (h : j < (swsM (mkM R C g)).length) => sws_at ⟨g, rfl, HIG.out⟩ h
      obtain ⟨S, hS⟩ : ∃ S, S = swsM (mkM R C g) := ⟨_, rfl⟩
      rw [← hS] at HSV HSM HAT ⊢
      obtain ⟨N, hN⟩ : ∃ N, N = S.length := ⟨_, rfl⟩
      have HN := hide hN
      rw [← hN] at HSM HAT HSV ⊢
      have hN256 := HSM.out
      clear hsv hb HC HI HU HV HB HSM hS hN
      cases N with
      | zero =>
        go_wp2
        go_roundw
        case rel => exact ⟨k, g, u, by omega, by go_num, rfl, HIG.out, HSF.out, by omega, HU6.out, HV6.out, HC6.out, HI6.out, HB6.out⟩
        case measure => simp [intOf]
      | succ N =>
        have hNI : (0 : Int) < (N : Int) + 1 := by omega
        obtain ⟨gs, cs2, e, -, hgs, -⟩ := ownA_some HSV.out (by rw [← HN.out]; omega)
        injection e with e1 e2 e3
        subst e1
        clear e2 e3
        go_wp2_with fail
        refine (l01Below_any B n a ((N + 1 : Nat) : Int) _ B (by omega) (by omega) HC6.out HI6.out (Nat.le_refl _)).mono ?_
        rintro e w7 ⟨x, hx0, hx1, rfl, hc, hg⟩
        obtain ⟨j, rfl⟩ : ∃ j : Nat, x = j := ⟨x.toNat, by omega⟩
        have hj : j < N + 1 := by omega
        have hjI : (j : Int) < (N : Int) + 1 := by omega
        have hz7 := hg.size
        have HSB := hide (HAT.out j hj)
        have hsc := sws_cell (ownSws_cur HSV.out hg (Nat.lt_succ_self _)) j (by rw [← HN.out]; exact hj)
        obtain ⟨s, hs⟩ : ∃ s, s = S.getD j zeroSw := ⟨_, rfl⟩
        rw [← hs] at HSB hsc
        have HU7 := hide (ownMat_mono (ownMat_cur HU6.out hg (Nat.lt_succ_self _)) (Nat.le_refl _) hz7); have HV7 := hide (ownMat_mono (ownMat_cur HV6.out hg (Nat.lt_succ_self _)) (Nat.le_refl _) hz7)
        have HC7 := hide hc; have HI7 := hide (inBytes_grown HI6.out hg (Nat.le_refl _)); have HB7 := hide (HB6.out.trans (grown_below hg (fun k hk => by cases hk; exact Nat.le_refl _) (by omega)))
        clear hc hg hx0 hx1 hs HU6 HV6 HC6 HI6 HB6 HAT HSV
        go_wp2_with (with_reducible refine wpList_loadSwC hsc 33 rfl rfl _ rfl rfl ?_)
        refine (specApply_node _ _ (inMat_own HU7.out) ⟨g, rfl, HIG.out⟩ HSB.out).mono ?_
        rintro e w8 ⟨y, rfl, hy, hb⟩
        have hz8 := hb.size
        have hsb := HSB.out
        rw [swB_mk HIG.out] at hsb
        rw [flipM_mk HIG.out] at hy
        have HY := hide (ownMat_mono hy (show B + 1 ≤ w7.heap.size by omega) (Nat.le_refl _)); have HFS := hide hsb
        have HV8 := hide (ownMat_mono (ownMat_below HV7.out hb) (Nat.le_refl _) hz8); have HC8 := hide (curAt_below HC7.out hb); have HI8 := hide (inBytes_below HI7.out (hb.mono HI7.out.2.1)); have HB8 := hide (HB7.out.trans (hb.mono (by omega)))
        clear hy hb hsb hsc
        go_wp2
        go_roundw
        case rel => exact ⟨k, flipF g s, y, by omega, by go_num, rfl, flipF_img HIG.out s, sameF_flipF HIG.out HSF.out HFS.out, by omega, HY.out, HV8.out, HC8.out, HI8.out, HB8.out⟩
        case measure => simp [intOf]
end Go.Proofs.Ytcliiefedmiokaa
/-
  The helpers of the laws that are no exact ones: same, alike.
-/
namespace Go.Proofs.Ytcliiefedmiokaa
open Go.RowKit
set_option maxHeartbeats 1000000 in
theorem same_any (va vb : Value) (r s : List Int) (w : World) (ha : InRow w va r) (hb : InRow w vb s) :
    Calls Try.prog 47 #[va, vb] w fun e w' => e = .returned (.bool (r == s)) ∧ w = w' := by
  obtain ⟨a, ca, rfl, hma, hpa⟩ := ha
  obtain ⟨b, cb, rfl, hmb, hpb⟩ := hb
  unfold maxLen at hma hmb
  by_cases hlen : r.length = s.length
  · by_cases h0 : r.length = 0
    · have hr : r = [] := List.eq_nil_of_length_eq_zero h0
      have hs : s = [] := List.eq_nil_of_length_eq_zero (by omega)
      subst hr; subst hs
      clear hpa hpb hma hmb hlen h0
      go_enter Try.func47, Try.ntmps47
      go_wp2
      go_loop [14] (fun i => i = .int .i64 0) (fun _ => 0)
      case atStart => rfl
      case round =>
        obtain rfl := hrel
        go_wp2
        go_ret
        exact ⟨rfl, rfl⟩
    · obtain ⟨ga, oa, rfl, -, hca⟩ := hpa.resolve_left h0
      obtain ⟨gb, ob, rfl, -, hcb⟩ := hpb.resolve_left (by omega)
      have HA := hide hca; have HB := hide hcb; have HL := hide hlen
      obtain ⟨n, hn⟩ : ∃ n, n = r.length := ⟨_, rfl⟩
      have HN := hide hn
      have HM : Hid (s.length = n) := hide (by omega)
      rw [← hlen, ← hn]
      rw [← hn] at hma
      clear hpa hpb hca hcb h0 hmb hlen hn
      go_enter Try.func47, Try.ntmps47
      go_wp2
      go_loop [14] (fun i => ∃ k : Nat, k ≤ n ∧ i = .int .i64 k ∧ ∀ t, (h1 : t < r.length) → (h2 : t < s.length) → t < k → r[t] = s[t]) (fun i => n - (intOf i).toNat)
      case atStart => exact ⟨0, Nat.zero_le _, rfl, fun t _ _ h => absurd h (Nat.not_lt_zero _)⟩
      case round =>
        obtain ⟨k, hk, rfl, hall⟩ := hrel
        have HH := hide hall
        clear hall
        by_cases hlt : k < n
        · have hkr : k < r.length := by rw [← HN.out]; exact hlt
          have hks : k < s.length := by rw [HM.out]; exact hlt
          have hxa := HA.out k hkr
          have hxb := HB.out k hks
          have HNO := hide (fun h => sameRow_no2 k hkr hks h)
          have HST : Hid (r[k] = s[k] → ∀ t, (h1 : t < r.length) → (h2 : t < s.length) → t < k + 1 → r[t] = s[t]) := hide fun h t h1 h2 ht => by
            by_cases e : t = k
            · subst e; exact h
            · exact HH.out t h1 h2 (by omega)
          obtain ⟨x, hx⟩ : ∃ x, x = r[k] := ⟨_, rfl⟩
          obtain ⟨y, hy⟩ : ∃ y, y = s[k] := ⟨_, rfl⟩
          rw [← hx, ← hy] at HNO HST
          rw [← hx] at hxa
          rw [← hy] at hxb
          clear hx hy
          by_cases e : x = y
          · subst e
            have HST := hide (HST.out rfl)
            go_wp2
            go_round
            case rel => exact ⟨k + 1, by omega, by go_num, HST.out⟩
            case measure => simp [intOf]; omega
          · have HF := hide (HNO.out e)
            have hne : (x == y) = false := by simpa using e
            have hne2 : (x != y) = true := by simpa using e
            clear e
            go_wp2
            go_ret
            exact ⟨ret_bool HF.out.symm, rfl⟩
        · have HY := hide (sameRow_yes HL.out fun t h1 h2 => HH.out t h1 h2 (by have := HN.out; omega))
          go_wp2
          go_ret
          exact ⟨ret_bool HY.out.symm, rfl⟩
  · have HF := hide (sameRow_no hlen)
    obtain ⟨n, hn⟩ : ∃ n, n = r.length := ⟨_, rfl⟩
    obtain ⟨k, hk⟩ : ∃ k, k = s.length := ⟨_, rfl⟩
    rw [← hn, ← hk] at hlen ⊢
    rw [← hn] at hma
    rw [← hk] at hmb
    have hne : ((n : Int) == (k : Int)) = false := by simp; omega
    have hne2 : ((n : Int) != (k : Int)) = true := by simp; omega
    clear hpa hpb hn hk hlen
    go_enter Try.func47, Try.ntmps47
    go_wp2
    go_ret
    exact ⟨ret_bool HF.out.symm, rfl⟩


set_option maxHeartbeats 1000000 in
theorem alike_any (va vb : Value) (m l : List (List Int)) (w : World) (ha : InMat w va m) (hb : InMat w vb l) :
    Calls Try.prog 34 #[va, vb] w fun e w' => e = .returned (.bool (m == l)) ∧ Below w.heap.size w w' := by
  obtain ⟨a, ca, rfl, hma, hpa⟩ := ha
  obtain ⟨b, cb, rfl, hmb, hpb⟩ := hb
  unfold maxLen at hma hmb
  by_cases hlen : m.length = l.length
  · by_cases h0 : m.length = 0
    · have hr : m = [] := List.eq_nil_of_length_eq_zero h0
      have hs : l = [] := List.eq_nil_of_length_eq_zero (by omega)
      subst hr; subst hs
      clear hpa hpb hma hmb hlen h0
      go_enter Try.func34, Try.ntmps34
      go_wp2
      go_loop [14] (fun i => i = .int .i64 0) (fun _ => 0)
      case atStart => rfl
      case round =>
        obtain rfl := hrel
        go_wp2
        go_ret
        exact ⟨rfl, Below.refl _ _⟩
    · obtain ⟨ga, oa, rfl, hga, hca⟩ := hpa.resolve_left h0
      obtain ⟨gb, ob, rfl, hgb, hcb⟩ := hpb.resolve_left (by omega)
      have HA := hide hca; have HB := hide hcb; have HL := hide hlen
      obtain ⟨n, hn⟩ : ∃ n, n = m.length := ⟨_, rfl⟩
      have HN := hide hn
      have HM : Hid (l.length = n) := hide (by omega)
      rw [← hlen, ← hn]
      rw [← hn] at hma
      clear hpa hpb hca hcb h0 hmb hlen hn
      go_enter Try.func34, Try.ntmps34
      go_wp2
      go_loopw [14] (fun i w' => ∃ k : Nat, k ≤ n ∧ i = .int .i64 k ∧ (∀ t, (h1 : t < m.length) → (h2 : t < l.length) → t < k → (m[t] == l[t]) = true) ∧ Below w.heap.size w w') (fun i _ => n - (intOf i).toNat)
      case atStart => exact ⟨0, Nat.zero_le _, rfl, fun t _ _ h => absurd h (Nat.not_lt_zero _), Below.refl _ _⟩
      case round =>
        obtain ⟨k, hk, rfl, hall, hbb⟩ := hrel
        have HH := hide hall; have HBB := hide hbb
        clear hall hbb
        by_cases hlt : k < n
        · have hkr : k < m.length := by rw [← HN.out]; exact hlt
          have hks : k < l.length := by rw [HM.out]; exact hlt
          obtain ⟨ua, hxa, hra⟩ := HA.out k hkr
          obtain ⟨ub, hxb, hrb⟩ := HB.out k hks
          have hxa := below_cell HBB.out hga hxa
          have hxb := below_cell HBB.out hgb hxb
          have HRA := hide (inRow_below hra HBB.out)
          have HRB := hide (inRow_below hrb HBB.out)
          have HNO := hide (fun h => sameMat_no2 k hkr hks h)
          have HST : Hid ((m[k] == l[k]) = true → ∀ t, (h1 : t < m.length) → (h2 : t < l.length) → t < k + 1 → (m[t] == l[t]) = true) := hide fun h t h1 h2 ht => by
            by_cases e : t = k
            · subst e; exact h
            · exact HH.out t h1 h2 (by omega)
          clear hra hrb
          cases e : (m[k] == l[k]) with
          | true =>
            have HE := hide e
            have HST := hide (HST.out e)
            clear e
            go_wp2_with (go_at_call 47; refine (same_any _ _ _ _ _ HRA.out HRB.out).mono ?_; rw [HE.out]; rintro e w9 ⟨rfl, rfl⟩)
            go_roundw
            case rel => exact ⟨k + 1, by omega, by go_num, HST.out, HBB.out⟩
            case measure => simp [intOf]; omega
          | false =>
            have HE := hide e
            have HF := hide (HNO.out e)
            clear e
            go_wp2_with (go_at_call 47; refine (same_any _ _ _ _ _ HRA.out HRB.out).mono ?_; rw [HE.out]; rintro e w9 ⟨rfl, rfl⟩)
            go_ret
            exact ⟨ret_bool HF.out.symm, HBB.out⟩
        · have HY := hide (sameMat_yes HL.out fun t h1 h2 => HH.out t h1 h2 (by have := HN.out; omega))
          go_wp2
          go_ret
          exact ⟨ret_bool HY.out.symm, HBB.out⟩
  · have HF := hide (sameMat_no hlen)
    obtain ⟨n, hn⟩ : ∃ n, n = m.length := ⟨_, rfl⟩
    obtain ⟨k, hk⟩ : ∃ k, k = l.length := ⟨_, rfl⟩
    rw [← hn, ← hk] at hlen ⊢
    rw [← hn] at hma
    rw [← hk] at hmb
    have hne : ((n : Int) == (k : Int)) = false := by simp; omega
    have hne2 : ((n : Int) != (k : Int)) = true := by simp; omega
    clear hpa hpb hn hk hlen
    go_enter Try.func34, Try.ntmps34
    go_wp2
    go_ret
    exact ⟨ret_bool HF.out.symm, Below.refl _ _⟩

theorem alike_yes (va vb : Value) (m : List (List Int)) (w : World) (ha : InMat w va m) (hb : InMat w vb m) :
    Calls Try.prog 34 #[va, vb] w fun e w' => e = .returned (.bool true) ∧ Below w.heap.size w w' := by
  have h := alike_any va vb m m w ha hb
  rw [beq_self_eq_true] at h; exact h
end Go.Proofs.Ytcliiefedmiokaa
/-
  What FnPaths meets: paths between two images with the same sums.
-/
namespace Go.Proofs.Ytcliiefedmiokaa
open Go.RowKit
set_option maxRecDepth 100000

theorem sameB_of {R C : Nat} {f g : Nat → Nat → Int} (hI : Img R C f) (hJ : Img R C g) (hs : SameF R C f g) : sameB (mkM R C f) (mkM R C g) = true := by
  rw [sameB_mk hI hJ, if_pos ⟨rfl, rfl⟩]
  unfold sameL
  rw [Bool.and_eq_true, beq_iff_eq, beq_iff_eq]
  refine ⟨rowF_congr fun y hy => by rw [hs.1 y hy], rowF_congr fun x hx => ?_⟩
  have := hs.2 x hx
  show ((rs R (trM f) x : Nat) : Int) = rs R (trM g) x
  exact congrArg Int.ofNat this
theorem pathB_of {R C : Nat} {f g : Nat → Nat → Int} (hI : Img R C f) (hJ : Img R C g) (hs : SameF R C f g) (hR : R ≤ 4) (hC : C ≤ 4) : pathB (mkM R C f) (mkM R C g) = true := by
  unfold pathB
  rw [sameB_of hI hJ hs, mkM_len, width_mk hI, decide_eq_true hR, decide_eq_true hC]; rfl
theorem best_exists {m t : List (List Int)} : ∀ (n : Nat) (q : List Sw), val q = n → goM m q = some t → ∃ p, Best m t p := by
  intro n
  induction n using Nat.strongRecOn with
  | ind n ih =>
    intro q hn hq
    by_cases h : ∀ p, goM m p = some t → val q ≤ val p
    · exact ⟨q, hq, h⟩
    · obtain ⟨p, hp⟩ := Classical.not_forall.1 h
      obtain ⟨h1, h2⟩ := Classical.not_imp.1 hp
      exact ih (val p) (by omega) p rfl h1
section
variable {R C : Nat} {f g : Nat → Nat → Int}
theorem pathL_best (hI : Img R C f) (hJ : Img R C g) (hs : SameF R C f g) (hR : R ≤ 4) (hC : C ≤ 4) : Best (mkM R C f) (mkM R C g) (pathL (mkM R C f) (mkM R C g)) := by
  obtain ⟨q, hq, -⟩ := joined _ f g (Nat.le_refl _) hI hJ hs
  obtain ⟨p, hp⟩ := best_exists _ q rfl hq
  have hb := pathB_of hI hJ hs hR hC
  have : PathOf (mkM R C f) (mkM R C g) p := ⟨fun _ => hp, fun e => by rw [hb] at e; cases e⟩
  rw [← path_one this]; exact hp
theorem pathL_lens (hI : Img R C f) (hJ : Img R C g) (hs : SameF R C f g) (hR : R ≤ 4) (hC : C ≤ 4) : 2 * (pathL (mkM R C f) (mkM R C g)).length ≤ diff R C f g ∧ diff R C f g ≤ 4 * (pathL (mkM R C f) (mkM R C g)).length := by
  have hb := pathL_best hI hJ hs hR hC
  obtain ⟨q, hq, hl⟩ := joined _ f g (Nat.le_refl _) hI hJ hs
  have h1 := best_len ⟨f, rfl, hI⟩ hb hq
  exact ⟨by omega, (path_far _ f g hI hJ hb.1).1⟩
theorem pathL_back (hI : Img R C f) (hJ : Img R C g) (hs : SameF R C f g) (hR : R ≤ 4) (hC : C ≤ 4) : (pathL (mkM R C g) (mkM R C f)).length = (pathL (mkM R C f) (mkM R C g)).length := by
  have h1 := pathL_best hI hJ hs hR hC
  have h2 := pathL_best hJ hI (sameF_symm hs) hR hC
  have e1 := best_len ⟨g, rfl, hJ⟩ h2 (goM_rev ⟨f, rfl, hI⟩ h1.1)
  have e2 := best_len ⟨f, rfl, hI⟩ h1 (goM_rev ⟨g, rfl, hJ⟩ h2.1)
  rw [List.length_reverse] at e1 e2
  omega
theorem pathL_tail {s : Sw} {r : List Sw} (hI : Img R C f) (hJ : Img R C g) (hs : SameF R C f g) (hR : R ≤ 4) (hC : C ≤ 4) (h : pathL (mkM R C f) (mkM R C g) = s :: r) :
    swB (mkM R C f) s = true ∧ Img R C (flipF f s) ∧ SameF R C (flipF f s) g ∧ flipM (mkM R C f) s = mkM R C (flipF f s) ∧ pathL (mkM R C (flipF f s)) (mkM R C g) = r := by
  have hb := pathL_best hI hJ hs hR hC
  rw [h] at hb
  obtain ⟨h1, h2⟩ := best_tail ⟨f, rfl, hI⟩ hb
  have h3 := h1
  rw [swB_mk hI] at h3
  have hs2 : SameF R C (flipF f s) g := sameF_symm (sameF_flipF hI (sameF_symm hs) h3)
  have hI2 := flipF_img hI s
  refine ⟨h1, hI2, hs2, flipM_mk hI s, ?_⟩
  rw [flipM_mk hI s] at h2
  exact best_one ⟨_, rfl, hI2⟩ (pathL_best hI2 hJ hs2 hR hC) h2
theorem pathL_nil (hI : Img R C f) (hJ : Img R C g) (hs : SameF R C f g) (hR : R ≤ 4) (hC : C ≤ 4) (h : pathL (mkM R C f) (mkM R C g) = []) : mkM R C f = mkM R C g := by
  have hb := (pathL_best hI hJ hs hR hC).1
  rw [h] at hb
  exact Option.some.inj hb
theorem nextTo_yes {s : Sw} {r : List Sw} (v u : Value) (m l : List (List Int)) (w : World) (hin : InMat w v m) (hin2 : InMat w u l) (h : pathL m l = s :: r) :
    Calls Try.prog 31 #[v, u] w fun e w' => e = .returned (.tuple #[swV s, .bool true]) ∧ Below w.heap.size w w' := by
  refine (implNext_l v u m l w hin hin2).mono fun e w' h2 => ?_
  unfold NextAns at h2
  rw [h] at h2; exact h2
theorem nextTo_no (v u : Value) (m l : List (List Int)) (w : World) (hin : InMat w v m) (hin2 : InMat w u l) (h : pathL m l = []) :
    Calls Try.prog 31 #[v, u] w fun e w' => e = .returned (.tuple #[swV zeroSw, .bool false]) ∧ Below w.heap.size w w' := by
  refine (implNext_l v u m l w hin hin2).mono fun e w' h2 => ?_
  unfold NextAns at h2
  rw [h] at h2; exact h2
theorem pathTo_yes {P : List Sw} (v u : Value) (m l : List (List Int)) (w : World) (hin : InMat w v m) (hin2 : InMat w u l) (hb : pathB m l = true) (h : pathL m l = P) :
    Calls Try.prog 29 #[v, u] w fun e w' => ∃ a c, e = .returned (.tuple #[.slice a P.length c, .bool true]) ∧ OwnSws w' w.heap.size (.slice a P.length c) P ∧ Below w.heap.size w w' := by
  refine (implPath_l v u m l w hin hin2).mono fun e w' ⟨p, h1, h2, h3⟩ => ?_
  rw [hb] at h1
  rw [h] at h2
  obtain ⟨a, c, rfl⟩ := ownA_slice h2
  exact ⟨a, c, h1, h2, h3⟩
theorem applySw_yes {s : Sw} (v : Value) (hI : Img R C f) (w : World) (hin : InMat w v (mkM R C f)) (hs : swB (mkM R C f) s = true) :
    Calls Try.prog 32 #[v, swV s] w fun e w' => ∃ y, e = .returned (.tuple #[y, .bool true]) ∧ InMat w' y (mkM R C (flipF f s)) ∧ Below w.heap.size w w' := by
  refine (implApplySwitch_any v (mkM R C f) s w hin).mono fun e w' ⟨y, h1, h2, h3⟩ => ?_
  have hg : goM (mkM R C f) [s] = some (mkM R C (flipF f s)) := by simp [goM, hs, flipM_mk hI]
  unfold appRowsB at h2
  unfold appOkB at h1
  obtain ⟨e1, e2⟩ := app_some (m := mkM R C f) (l := [s]) (by simp) hg
  rw [img_ok hI, e2] at h1
  rw [if_pos (img_ok hI), e1] at h2
  exact ⟨y, h1, inMat_own h2, h3⟩
theorem applyAll_yes {P : List Sw} {t : List (List Int)} (v lv : Value) (hI : Img R C f) (w : World) (hin : InMat w v (mkM R C f)) (hl : InSws w lv P) (hP : P.length ≤ 60) (hg : goM (mkM R C f) P = some t) :
    Calls Try.prog 33 #[v, lv] w fun e w' => ∃ y, e = .returned (.tuple #[y, .bool true]) ∧ InMat w' y t ∧ Below w.heap.size w w' := by
  refine (implApplyAll_any v lv (mkM R C f) P w hin hl).mono fun e w' ⟨y, h1, h2, h3⟩ => ?_
  unfold appRowsB at h2
  unfold appOkB at h1
  obtain ⟨e1, e2⟩ := app_some hP hg
  rw [img_ok hI, e2] at h1
  rw [if_pos (img_ok hI), e1] at h2
  exact ⟨y, h1, inMat_own h2, h3⟩
theorem dist_yes (v u : Value) (hI : Img R C f) (hJ : Img R C g) (w : World) (hin : InMat w v (mkM R C f)) (hin2 : InMat w u (mkM R C g)) :
    Calls Try.prog 30 #[v, u] w fun e w' => e = .returned (.int .i64 (diff R C f g : Nat)) ∧ Below w.heap.size w w' := by
  have := implDistanceOf_yes v u R C R C f g w hin hin2 hI hJ
  rw [if_pos ⟨rfl, rfl⟩] at this
  exact this
theorem sameSums_yes (v u : Value) (hI : Img R C f) (hJ : Img R C g) (hs : SameF R C f g) (w : World) (hin : InMat w v (mkM R C f)) (hin2 : InMat w u (mkM R C g)) :
    Calls Try.prog 27 #[v, u] w fun e w' => e = .returned (.bool true) ∧ Below w.heap.size w w' := by
  have := implSameB_any v u _ _ w hin hin2
  rw [sameB_of hI hJ hs] at this; exact this
end
end Go.Proofs.Ytcliiefedmiokaa
