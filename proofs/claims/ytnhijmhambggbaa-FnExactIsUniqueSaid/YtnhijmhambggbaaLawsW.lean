/-
  The exact laws on IsUnique, SwitchesOf, ApplyAll, walked.
-/
import Derived.Test.YtnhijmhambggbaaAppS
import Derived.Test.YtnhijmhambggbaaOwnS
namespace Go.Proofs.Ytnhijmhambggbaa
open Go.RowKit
set_option linter.unusedVariables false

set_option maxRecDepth 100000 in
set_option maxHeartbeats 1000000 in
theorem lawIsUnique_walk (a : Option Addr) (n c : Nat) (m : List (List Int)) (w : World) (hin : InMat w (.slice a n c) m) :
    Calls Try.prog 8 #[.slice a n c] w fun e w' => e = .returned (.bool true) ∧ Below w.heap.size w w' := by
  have HI := hide hin
  clear hin
  go_enter Try.func8, Try.ntmps8
  have HB := hide (Below.refl w.heap.size w)
  go_wp2_with fail
  refine (szIntSS_any _ m 1048576 _ (by omega) HI.out).mono ?_
  rintro e w1 ⟨r, rfl, hr, hb⟩
  have hs1 := hb.size
  replace HB := hide (HB.out.trans (hb.mono HB.out.size))
  clear hb
  rcases hr with rfl | ⟨hsz, rfl⟩
  · go_wp2
    go_ret
    exact ⟨rfl, HB.out⟩
  · go_wp2_with fail
    refine (toIntSS_any _ m _ (by omega) (inMat_below HI.out HB.out)).mono ?_
    rintro e w2 ⟨v1, rfl, hv, hb⟩
    have hs2 := hb.size
    replace HB := hide (HB.out.trans (hb.mono HB.out.size))
    have HV1 := hide (hv)
    clear hb
    clear hv
    go_wp2_with fail
    refine (specIsUnique_any v1 m _ (inMat_own HV1.out)).mono ?_
    rintro e w3 ⟨rfl, hb⟩
    have hs3 := hb.size
    replace HV1 := hide (ownMat_below HV1.out hb)
    replace HB := hide (HB.out.trans (hb.mono HB.out.size))
    clear hb
    go_wp2_with fail
    refine (toIntSS_any _ m _ (by omega) (inMat_below HI.out HB.out)).mono ?_
    rintro e w4 ⟨v2, rfl, hv, hb⟩
    have hs4 := hb.size
    replace HV1 := hide (ownMat_below HV1.out hb)
    replace HB := hide (HB.out.trans (hb.mono HB.out.size))
    have HV2 := hide (hv)
    clear hb
    clear hv
    go_wp2_with fail
    refine (implIsUnique_any v2 m _ (inMat_own HV2.out)).mono ?_
    rintro e w5 ⟨rfl, hb⟩
    have hs5 := hb.size
    replace HV1 := hide (ownMat_below HV1.out hb)
    replace HV2 := hide (ownMat_below HV2.out hb)
    replace HB := hide (HB.out.trans (hb.mono HB.out.size))
    clear hb
    go_wp2_with fail
    refine (toIntSS_any _ m _ (by omega) (inMat_below HI.out HB.out)).mono ?_
    rintro e w6 ⟨v3, rfl, hv, hb⟩
    have hs6 := hb.size
    replace HV1 := hide (ownMat_below HV1.out hb)
    replace HV2 := hide (ownMat_below HV2.out hb)
    replace HB := hide (HB.out.trans (hb.mono HB.out.size))
    have HV3 := hide (hv)
    clear hb
    clear hv
    go_wp2_with fail
    refine (eqIntSS_same v2 v3 m _ (inMat_own HV2.out) (inMat_own HV3.out)).mono ?_
    rintro e w7 ⟨rfl, hb⟩
    have hs7 := hb.size
    replace HV1 := hide (ownMat_below HV1.out hb)
    replace HV2 := hide (ownMat_below HV2.out hb)
    replace HV3 := hide (ownMat_below HV3.out hb)
    replace HB := hide (HB.out.trans (hb.mono HB.out.size))
    clear hb
    go_wp2
    go_ret
    exact ⟨rfl, HB.out⟩

theorem swsOf_len (m : List (List Int)) : (swsOf m).length ≤ 625 := by
  unfold swsOf
  split
  · exact upS_len m 625
  · exact Nat.zero_le _
set_option maxRecDepth 100000 in
set_option maxHeartbeats 2000000 in
theorem lawSwitchesOf_walk (a : Option Addr) (n c : Nat) (m : List (List Int)) (w : World) (hin : InMat w (.slice a n c) m) :
    Calls Try.prog 6 #[.slice a n c] w fun e w' => e = .returned (.bool true) ∧ Below w.heap.size w w' := by
  have HLL := hide (swsOf_len m)
  obtain ⟨l, hl⟩ : ∃ l, l = swsOf m := ⟨_, rfl⟩
  have HS := hide fun v w h => specSwitchesOf_any v m w h
  have HM := hide fun v w h => implSwitchesOf_any v m w h
  rw [← hl] at HLL HS HM
  clear hl
  have HI := hide hin
  clear hin
  go_enter Try.func6, Try.ntmps6
  have HB := hide (Below.refl w.heap.size w)
  go_wp2_with fail
  refine (szIntSS_any _ m 1048576 _ (by omega) HI.out).mono ?_
  rintro e w1 ⟨r, rfl, hr, hb⟩
  have hs1 := hb.size
  replace HB := hide (HB.out.trans (hb.mono HB.out.size))
  clear hb
  rcases hr with rfl | ⟨hsz, rfl⟩
  · go_wp2
    go_ret
    exact ⟨rfl, HB.out⟩
  · go_wp2_with fail
    refine (toIntSS_any _ m _ (by omega) (inMat_below HI.out HB.out)).mono ?_
    rintro e w2 ⟨v1, rfl, hv, hb⟩
    have hs2 := hb.size
    replace HB := hide (HB.out.trans (hb.mono HB.out.size))
    have HV1 := hide (hv)
    clear hb
    clear hv
    go_wp2_with fail
    refine (HS.out v1 _ (inMat_own HV1.out)).mono ?_
    rintro e w3 ⟨u, rfl, hu, hb⟩
    have hs3 := hb.size
    replace HV1 := hide (ownMat_below HV1.out hb)
    replace HB := hide (HB.out.trans (hb.mono HB.out.size))
    have HU := hide (ownS2_of hu)
    clear hb
    clear hu
    go_wp2_with fail
    refine (toIntSS_any _ m _ (by omega) (inMat_below HI.out HB.out)).mono ?_
    rintro e w4 ⟨v2, rfl, hv, hb⟩
    have hs4 := hb.size
    replace HV1 := hide (ownMat_below HV1.out hb)
    replace HU := hide (ownS2_below HU.out hb)
    replace HB := hide (HB.out.trans (hb.mono HB.out.size))
    have HV2 := hide (hv)
    clear hb
    clear hv
    go_wp2_with fail
    refine (HM.out v2 _ (inMat_own HV2.out)).mono ?_
    rintro e w5 ⟨g, rfl, hu, hb⟩
    have hs5 := hb.size
    replace HV1 := hide (ownMat_below HV1.out hb)
    replace HU := hide (ownS2_below HU.out hb)
    replace HV2 := hide (ownMat_below HV2.out hb)
    replace HB := hide (HB.out.trans (hb.mono HB.out.size))
    have HG := hide (ownS2_of hu)
    clear hb
    clear hu
    go_wp2_with fail
    refine (eqSwitchS_same g u l _ (inSws_own HG.out.1) (inSws_own HU.out.1)).mono ?_
    rintro e w6 ⟨rfl, hb⟩
    have hs6 := hb.size
    replace HV1 := hide (ownMat_below HV1.out hb)
    replace HU := hide (ownS2_below HU.out hb)
    replace HV2 := hide (ownMat_below HV2.out hb)
    replace HG := hide (ownS2_below HG.out hb)
    replace HB := hide (HB.out.trans (hb.mono HB.out.size))
    clear hb
    go_wp2_with fail
    refine (toIntSS_any _ m _ (by omega) (inMat_below HI.out HB.out)).mono ?_
    rintro e w7 ⟨v3, rfl, hv, hb⟩
    have hs7 := hb.size
    replace HV1 := hide (ownMat_below HV1.out hb)
    replace HU := hide (ownS2_below HU.out hb)
    replace HV2 := hide (ownMat_below HV2.out hb)
    replace HG := hide (ownS2_below HG.out hb)
    replace HB := hide (HB.out.trans (hb.mono HB.out.size))
    have HV3 := hide (hv)
    clear hb
    clear hv
    go_wp2_with fail
    refine (eqIntSS_same v2 v3 m _ (inMat_own HV2.out) (inMat_own HV3.out)).mono ?_
    rintro e w8 ⟨rfl, hb⟩
    have hs8 := hb.size
    replace HV1 := hide (ownMat_below HV1.out hb)
    replace HU := hide (ownS2_below HU.out hb)
    replace HV2 := hide (ownMat_below HV2.out hb)
    replace HG := hide (ownS2_below HG.out hb)
    replace HV3 := hide (ownMat_below HV3.out hb)
    replace HB := hide (HB.out.trans (hb.mono HB.out.size))
    clear hb
    go_wp2_with fail
    refine (markIntSS_any m 1 _ _ v2 _ (by omega) (by omega) HV2.out).mono ?_
    rintro e w9 ⟨rfl, -, hw⟩
    have hs9 := hw.size
    replace HV1 := hide (ownMat_within HV1.out hw (by omega))
    replace HU := hide (ownS2_within HU.out hw (by omega))
    replace HG := hide (ownS2_within HG.out hw (by omega))
    replace HV3 := hide (ownMat_within HV3.out hw (by omega))
    replace HB := hide (HB.out.trans (below_within hw (by omega) HB.out.size))
    clear HV2
    clear hw
    go_wp2_with fail
    refine (eqSwitchS_same g u l _ (inSws_own HG.out.1) (inSws_own HU.out.1)).mono ?_
    rintro e w10 ⟨rfl, hb⟩
    have hs10 := hb.size
    replace HV1 := hide (ownMat_below HV1.out hb)
    replace HU := hide (ownS2_below HU.out hb)
    replace HG := hide (ownS2_below HG.out hb)
    replace HV3 := hide (ownMat_below HV3.out hb)
    replace HB := hide (HB.out.trans (hb.mono HB.out.size))
    clear hb
    go_wp2_with fail
    refine (markSwitchS_any l.length 1 g _ _ _ (by have := HLL.out; omega) (by omega) HG.out.1).mono ?_
    rintro e w11 ⟨rfl, ho, hg⟩
    have hw := within_own HG.out hg
    clear hg
    have hs11 := hw.size
    replace HV1 := hide (ownMat_within HV1.out hw (by omega))
    replace HU := hide (ownS2_within HU.out hw (by omega))
    replace HV3 := hide (ownMat_within HV3.out hw (by omega))
    replace HB := hide (HB.out.trans (below_within hw (by omega) HB.out.size))
    have HC := hide (heldC_own ho)
    clear HG
    clear hw
    clear ho
    go_wp2_with fail
    refine (heldSwitchS_any l.length 1 g _ (by have := HLL.out; omega) (by omega) HC.out).mono ?_
    rintro e w12 ⟨rfl, rfl⟩
    go_wp2_with fail
    refine (toIntSS_any _ m _ (by omega) (inMat_below HI.out HB.out)).mono ?_
    rintro e w13 ⟨v4, rfl, hv, hb⟩
    have hs13 := hb.size
    replace HV1 := hide (ownMat_below HV1.out hb)
    replace HU := hide (ownS2_below HU.out hb)
    replace HV3 := hide (ownMat_below HV3.out hb)
    replace HC := hide (heldC_below HC.out hb)
    replace HB := hide (HB.out.trans (hb.mono HB.out.size))
    have HV4 := hide (hv)
    clear hb
    clear hv
    go_wp2_with fail
    refine (HM.out v4 _ (inMat_own HV4.out)).mono ?_
    rintro e w14 ⟨h, rfl, hu, hb⟩
    have hs14 := hb.size
    replace HV1 := hide (ownMat_below HV1.out hb)
    replace HU := hide (ownS2_below HU.out hb)
    replace HV3 := hide (ownMat_below HV3.out hb)
    replace HV4 := hide (ownMat_below HV4.out hb)
    replace HC := hide (heldC_below HC.out hb)
    replace HB := hide (HB.out.trans (hb.mono HB.out.size))
    have HH := hide (ownS2_of hu)
    clear hb
    clear hu
    go_wp2_with fail
    refine (eqSwitchS_same h u l _ (inSws_own HH.out.1) (inSws_own HU.out.1)).mono ?_
    rintro e w15 ⟨rfl, hb⟩
    have hs15 := hb.size
    replace HV1 := hide (ownMat_below HV1.out hb)
    replace HU := hide (ownS2_below HU.out hb)
    replace HV3 := hide (ownMat_below HV3.out hb)
    replace HV4 := hide (ownMat_below HV4.out hb)
    replace HH := hide (ownS2_below HH.out hb)
    replace HC := hide (heldC_below HC.out hb)
    replace HB := hide (HB.out.trans (hb.mono HB.out.size))
    clear hb
    go_wp2_with fail
    refine (heldSwitchS_any l.length 1 g _ (by have := HLL.out; omega) (by omega) HC.out).mono ?_
    rintro e w16 ⟨rfl, rfl⟩
    go_wp2
    go_ret
    exact ⟨rfl, HB.out⟩

theorem goM_shape {R C : Nat} {m t : List (List Int)} {l : List Sw} (hm : Node R C m) (h : goM m l = some t) : t.length + cellsM t ≤ 30 := by
  obtain ⟨f, rfl, hI⟩ := goM_node hm h
  rw [mkM_len, cells_mkM]
  have h1 := hI.r2; have h2 := hI.c2
  have : R * C ≤ 5 * 5 := Nat.mul_le_mul h1 h2
  omega
theorem appRowsB_len (m : List (List Int)) (l : List Sw) : (appRowsB m l).length + cellsM (appRowsB m l) ≤ 1000000 := by
  unfold appRowsB appRows
  cases h : okB m with
  | false => simp [cellsM]
  | true =>
    obtain ⟨R, C, f, rfl, hI⟩ := ok_img h
    rw [if_pos rfl]
    split
    · cases hg : goM (mkM R C f) l with
      | none => simp [cellsM]
      | some t => have := goM_shape ⟨f, rfl, hI⟩ hg; simp only [Option.getD_some]; omega
    · simp [cellsM]
set_option maxRecDepth 100000 in
set_option maxHeartbeats 4000000 in
theorem lawApplyAll_walk (a : Option Addr) (n c : Nat) (m : List (List Int)) (a2 : Option Addr) (n2 c2 : Nat) (l : List Sw) (w : World) (hin : InMat w (.slice a n c) m) (hin2 : InSws w (.slice a2 n2 c2) l) :
    Calls Try.prog 11 #[.slice a n c, .slice a2 n2 c2] w fun e w' => e = .returned (.bool true) ∧ Below w.heap.size w w' := by
  have HI := hide hin; have HJ := hide hin2
  have HRL := hide (appRowsB_len m l)
  obtain ⟨rows, hrows⟩ : ∃ rows, rows = appRowsB m l := ⟨_, rfl⟩
  obtain ⟨b, hb⟩ : ∃ b, b = appOkB m l := ⟨_, rfl⟩
  have HS := hide fun v lv w h k => specApplyAll_any v lv m l w h k
  have HM := hide fun v lv w h k => implApplyAll_any v lv m l w h k
  rw [← hrows] at HRL HS HM
  rw [← hb] at HS HM
  clear hrows hb
  obtain ⟨a2, c2, he, hmm, -⟩ := hin2
  cases he
  unfold maxLen at hmm
  clear hin
  go_enter Try.func11, Try.ntmps11
  have HB := hide (Below.refl w.heap.size w)
  go_wp2_with fail
  refine (szIntSS_any _ m 1048576 _ (by omega) HI.out).mono ?_
  rintro e w1 ⟨r, rfl, hr, hb⟩
  have hs1 := hb.size
  replace HB := hide (HB.out.trans (hb.mono HB.out.size))
  clear hb
  rcases hr with rfl | ⟨hsz, rfl⟩
  · go_wp2
    go_ret
    exact ⟨rfl, HB.out⟩
  · go_wp2_with fail
    have e1 : ((1048576 - m.length - cellsM m : Nat) : Int) = ((1048576 - m.length - cellsM m : Nat) : Int) := rfl
    refine (szSwitchS_any _ l (1048576 - m.length - cellsM m) _ (by omega) (inSws_below HJ.out HB.out)).mono ?_
    rintro e w90 ⟨r, rfl, hr, rfl⟩
    rcases hr with rfl | ⟨hsl, rfl⟩
    · go_wp2
      go_ret
      exact ⟨rfl, HB.out⟩
    · go_wp2_with fail
      refine (toIntSS_any _ m _ (by omega) (inMat_below HI.out HB.out)).mono ?_
      rintro e w2 ⟨v1, rfl, hv, hb⟩
      have hs2 := hb.size
      replace HB := hide (HB.out.trans (hb.mono HB.out.size))
      have HV1 := hide (hv)
      clear hb
      clear hv
      go_wp2_with fail
      refine (toSwitchS_any _ l _ (by omega) (inSws_below HJ.out HB.out)).mono ?_
      rintro e w3 ⟨s1, rfl, hv, hb⟩
      have hs3 := hb.size
      replace HV1 := hide (ownMat_below HV1.out hb)
      replace HB := hide (HB.out.trans (hb.mono HB.out.size))
      have HS1 := hide (ownS2_of hv)
      clear hb
      clear hv
      go_wp2_with fail
      refine (HS.out v1 s1 _ (inMat_own HV1.out) (inSws_own HS1.out.1)).mono ?_
      rintro e w4 ⟨u, rfl, hu, hb⟩
      have hs4 := hb.size
      replace HV1 := hide (ownMat_below HV1.out hb)
      replace HS1 := hide (ownS2_below HS1.out hb)
      replace HB := hide (HB.out.trans (hb.mono HB.out.size))
      have HU := hide (hu)
      clear hb
      clear hu
      go_wp2_with fail
      refine (toIntSS_any _ m _ (by omega) (inMat_below HI.out HB.out)).mono ?_
      rintro e w5 ⟨v2, rfl, hv, hb⟩
      have hs5 := hb.size
      replace HV1 := hide (ownMat_below HV1.out hb)
      replace HS1 := hide (ownS2_below HS1.out hb)
      replace HU := hide (ownMat_below HU.out hb)
      replace HB := hide (HB.out.trans (hb.mono HB.out.size))
      have HV2 := hide (hv)
      clear hb
      clear hv
      go_wp2_with fail
      refine (toSwitchS_any _ l _ (by omega) (inSws_below HJ.out HB.out)).mono ?_
      rintro e w6 ⟨s2, rfl, hv, hb⟩
      have hs6 := hb.size
      replace HV1 := hide (ownMat_below HV1.out hb)
      replace HS1 := hide (ownS2_below HS1.out hb)
      replace HU := hide (ownMat_below HU.out hb)
      replace HV2 := hide (ownMat_below HV2.out hb)
      replace HB := hide (HB.out.trans (hb.mono HB.out.size))
      have HS2 := hide (ownS2_of hv)
      clear hb
      clear hv
      go_wp2_with fail
      refine (HM.out v2 s2 _ (inMat_own HV2.out) (inSws_own HS2.out.1)).mono ?_
      rintro e w7 ⟨g, rfl, hu, hb⟩
      have hs7 := hb.size
      replace HV1 := hide (ownMat_below HV1.out hb)
      replace HS1 := hide (ownS2_below HS1.out hb)
      replace HU := hide (ownMat_below HU.out hb)
      replace HV2 := hide (ownMat_below HV2.out hb)
      replace HS2 := hide (ownS2_below HS2.out hb)
      replace HB := hide (HB.out.trans (hb.mono HB.out.size))
      have HG := hide (hu)
      clear hb
      clear hu
      go_wp2_with fail
      refine (eqIntSS_same g u rows _ (inMat_own HG.out) (inMat_own HU.out)).mono ?_
      rintro e w8 ⟨rfl, hb⟩
      have hs8 := hb.size
      replace HV1 := hide (ownMat_below HV1.out hb)
      replace HS1 := hide (ownS2_below HS1.out hb)
      replace HU := hide (ownMat_below HU.out hb)
      replace HV2 := hide (ownMat_below HV2.out hb)
      replace HS2 := hide (ownS2_below HS2.out hb)
      replace HG := hide (ownMat_below HG.out hb)
      replace HB := hide (HB.out.trans (hb.mono HB.out.size))
      clear hb
      go_wp2_with fail
      refine (toIntSS_any _ m _ (by omega) (inMat_below HI.out HB.out)).mono ?_
      rintro e w9 ⟨v3, rfl, hv, hb⟩
      have hs9 := hb.size
      replace HV1 := hide (ownMat_below HV1.out hb)
      replace HS1 := hide (ownS2_below HS1.out hb)
      replace HU := hide (ownMat_below HU.out hb)
      replace HV2 := hide (ownMat_below HV2.out hb)
      replace HS2 := hide (ownS2_below HS2.out hb)
      replace HG := hide (ownMat_below HG.out hb)
      replace HB := hide (HB.out.trans (hb.mono HB.out.size))
      have HV3 := hide (hv)
      clear hb
      clear hv
      go_wp2_with fail
      refine (eqIntSS_same v2 v3 m _ (inMat_own HV2.out) (inMat_own HV3.out)).mono ?_
      rintro e w10 ⟨rfl, hb⟩
      have hs10 := hb.size
      replace HV1 := hide (ownMat_below HV1.out hb)
      replace HS1 := hide (ownS2_below HS1.out hb)
      replace HU := hide (ownMat_below HU.out hb)
      replace HV2 := hide (ownMat_below HV2.out hb)
      replace HS2 := hide (ownS2_below HS2.out hb)
      replace HG := hide (ownMat_below HG.out hb)
      replace HV3 := hide (ownMat_below HV3.out hb)
      replace HB := hide (HB.out.trans (hb.mono HB.out.size))
      clear hb
      go_wp2_with fail
      refine (toSwitchS_any _ l _ (by omega) (inSws_below HJ.out HB.out)).mono ?_
      rintro e w11 ⟨s3, rfl, hv, hb⟩
      have hs11 := hb.size
      replace HV1 := hide (ownMat_below HV1.out hb)
      replace HS1 := hide (ownS2_below HS1.out hb)
      replace HU := hide (ownMat_below HU.out hb)
      replace HV2 := hide (ownMat_below HV2.out hb)
      replace HS2 := hide (ownS2_below HS2.out hb)
      replace HG := hide (ownMat_below HG.out hb)
      replace HV3 := hide (ownMat_below HV3.out hb)
      replace HB := hide (HB.out.trans (hb.mono HB.out.size))
      have HS3 := hide (ownS2_of hv)
      clear hb
      clear hv
      go_wp2_with fail
      refine (eqSwitchS_same s2 s3 l _ (inSws_own HS2.out.1) (inSws_own HS3.out.1)).mono ?_
      rintro e w12 ⟨rfl, hb⟩
      have hs12 := hb.size
      replace HV1 := hide (ownMat_below HV1.out hb)
      replace HS1 := hide (ownS2_below HS1.out hb)
      replace HU := hide (ownMat_below HU.out hb)
      replace HV2 := hide (ownMat_below HV2.out hb)
      replace HS2 := hide (ownS2_below HS2.out hb)
      replace HG := hide (ownMat_below HG.out hb)
      replace HV3 := hide (ownMat_below HV3.out hb)
      replace HS3 := hide (ownS2_below HS3.out hb)
      replace HB := hide (HB.out.trans (hb.mono HB.out.size))
      clear hb
      go_wp2_with fail
      refine (markIntSS_any m 1 _ _ v2 _ (by omega) (by omega) HV2.out).mono ?_
      rintro e w13 ⟨rfl, -, hw⟩
      have hs13 := hw.size
      replace HV1 := hide (ownMat_within HV1.out hw (by omega))
      replace HS1 := hide (ownS2_within HS1.out hw (by omega))
      replace HU := hide (ownMat_within HU.out hw (by omega))
      replace HS2 := hide (ownS2_within HS2.out hw (by omega))
      replace HG := hide (ownMat_within HG.out hw (by omega))
      replace HV3 := hide (ownMat_within HV3.out hw (by omega))
      replace HS3 := hide (ownS2_within HS3.out hw (by omega))
      replace HB := hide (HB.out.trans (below_within hw (by omega) HB.out.size))
      clear HV2
      clear hw
      go_wp2_with fail
      refine (markSwitchS_any l.length (1 + cellsM m) s2 _ _ _ (by omega) (by omega) HS2.out.1).mono ?_
      rintro e w14 ⟨rfl, -, hg⟩
      have hw := within_own HS2.out hg
      clear hg
      have hs14 := hw.size
      replace HV1 := hide (ownMat_within HV1.out hw (by omega))
      replace HS1 := hide (ownS2_within HS1.out hw (by omega))
      replace HU := hide (ownMat_within HU.out hw (by omega))
      replace HG := hide (ownMat_within HG.out hw (by omega))
      replace HV3 := hide (ownMat_within HV3.out hw (by omega))
      replace HS3 := hide (ownS2_within HS3.out hw (by omega))
      replace HB := hide (HB.out.trans (below_within hw (by omega) HB.out.size))
      clear HS2
      clear hw
      go_wp2_with fail
      refine (eqIntSS_same g u rows _ (inMat_own HG.out) (inMat_own HU.out)).mono ?_
      rintro e w15 ⟨rfl, hb⟩
      have hs15 := hb.size
      replace HV1 := hide (ownMat_below HV1.out hb)
      replace HS1 := hide (ownS2_below HS1.out hb)
      replace HU := hide (ownMat_below HU.out hb)
      replace HG := hide (ownMat_below HG.out hb)
      replace HV3 := hide (ownMat_below HV3.out hb)
      replace HS3 := hide (ownS2_below HS3.out hb)
      replace HB := hide (HB.out.trans (hb.mono HB.out.size))
      clear hb
      go_wp2_with fail
      refine (markIntSS_any rows 1 _ _ g _ (by have := HRL.out; omega) (by omega) HG.out).mono ?_
      rintro e w16 ⟨rfl, ho, hw⟩
      have hs16 := hw.size
      replace HV1 := hide (ownMat_within HV1.out hw (by omega))
      replace HS1 := hide (ownS2_within HS1.out hw (by omega))
      replace HU := hide (ownMat_within HU.out hw (by omega))
      replace HV3 := hide (ownMat_within HV3.out hw (by omega))
      replace HS3 := hide (ownS2_within HS3.out hw (by omega))
      replace HB := hide (HB.out.trans (below_within hw (by omega) HB.out.size))
      have HC := hide (inMat_own ho)
      clear HG
      clear hw
      clear ho
      go_wp2_with fail
      refine (heldIntSS_any rows 1 g _ (by have := HRL.out; omega) (by omega) HC.out).mono ?_
      rintro e w17 ⟨rfl, hb⟩
      have hs17 := hb.size
      replace HV1 := hide (ownMat_below HV1.out hb)
      replace HS1 := hide (ownS2_below HS1.out hb)
      replace HU := hide (ownMat_below HU.out hb)
      replace HV3 := hide (ownMat_below HV3.out hb)
      replace HS3 := hide (ownS2_below HS3.out hb)
      replace HC := hide (inMat_below HC.out hb)
      replace HB := hide (HB.out.trans (hb.mono HB.out.size))
      clear hb
      go_wp2_with fail
      refine (toIntSS_any _ m _ (by omega) (inMat_below HI.out HB.out)).mono ?_
      rintro e w18 ⟨v4, rfl, hv, hb⟩
      have hs18 := hb.size
      replace HV1 := hide (ownMat_below HV1.out hb)
      replace HS1 := hide (ownS2_below HS1.out hb)
      replace HU := hide (ownMat_below HU.out hb)
      replace HV3 := hide (ownMat_below HV3.out hb)
      replace HS3 := hide (ownS2_below HS3.out hb)
      replace HC := hide (inMat_below HC.out hb)
      replace HB := hide (HB.out.trans (hb.mono HB.out.size))
      have HV4 := hide (hv)
      clear hb
      clear hv
      go_wp2_with fail
      refine (toSwitchS_any _ l _ (by omega) (inSws_below HJ.out HB.out)).mono ?_
      rintro e w19 ⟨s4, rfl, hv, hb⟩
      have hs19 := hb.size
      replace HV1 := hide (ownMat_below HV1.out hb)
      replace HS1 := hide (ownS2_below HS1.out hb)
      replace HU := hide (ownMat_below HU.out hb)
      replace HV3 := hide (ownMat_below HV3.out hb)
      replace HS3 := hide (ownS2_below HS3.out hb)
      replace HV4 := hide (ownMat_below HV4.out hb)
      replace HC := hide (inMat_below HC.out hb)
      replace HB := hide (HB.out.trans (hb.mono HB.out.size))
      have HS4 := hide (ownS2_of hv)
      clear hb
      clear hv
      go_wp2_with fail
      refine (HM.out v4 s4 _ (inMat_own HV4.out) (inSws_own HS4.out.1)).mono ?_
      rintro e w20 ⟨h, rfl, hu, hb⟩
      have hs20 := hb.size
      replace HV1 := hide (ownMat_below HV1.out hb)
      replace HS1 := hide (ownS2_below HS1.out hb)
      replace HU := hide (ownMat_below HU.out hb)
      replace HV3 := hide (ownMat_below HV3.out hb)
      replace HS3 := hide (ownS2_below HS3.out hb)
      replace HV4 := hide (ownMat_below HV4.out hb)
      replace HS4 := hide (ownS2_below HS4.out hb)
      replace HC := hide (inMat_below HC.out hb)
      replace HB := hide (HB.out.trans (hb.mono HB.out.size))
      have HH := hide (hu)
      clear hb
      clear hu
      go_wp2_with fail
      refine (eqIntSS_same h u rows _ (inMat_own HH.out) (inMat_own HU.out)).mono ?_
      rintro e w21 ⟨rfl, hb⟩
      have hs21 := hb.size
      replace HV1 := hide (ownMat_below HV1.out hb)
      replace HS1 := hide (ownS2_below HS1.out hb)
      replace HU := hide (ownMat_below HU.out hb)
      replace HV3 := hide (ownMat_below HV3.out hb)
      replace HS3 := hide (ownS2_below HS3.out hb)
      replace HV4 := hide (ownMat_below HV4.out hb)
      replace HS4 := hide (ownS2_below HS4.out hb)
      replace HH := hide (ownMat_below HH.out hb)
      replace HC := hide (inMat_below HC.out hb)
      replace HB := hide (HB.out.trans (hb.mono HB.out.size))
      clear hb
      go_wp2_with fail
      refine (heldIntSS_any rows 1 g _ (by have := HRL.out; omega) (by omega) HC.out).mono ?_
      rintro e w22 ⟨rfl, hb⟩
      have hs22 := hb.size
      replace HV1 := hide (ownMat_below HV1.out hb)
      replace HS1 := hide (ownS2_below HS1.out hb)
      replace HU := hide (ownMat_below HU.out hb)
      replace HV3 := hide (ownMat_below HV3.out hb)
      replace HS3 := hide (ownS2_below HS3.out hb)
      replace HV4 := hide (ownMat_below HV4.out hb)
      replace HS4 := hide (ownS2_below HS4.out hb)
      replace HH := hide (ownMat_below HH.out hb)
      replace HC := hide (inMat_below HC.out hb)
      replace HB := hide (HB.out.trans (hb.mono HB.out.size))
      clear hb
      go_wp2
      go_ret
      exact ⟨rfl, HB.out⟩
end Go.Proofs.Ytnhijmhambggbaa
