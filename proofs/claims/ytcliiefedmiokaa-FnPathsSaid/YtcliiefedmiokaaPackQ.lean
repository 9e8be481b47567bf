/-
  Texts of this claim, one behind the other: PathsR.
-/
import Derived.Test.YtcliiefedmiokaaPackP
/-
  The law FnPaths, walked.
-/
namespace Go.Proofs.Ytcliiefedmiokaa
open Go.RowKit
set_option linter.unusedVariables false

theorem cons_drop {α : Type} {l : List α} {k : Nat} (h : k < l.length) (d : α) : l.drop k = l.getD k d :: l.drop (k + 1) := by
  rw [List.drop_eq_getElem_cons h, List.getD_eq_getElem?_getD, List.getElem?_eq_getElem h]; rfl
set_option maxRecDepth 100000 in
set_option maxHeartbeats 8000000 in
theorem lawPaths_walk (a : Option Addr) (n c : Nat) (w : World) (hin : InBytes w w.heap.size a n) :
    Calls Try.prog 7 #[.slice a n c] w fun e w' => e = .returned (.bool true) ∧ Below w.heap.size w w' := by
  have HIN := hide hin
  clear hin
  go_enter Try.func7, Try.ntmps7
  have HB := hide (Below.refl w.heap.size w)
  go_wp2_with fail
  refine (makePair_any n c a _ HIN.out).mono ?_
  rintro e w1 ⟨v, u, R, C, f, g, rfl, hI, hJ, hs, hR, hC, hv, hu, hb⟩
  have hs1 := hb.size
  replace HB := hide (HB.out.trans (hb.mono HB.out.size))
  have HV := hide (hv)
  have HU := hide (hu)
  clear hb
  have HI := hide hI; have HJ := hide hJ; have HS := hide hs
  have HPB := hide (pathB_of hI hJ hs hR hC); have HPB2 := hide (pathB_of hJ hI (sameF_symm hs) hR hC)
  have HBEST := hide (pathL_best hI hJ hs hR hC)
  have hl1 := pathL_lens hI hJ hs hR hC
  have hl2 := pathL_back hI hJ hs hR hC
  have hl3 := pathL_len (mkM R C f) (mkM R C g)
  obtain ⟨P, hP⟩ : ∃ P, P = pathL (mkM R C f) (mkM R C g) := ⟨_, rfl⟩
  obtain ⟨Q, hQ⟩ : ∃ Q, Q = pathL (mkM R C g) (mkM R C f) := ⟨_, rfl⟩
  rw [← hP] at HBEST hl1 hl2 hl3
  rw [← hQ] at hl2
  have HP := hide hP.symm; have HQ := hide hQ.symm
  obtain ⟨N, hN⟩ : ∃ N, N = P.length := ⟨_, rfl⟩
  have HN := hide hN
  rw [← hN] at hl1 hl2 hl3
  have HL2 := hide hl2
  obtain ⟨D, hD⟩ : ∃ D, D = diff R C f g := ⟨_, rfl⟩
  have HD := hide hD
  rw [← hD] at hl1
  have i1 : 2 * (N : Int) ≤ (D : Int) := by omega
  have i2 : (D : Int) ≤ 4 * (N : Int) := by omega
  have i3 : (N : Int) ≤ 60 := by omega
  clear hI hJ hs hv hu hP hQ hN hD hl1 hl2
  go_wp2_with fail
  refine (pathTo_yes v u _ _ _ HV.out HU.out HPB.out HP.out).mono ?_
  rintro e w2 ⟨pa, pc, rfl, ho, hb⟩
  have hs2 := hb.size
  replace HV := hide (inMat_below HV.out hb)
  replace HU := hide (inMat_below HU.out hb)
  replace HB := hide (HB.out.trans (hb.mono HB.out.size))
  have HW := hide (ownSws_base ho (by omega))
  clear hb
  rw [← HN.out] at HW ⊢
  clear ho
  go_wp2_with fail
  refine (pathTo_yes u v _ _ _ HU.out HV.out HPB2.out HQ.out).mono ?_
  rintro e w3 ⟨qa, qc, rfl, -, hb⟩
  have hs3 := hb.size
  replace HV := hide (inMat_below HV.out hb)
  replace HU := hide (inMat_below HU.out hb)
  replace HW := hide (ownSws_below HW.out hb)
  replace HB := hide (HB.out.trans (hb.mono HB.out.size))
  clear hb
  rw [HL2.out]
  go_wp2_with fail
  refine (sameSums_yes v u HI.out HJ.out HS.out _ HV.out HU.out).mono ?_
  rintro e w4 ⟨rfl, hb⟩
  have hs4 := hb.size
  replace HV := hide (inMat_below HV.out hb)
  replace HU := hide (inMat_below HU.out hb)
  replace HW := hide (ownSws_below HW.out hb)
  replace HB := hide (HB.out.trans (hb.mono HB.out.size))
  clear hb
  go_wp2_with fail
  refine (dist_yes v u HI.out HJ.out _ HV.out HU.out).mono ?_
  rintro e w5 ⟨rfl, hb⟩
  have hs5 := hb.size
  replace HV := hide (inMat_below HV.out hb)
  replace HU := hide (inMat_below HU.out hb)
  replace HW := hide (ownSws_below HW.out hb)
  replace HB := hide (HB.out.trans (hb.mono HB.out.size))
  clear hb
  rw [← HD.out]
  go_wp2_with fail
  refine (dist_yes v u HI.out HJ.out _ HV.out HU.out).mono ?_
  rintro e w6 ⟨rfl, hb⟩
  have hs6 := hb.size
  replace HV := hide (inMat_below HV.out hb)
  replace HU := hide (inMat_below HU.out hb)
  replace HW := hide (ownSws_below HW.out hb)
  replace HB := hide (HB.out.trans (hb.mono HB.out.size))
  clear hb
  rw [← HD.out]
  go_wp2
  go_loopw [9, 84] (fun x t w' => ∃ (k : Nat) (h : Nat → Nat → Int) (y : Value), k ≤ N ∧ t = .int .i64 k ∧ y = x ∧ Img R C h ∧ SameF R C h g ∧ pathL (mkM R C h) (mkM R C g) = P.drop k ∧ InMat w' y (mkM R C h) ∧ InMat w' v (mkM R C f) ∧ InMat w' u (mkM R C g) ∧ OwnSws w' w.heap.size (.slice pa N pc) P ∧ Below w.heap.size w w') (fun _ t _ => N - (intOf t).toNat)
  case atStart => exact ⟨0, f, _, Nat.zero_le _, rfl, rfl, HI.out, HS.out, by rw [List.drop_zero]; exact HP.out, HV.out, HV.out, HU.out, HW.out, HB.out⟩
  case round =>
    clear HV HU HW HB
    obtain ⟨k, h, y, hk, rfl, rfl, hih, hsh, hpl, hy, hv, hu, hw, hb⟩ := hrel
    have HIH := hide hih; have HSH := hide hsh; have HPL := hide hpl; have HY := hide hy; have HV := hide hv; have HU := hide hu; have HW := hide hw; have HB := hide hb
    clear hih hsh hy hv hu hb
    by_cases hlt : k < N
    · have hltI : (k : Int) < (N : Int) := by omega
      have hkP : k < P.length := by rw [← HN.out]; exact hlt
      have hcd := cons_drop hkP zeroSw
      rw [hcd] at hpl
      obtain ⟨hsb, hi2, hs2, hfm, hp2⟩ := pathL_tail HIH.out HJ.out HSH.out hR hC hpl
      obtain ⟨gp, cp, e, -⟩ := ownA_some hw (by rw [← HN.out]; omega)
      injection e with e1 e2 e3
      subst e1
      clear e2 e3
      have hsc := sws_cell hw k hkP
      obtain ⟨s, hs⟩ : ∃ s, s = P.getD k zeroSw := ⟨_, rfl⟩
      rw [← hs] at hsb hi2 hs2 hfm hp2 hsc hpl
      have HPL1 := hide hpl; have HSB := hide hsb; have HI2 := hide hi2; have HS2 := hide hs2; have HP2 := hide hp2
      have hwf : s.wf := (swB_wf ⟨h, rfl, HIH.out⟩ hsb).1
      have HWF := hide hwf
      have hdl : (P.drop (k + 1)).length = N - (k + 1) := by rw [List.length_drop, ← HN.out]
      have HDL := hide hdl
      obtain ⟨M, hM⟩ : ∃ M, M = N - (k + 1) := ⟨_, rfl⟩
      rw [← hM] at HDL
      have hMI : (M : Int) = (N : Int) - 1 - (k : Int) := by omega
      clear hw hpl hsb hi2 hs2 hp2 hs hcd hfm hdl hM hwf HPL
      go_wp2_with (first | ((with_reducible refine wpList_allocSw 11 rfl rfl rfl ?_); intro wa ha ba sa) | ((refine wpList_storeSw ha s rfl (.tmp 11) (.tmp 88) rfl rfl rfl ?_); intro w71 hd gb sb; have hb := ba.trans (grown_below gb (fun k hk => by cases hk; exact Nat.le_refl _) ba.size); have hs71 := hb.size; replace HY := hide (inMat_below HY.out hb); replace HV := hide (inMat_below HV.out hb); replace HU := hide (inMat_below HU.out hb); replace HW := hide (ownSws_below HW.out hb); replace HB := hide (HB.out.trans (hb.mono HB.out.size)); have HD71 := hide hd; clear ha ba sa hd gb sb hb) | (with_reducible refine wpList_loadSwC hsc 88 rfl rfl _ rfl rfl ?_))
      refine (nextTo_yes y u _ _ _ HY.out HU.out HPL1.out).mono ?_
      rintro e w7 ⟨rfl, hb⟩
      have hs7 := hb.size
      replace HY := hide (inMat_below HY.out hb)
      replace HV := hide (inMat_below HV.out hb)
      replace HU := hide (inMat_below HU.out hb)
      replace HW := hide (ownSws_below HW.out hb)
      replace HD71 := hide (swAt_below HD71.out hb)
      replace HB := hide (HB.out.trans (hb.mono HB.out.size))
      clear hb
      go_wp2_with (first | ((with_reducible refine wpList_allocSw 12 rfl rfl rfl ?_); intro wa ha ba sa) | ((refine wpList_storeSw ha s rfl (.tmp 12) (.tmp 93) rfl rfl rfl ?_); intro w72 hd gb sb; have hb := ba.trans (grown_below gb (fun k hk => by cases hk; exact Nat.le_refl _) ba.size); have hs72 := hb.size; replace HY := hide (inMat_below HY.out hb); replace HV := hide (inMat_below HV.out hb); replace HU := hide (inMat_below HU.out hb); replace HW := hide (ownSws_below HW.out hb); replace HD71 := hide (swAt_below HD71.out hb); replace HB := hide (HB.out.trans (hb.mono HB.out.size)); have HD72 := hide hd; clear ha ba sa hd gb sb hb) | (with_reducible refine wpList_loadSw HD71.out 97 rfl rfl _ rfl rfl ?_))
      refine (applySw_yes y HIH.out _ HY.out HSB.out).mono ?_
      rintro e w8 ⟨z, rfl, hz, hb⟩
      have hs8 := hb.size
      replace HY := hide (inMat_below HY.out hb)
      replace HV := hide (inMat_below HV.out hb)
      replace HU := hide (inMat_below HU.out hb)
      replace HW := hide (ownSws_below HW.out hb)
      replace HD71 := hide (swAt_below HD71.out hb)
      replace HD72 := hide (swAt_below HD72.out hb)
      replace HB := hide (HB.out.trans (hb.mono HB.out.size))
      have HZ := hide (hz)
      clear hb
      clear hz
      go_wp2_with fail
      refine (pathTo_yes z u _ _ _ HZ.out HU.out (pathB_of HI2.out HJ.out HS2.out hR hC) HP2.out).mono ?_
      rintro e w9 ⟨ra, rc, rfl, -, hb⟩
      have hs9 := hb.size
      replace HY := hide (inMat_below HY.out hb)
      replace HV := hide (inMat_below HV.out hb)
      replace HU := hide (inMat_below HU.out hb)
      replace HW := hide (ownSws_below HW.out hb)
      replace HD71 := hide (swAt_below HD71.out hb)
      replace HD72 := hide (swAt_below HD72.out hb)
      replace HZ := hide (inMat_below HZ.out hb)
      replace HB := hide (HB.out.trans (hb.mono HB.out.size))
      clear hb
      rw [HDL.out]
      obtain ⟨e0, e1, e2, e3⟩ := swC_at HD72.out
      obtain ⟨d0, d1, d2, d3⟩ := swC_at HD71.out
      simp only [Nat.zero_add] at e0 e1 e2 e3 d0 d1 d2 d3
      have hneq : ∀ w, (binOp .neq 45 (.agg #[.int .i64 s.y1, .int .i64 s.y2, .int .i64 s.x1, .int .i64 s.x2]) (.agg #[.int .i64 s.y1, .int .i64 s.y2, .int .i64 s.x1, .int .i64 s.x2])).run Try.prog w = .ok (.bool false) w := run_neqSw HWF.out HWF.out false (by simp)
      go_wp2
      clear e0 e1 e2 e3 d0 d1 d2 d3
      go_roundw
      case rel => exact ⟨k + 1, flipF h s, z, by omega, by go_num, rfl, HI2.out, HS2.out, HP2.out, HZ.out, HV.out, HU.out, HW.out, HB.out⟩
      case measure => simp [intOf]; omega
    · obtain rfl : k = N := by omega
      have hnl : P.drop k = [] := List.drop_of_length_le (by rw [← HN.out]; exact Nat.le_refl _)
      rw [hnl] at hpl
      have HPL1 := hide hpl
      have heq := pathL_nil HIH.out HJ.out HSH.out hR hC hpl
      rw [heq] at HY
      rw [heq] at HPL1
      have HG := hide HBEST.out.1
      clear hnl hpl heq hw HPL
      go_wp2_with fail
      refine (applyAll_yes v _ HI.out _ HV.out (inSws_own HW.out) (by rw [← HN.out]; omega) HG.out).mono ?_
      rintro e w10 ⟨z, rfl, hz, hb⟩
      have hs10 := hb.size
      replace HY := hide (inMat_below HY.out hb)
      replace HV := hide (inMat_below HV.out hb)
      replace HU := hide (inMat_below HU.out hb)
      replace HW := hide (ownSws_below HW.out hb)
      replace HB := hide (HB.out.trans (hb.mono HB.out.size))
      have HZ := hide (hz)
      clear hb
      clear hz
      go_wp2_with fail
      refine (nextTo_no y u _ _ _ HY.out HU.out HPL1.out).mono ?_
      rintro e w11 ⟨rfl, hb⟩
      have hs11 := hb.size
      replace HY := hide (inMat_below HY.out hb)
      replace HV := hide (inMat_below HV.out hb)
      replace HU := hide (inMat_below HU.out hb)
      replace HW := hide (ownSws_below HW.out hb)
      replace HZ := hide (inMat_below HZ.out hb)
      replace HB := hide (HB.out.trans (hb.mono HB.out.size))
      clear hb
      go_wp2_with (first | ((with_reducible refine wpList_allocSw 20 rfl rfl rfl ?_); intro wa ha ba sa) | ((refine wpList_storeSw ha zeroSw rfl (.tmp 20) (.tmp 144) rfl rfl rfl ?_); intro w73 hd gb sb; have hb := ba.trans (grown_below gb (fun k hk => by cases hk; exact Nat.le_refl _) ba.size); have hs73 := hb.size; replace HY := hide (inMat_below HY.out hb); replace HV := hide (inMat_below HV.out hb); replace HU := hide (inMat_below HU.out hb); replace HW := hide (ownSws_below HW.out hb); replace HZ := hide (inMat_below HZ.out hb); replace HB := hide (HB.out.trans (hb.mono HB.out.size)); have HD73 := hide hd; clear ha ba sa hd gb sb hb))
      refine (alike_yes y u _ _ HY.out HU.out).mono ?_
      rintro e w12 ⟨rfl, hb⟩
      have hs12 := hb.size
      replace HY := hide (inMat_below HY.out hb)
      replace HV := hide (inMat_below HV.out hb)
      replace HU := hide (inMat_below HU.out hb)
      replace HW := hide (ownSws_below HW.out hb)
      replace HZ := hide (inMat_below HZ.out hb)
      replace HD73 := hide (swAt_below HD73.out hb)
      replace HB := hide (HB.out.trans (hb.mono HB.out.size))
      clear hb
      go_wp2_with fail
      refine (alike_yes z u _ _ HZ.out HU.out).mono ?_
      rintro e w13 ⟨rfl, hb⟩
      have hs13 := hb.size
      replace HY := hide (inMat_below HY.out hb)
      replace HV := hide (inMat_below HV.out hb)
      replace HU := hide (inMat_below HU.out hb)
      replace HW := hide (ownSws_below HW.out hb)
      replace HZ := hide (inMat_below HZ.out hb)
      replace HD73 := hide (swAt_below HD73.out hb)
      replace HB := hide (HB.out.trans (hb.mono HB.out.size))
      clear hb
      go_wp2
      go_ret
      exact ⟨rfl, HB.out⟩
end Go.Proofs.Ytcliiefedmiokaa
