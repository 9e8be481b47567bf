/-
  ApplyAll, ApplySwitch, IsUnique of the model.
-/
import Derived.Test.YtnhijmhambggbaaApp
import Derived.Test.YtnhijmhambggbaaApl
import Derived.Test.YtnhijmhambggbaaSwsS
namespace Go.Proofs.Ytnhijmhambggbaa
open Go.RowKit

theorem specSwitchOk_any (v : Value) (m : List (List Int)) (s : Sw) (w : World) (hin : InMat w v m) :
    Calls Try.prog 31 #[v, swV s] w fun e w' => e = .returned (.bool (okB m && swB m s)) ∧ Below w.heap.size w w' := by
  cases h : okB m with
  | false => exact specSwitchOk_no v m s w hin h
  | true =>
    obtain ⟨R, C, f, rfl, hI⟩ := ok_img h
    rw [Bool.true_and, swB_mk hI]
    exact specSwitchOk_img v R C f s w hin hI
theorem specSwitchesOf_any (v : Value) (m : List (List Int)) (w : World) (hin : InMat w v m) : Calls Try.prog 36 #[v] w (SwsRes (swsOf m) w) := by
  unfold swsOf
  cases h : okB m with
  | false => exact specSwitchesOf_no v m w hin h
  | true =>
    obtain ⟨R, C, f, rfl, hI⟩ := ok_img h
    exact specSwitchesOf_yes v R C f w hin hI
set_option maxHeartbeats 1000000 in
theorem specIsUnique_any (v : Value) (m : List (List Int)) (w : World) (hin : InMat w v m) : Calls Try.prog 44 #[v] w fun e w' => e = .returned (.bool (uniqB m)) ∧ Below w.heap.size w w' := by
  have HI := hide hin
  unfold uniqB
  cases h : okB m with
  | false =>
    have H := hide h
    clear hin h
    go_enter Try.func44, Try.ntmps44
    go_wp2_with ((with_reducible refine (specImageOk_any v m _ HI.out).mono ?_); rw [H.out]; rintro e w3 ⟨rfl, rfl⟩)
    go_ret
    exact ⟨rfl, Below.refl _ _⟩
  | true =>
    have H := hide h
    have HS := hide (show swsOf m = swsM m by unfold swsOf; rw [h]; rfl)
    have HL := hide (show (swsM m).length ≤ 625 from upS_len m 625)
    clear hin h
    obtain ⟨l, hl⟩ : ∃ l, l = swsM m := ⟨_, rfl⟩
    rw [← hl] at HS HL ⊢
    clear hl
    go_enter Try.func44, Try.ntmps44
    go_wp2_with (first | ((with_reducible refine (specImageOk_any v m _ HI.out).mono ?_); rw [H.out]; rintro e w3 ⟨rfl, rfl⟩) | ((with_reducible refine (specSwitchesOf_any v m _ HI.out).mono ?_); rw [HS.out]; rintro e w6 ⟨u, rfl, hu, b6⟩; obtain ⟨ua, uc, rfl⟩ := ownA_slice hu; clear hu))
    go_ret
    exact ⟨ret_bool (by cases l <;> simp <;> omega), b6⟩
theorem appRows_one {R C : Nat} {f : Nat → Nat → Int} (hI : Img R C f) (s : Sw) : appRows (mkM R C f) [s] = (if swB (mkM R C f) s then mkM R C (flipF f s) else []) ∧ appOk (mkM R C f) [s] = swB (mkM R C f) s := by
  unfold appRows appOk
  simp only [List.length_cons, List.length_nil, goM]
  cases swB (mkM R C f) s with
  | false => exact ⟨rfl, rfl⟩
  | true => rw [flipM_mk hI]; exact ⟨rfl, rfl⟩
set_option maxHeartbeats 1000000 in
theorem specApplySwitch_any (v : Value) (m : List (List Int)) (s : Sw) (w : World) (hin : InMat w v m) :
    Calls Try.prog 42 #[v, swV s] w (MatRes2 (appRowsB m [s]) (appOkB m [s]) w) := by
  have HI := hide hin
  cases hb : (okB m && swB m s) with
  | false =>
    have HS := hide hb
    have h1 : appRowsB m [s] = [] ∧ appOkB m [s] = false := by
      unfold appRowsB appOkB
      cases h : okB m with
      | false => exact ⟨rfl, rfl⟩
      | true =>
        rw [h, Bool.true_and] at hb
        obtain ⟨R, C, f, rfl, hI⟩ := ok_img h
        rw [Bool.true_and, if_pos rfl, (appRows_one hI s).1, (appRows_one hI s).2, hb]
        exact ⟨rfl, rfl⟩
    rw [h1.1, h1.2]
    clear hin hb h1
    go_enter Try.func42, Try.ntmps42
    go_wp2_with (first | ((with_reducible refine wpList_boxSw s 3 rfl rfl (.tmp 1) rfl rfl ?_); intro w2 h2 b2 s2; clear s2) | (with_reducible refine wpList_loadSwC (swC_at h2) 7 rfl rfl _ rfl rfl ?_) | ((with_reducible refine (specSwitchOk_any v m s _ (inMat_below HI.out b2)).mono ?_); rw [HS.out]; rintro e w3 ⟨rfl, b3⟩; have hb3 := b2.trans (b3.mono b2.size)))
    go_ret2
    exact matRes2_nil hb3
  | true =>
    have HS := hide hb
    rw [Bool.and_eq_true] at hb
    obtain ⟨R, C, f, rfl, hI⟩ := ok_img hb.1
    have h1 : appRowsB (mkM R C f) [s] = mkM R C (flipF f s) ∧ appOkB (mkM R C f) [s] = true := by
      unfold appRowsB appOkB
      rw [hb.1, Bool.true_and, if_pos rfl, (appRows_one hI s).1, (appRows_one hI s).2, hb.2]
      exact ⟨rfl, rfl⟩
    rw [h1.1, h1.2]
    have HII := hide hI
    have HF := hide (show swF R C f s = true by rw [← swB_mk hI]; exact hb.2)
    clear hin hb h1 hI
    go_enter Try.func42, Try.ntmps42
    go_wp2_with (first | ((with_reducible refine wpList_boxSw s 3 rfl rfl (.tmp 1) rfl rfl ?_); intro w2 h2 b2 s2; clear s2) | (with_reducible refine wpList_loadSwC (swC_at h2) 7 rfl rfl _ rfl rfl ?_) | ((with_reducible refine (specSwitchOk_any v _ s _ (inMat_below HI.out b2)).mono ?_); rw [HS.out]; rintro e w3 ⟨rfl, b3⟩; have hb3 := b2.trans (b3.mono b2.size); have h3 := swAt_below h2 b3; clear h2) | (with_reducible refine wpList_loadSwC (swC_at h3) 11 rfl rfl _ rfl rfl ?_) | ((with_reducible refine (specApply_img v R C f s _ (inMat_below HI.out hb3) HII.out HF.out).mono ?_); rintro e w4 ⟨u, rfl, hu, b4⟩))
    go_ret2
    exact ⟨_, rfl, ownMat_mono hu hb3.size (Nat.le_refl _), hb3.trans (b4.mono hb3.size)⟩
set_option maxHeartbeats 1000000 in
theorem specApplyAll_no (v lv : Value) (m : List (List Int)) (l : List Sw) (w : World) (hin : InMat w v m) (hl : InSws w lv l) (h : okB m = false) :
    Calls Try.prog 49 #[v, lv] w (MatRes2 [] false w) := by
  have HI := hide hin; have H := hide h
  obtain ⟨la, lc, rfl, -⟩ := hl
  clear hin h
  go_enter Try.func49, Try.ntmps49
  go_wp2_with ((with_reducible refine (specImageOk_any v m _ HI.out).mono ?_); rw [H.out]; rintro e w3 ⟨rfl, rfl⟩)
  go_ret2
  exact matRes2_nil (Below.refl _ _)
set_option maxHeartbeats 1000000 in
theorem specApplyAll_long (v lv : Value) (m : List (List Int)) (l : List Sw) (w : World) (hin : InMat w v m) (h : okB m = true) (hl : InSws w lv l) (h60 : 60 < l.length) :
    Calls Try.prog 49 #[v, lv] w (MatRes2 [] false w) := by
  have HI := hide hin; have H := hide h
  obtain ⟨la, lc, rfl, hm, -⟩ := hl
  unfold maxLen at hm
  have h60I : (60 : Int) < l.length := by omega
  clear hin h
  go_enter Try.func49, Try.ntmps49
  go_wp2_with ((with_reducible refine (specImageOk_any v m _ HI.out).mono ?_); rw [H.out]; rintro e w3 ⟨rfl, rfl⟩)
  go_ret2
  exact matRes2_nil (Below.refl _ _)
set_option maxRecDepth 100000 in
set_option maxHeartbeats 4000000 in
theorem specApplyAll_yes (v lv : Value) (R C : Nat) (f : Nat → Nat → Int) (l : List Sw) (w : World) (hin : InMat w v (mkM R C f)) (hI : Img R C f) (hl : InSws w lv l) (h60 : l.length ≤ 60) :
    Calls Try.prog 49 #[v, lv] w (MatRes2 (appRows (mkM R C f) l) (appOk (mkM R C f) l) w) := by
  have HI := hide hin; have H := hide hI; have HO := hide (img_ok hI)
  obtain ⟨la, lc, rfl, hm, hp⟩ := hl
  have HP := hide hp
  unfold maxLen at hm
  obtain ⟨n, hn⟩ : ∃ n, n = l.length := ⟨_, rfl⟩
  have HN := hide hn
  rw [← hn] at hm h60 ⊢
  have h60I : (n : Int) ≤ 60 := by omega
  clear hin hI hp hn
  go_enter Try.func49, Try.ntmps49
  go_wp2_with (first | ((with_reducible refine (specImageOk_any v _ _ HI.out).mono ?_); rw [HO.out]; rintro e w3 ⟨rfl, rfl⟩) | ((with_reducible refine (l02Copy_any v R C f _ HI.out H.out).mono ?_); rintro e w1 ⟨u, rfl, hu, b1⟩))
  have HM := hide hu; have HB := hide b1
  clear hu b1
  go_loopw [6, 21] (fun y t w' => ∃ (k : Nat) (fk : Nat → Nat → Int) (u : Value), k ≤ n ∧ t = .int .i64 k ∧ u = y ∧ Img R C fk ∧ goM (mkM R C f) (l.take k) = some (mkM R C fk) ∧ OwnMat w' w.heap.size w'.heap.size u (mkM R C fk) ∧ Below w.heap.size w w') (fun _ t _ => n - (intOf t).toNat)
  case atStart => exact ⟨0, f, _, by omega, rfl, rfl, H.out, by rw [List.take_zero]; rfl, HM.out, HB.out⟩
  case round =>
    clear HM HB
    obtain ⟨k, fk, u, hk, rfl, rfl, hik, hgo, hmm, hb⟩ := hrel
    have HIK := hide hik; have HGO := hide hgo; have HM := hide hmm; have HB := hide hb
    clear hik hgo hmm hb
    by_cases hlt : k < n
    · have hltI : (k : Int) < n := by omega
      have hkl : k < l.length := by rw [← HN.out]; exact hlt
      obtain ⟨gl, ol, rfl, hgl, hcl⟩ := HP.out.resolve_left (by omega)
      have HC := hide (swC_below (hcl k hkl) HB.out hgl)
      have HT := hide fun h => goM_take hkl HGO.out h
      have HST := hide fun h => goM_stop hkl HGO.out h
      obtain ⟨s, hs⟩ : ∃ s, s = l[k] := ⟨_, rfl⟩
      rw [← hs] at HC HT HST
      clear hs hcl
      cases hsb : swF R C fk s with
      | false =>
        have HSB := hide (show (okB (mkM R C fk) && swB (mkM R C fk) s) = false by rw [swB_mk HIK.out, hsb, Bool.and_false])
        have HNN := hide (app_none (by rw [← HN.out]; exact h60) (HST.out (by rw [swB_mk HIK.out, hsb])))
        clear hsb
        go_wp2_with (first | (with_reducible refine wpList_loadSwC HC.out 24 rfl rfl _ rfl rfl ?_) | ((with_reducible refine wpList_allocSw 8 rfl rfl rfl ?_); intro w7 h7 b7 s7) | ((refine wpList_storeSw h7 s rfl (.tmp 8) (.tmp 24) rfl rfl rfl ?_); intro w8 h8 g8 s8; have b8 := b7.trans (grown_below g8 (fun k hk => by cases hk; exact Nat.le_refl _) b7.size); have HM1 := hide (ownMat_mono (ownMat_below HM.out b8) (Nat.le_refl _) b8.size); have HB1 := hide (HB.out.trans (b8.mono HB.out.size)); clear h7 b7 s7 g8 s8 b8) | (with_reducible refine wpList_loadSwC (swC_at h8) 26 rfl rfl _ rfl rfl ?_) | ((with_reducible refine (specSwitchOk_any _ (mkM R C fk) s _ (inMat_own HM1.out)).mono ?_); rw [HSB.out]; rintro e w9 ⟨rfl, b9⟩; replace HM1 := hide (ownMat_mono (ownMat_below HM1.out b9) (Nat.le_refl _) b9.size); have h9 := swAt_below h8 b9; replace HB1 := hide (HB1.out.trans (b9.mono HB1.out.size)); clear h8 b9) | (with_reducible refine wpList_loadSwC (swC_at h9) 30 rfl rfl _ rfl rfl ?_) | ((with_reducible refine (specApply_img _ R C fk s _ (inMat_own HM1.out) HIK.out HSF.out).mono ?_); rintro e wa ⟨u2, rfl, hu, b10⟩))
        go_ret2
        rw [HNN.out.1, HNN.out.2]
        exact matRes2_nil HB1.out
      | true =>
        have HSB := hide (show (okB (mkM R C fk) && swB (mkM R C fk) s) = true by rw [swB_mk HIK.out, hsb, img_ok HIK.out]; rfl)
        have HSF := hide hsb
        have HTT := hide (HT.out (by rw [swB_mk HIK.out, hsb]))
        rw [flipM_mk HIK.out] at HTT
        clear hsb
        go_wp2_with (first | (with_reducible refine wpList_loadSwC HC.out 24 rfl rfl _ rfl rfl ?_) | ((with_reducible refine wpList_allocSw 8 rfl rfl rfl ?_); intro w7 h7 b7 s7) | ((refine wpList_storeSw h7 s rfl (.tmp 8) (.tmp 24) rfl rfl rfl ?_); intro w8 h8 g8 s8; have b8 := b7.trans (grown_below g8 (fun k hk => by cases hk; exact Nat.le_refl _) b7.size); have HM1 := hide (ownMat_mono (ownMat_below HM.out b8) (Nat.le_refl _) b8.size); have HB1 := hide (HB.out.trans (b8.mono HB.out.size)); clear h7 b7 s7 g8 s8 b8) | (with_reducible refine wpList_loadSwC (swC_at h8) 26 rfl rfl _ rfl rfl ?_) | ((with_reducible refine (specSwitchOk_any _ (mkM R C fk) s _ (inMat_own HM1.out)).mono ?_); rw [HSB.out]; rintro e w9 ⟨rfl, b9⟩; replace HM1 := hide (ownMat_mono (ownMat_below HM1.out b9) (Nat.le_refl _) b9.size); have h9 := swAt_below h8 b9; replace HB1 := hide (HB1.out.trans (b9.mono HB1.out.size)); clear h8 b9) | (with_reducible refine wpList_loadSwC (swC_at h9) 30 rfl rfl _ rfl rfl ?_) | ((with_reducible refine (specApply_img _ R C fk s _ (inMat_own HM1.out) HIK.out HSF.out).mono ?_); rintro e wa ⟨u2, rfl, hu, b10⟩))
        go_roundw
        case rel => exact ⟨k + 1, flipF fk s, _, by omega, by go_num, rfl, flipF_img HIK.out s, HTT.out, ownMat_mono hu HB1.out.size (Nat.le_refl _), HB1.out.trans (b10.mono HB1.out.size)⟩
        case measure => simp [intOf]; omega
    · obtain rfl : k = n := by omega
      have HSO := hide (app_some (by rw [← HN.out]; exact h60) (goM_full (by rw [← HN.out]; exact HGO.out)))
      go_wp2
      go_ret2
      rw [HSO.out.1, HSO.out.2]
      exact ⟨_, rfl, HM.out, HB.out⟩
theorem specApplyAll_any (v lv : Value) (m : List (List Int)) (l : List Sw) (w : World) (hin : InMat w v m) (hl : InSws w lv l) :
    Calls Try.prog 49 #[v, lv] w (MatRes2 (appRowsB m l) (appOkB m l) w) := by
  unfold appRowsB appOkB
  cases h : okB m with
  | false => exact specApplyAll_no v lv m l w hin hl h
  | true =>
    rw [Bool.true_and, if_pos rfl]
    by_cases h60 : l.length ≤ 60
    · obtain ⟨R, C, f, rfl, hI⟩ := ok_img h
      exact specApplyAll_yes v lv R C f l w hin hI hl h60
    · have := app_long (m := m) (l := l) (by omega)
      rw [this.1, this.2]
      exact specApplyAll_long v lv m l w hin h hl (by omega)
end Go.Proofs.Ytnhijmhambggbaa
