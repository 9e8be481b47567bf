/-
  ApplyAll, ApplySwitch, SwitchOk, SwitchesOf, IsUnique of the program.
-/
import Derived.Test.YtnhijmhambggbaaSws
namespace Go.Proofs.Ytnhijmhambggbaa
open Go.RowKit

theorem wpList_loadSwW {ops : Array Oper} {rest : List Oper} {o : Oper} {a : Act} {Q : Exit → Act → World → Prop} {W : World} {g k : Nat} {s : Sw} (hb : SwC W g k s)
    (d : Tmp) (_hd : o.dst = some d) (j : Nat) (want : Bool) (hg : o.guard = some (j, want)) (b : Bool) (hy : yielded ops a.tmps j = some b) (hw : b = want) (x : Operand) (ho : o.op = .load 42 x) (hx : a.eval x = .pointer (some ⟨g, k, none⟩))
    (h : wpList Try.prog ops Q rest (a.put o.dst (swV s)) W) : wpList Try.prog ops Q (o :: rest) a W := by
  obtain ⟨h0, h1, h2, h3⟩ := hb
  refine wpList_step fun K hK => ?_
  rw [if_pos (show Region.wanted o (yielded ops a.tmps) = true by unfold Region.wanted; rw [hg]; simp only [hy, hw, beq_self_eq_true])]
  have : (execOp a.eval o).run Try.prog W = .ok (.value (swV s)) W := by
    unfold execOp
    simp only [ho, hx]
    go_simp
    rfl
  unfold Oper.wp
  rw [this]
  exact hK _ _ h
theorem goM_stop {m t : List (List Int)} {l : List Sw} {k : Nat} (hk : k < l.length) (h : goM m (l.take k) = some t) (hs : swB t l[k] = false) : goM m l = none := by
  have e : l = l.take k ++ (l[k] :: l.drop (k + 1)) := by rw [List.getElem_cons_drop, List.take_append_drop]
  rw [e, goM_append, h]
  simp only [Option.bind_some, goM, hs]
  rfl
theorem goM_take {m t : List (List Int)} {l : List Sw} {k : Nat} (hk : k < l.length) (h : goM m (l.take k) = some t) (hs : swB t l[k] = true) : goM m (l.take (k + 1)) = some (flipM t l[k]) := by
  rw [List.take_succ_eq_append_getElem hk]
  exact goM_snoc h hs
theorem goM_full {m : List (List Int)} {l : List Sw} {r : Option (List (List Int))} (h : goM m (l.take l.length) = r) : goM m l = r := by rwa [List.take_length] at h
/-- What ApplyAll answers. -/
def appRows (m : List (List Int)) (l : List Sw) : List (List Int) := if l.length ≤ 60 then (goM m l).getD [] else []
def appOk (m : List (List Int)) (l : List Sw) : Bool := decide (l.length ≤ 60) && (goM m l).isSome
theorem app_long {m : List (List Int)} {l : List Sw} (h : 60 < l.length) : appRows m l = [] ∧ appOk m l = false := by
  unfold appRows appOk
  rw [if_neg (by omega), decide_eq_false (by omega)]
  exact ⟨rfl, rfl⟩
theorem app_some {m t : List (List Int)} {l : List Sw} (h : l.length ≤ 60) (hg : goM m l = some t) : appRows m l = t ∧ appOk m l = true := by
  unfold appRows appOk
  rw [if_pos h, decide_eq_true h, hg]
  exact ⟨rfl, rfl⟩
theorem app_none {m : List (List Int)} {l : List Sw} (h : l.length ≤ 60) (hg : goM m l = none) : appRows m l = [] ∧ appOk m l = false := by
  unfold appRows appOk
  rw [if_pos h, decide_eq_true h, hg]
  exact ⟨rfl, rfl⟩
set_option maxHeartbeats 1000000 in
theorem implApplyAll_no (v lv : Value) (m : List (List Int)) (l : List Sw) (w : World) (hin : InMat w v m) (hl : InSws w lv l) (h : okB m = false) :
    Calls Try.prog 28 #[v, lv] w (MatRes2 [] false w) := by
  have HI := hide hin; have H := hide h
  obtain ⟨la, lc, rfl, -⟩ := hl
  clear hin h
  go_enter Try.func28, Try.ntmps28
  go_wp2_with (first | ((with_reducible refine (imageOf_no v m _ HI.out H.out).mono ?_); rintro e w1 ⟨rfl, b1⟩) | ((with_reducible refine wpList_allocVec 25 6 rfl rfl rfl Try.zeroImg ?_); intro w2 h2 b2 s2; have hb := b1.trans (b2.mono b1.size)) | ((with_reducible refine wpList_storeVec h2 rfl (.tmp 6) (.tmp 13) rfl rfl rfl Try.sizeImg ?_); intro w3 h3 g3 s3; have hb3 := hb.trans (grown_below g3 (fun k hk => by cases hk; exact b1.size) hb.size)))
  go_ret2
  exact matRes2_nil hb3
set_option maxRecDepth 100000 in
set_option maxHeartbeats 4000000 in
theorem implApplyAll_long (v lv : Value) (R C : Nat) (f : Nat → Nat → Int) (l : List Sw) (w : World) (hin : InMat w v (mkM R C f)) (hI : Img R C f) (hl : InSws w lv l) (h60 : 60 < l.length) :
    Calls Try.prog 28 #[v, lv] w (MatRes2 [] false w) := by
  have HI := hide hin; have H := hide hI
  obtain ⟨la, lc, rfl, hm, -⟩ := hl
  unfold maxLen at hm
  have h60I : (60 : Int) < l.length := by omega
  clear hin hI
  go_enter Try.func28, Try.ntmps28
  go_wp2_with (first | ((with_reducible refine (imageOf_yes v R C f _ HI.out H.out).mono ?_); rintro e w1 ⟨rfl, b1⟩) | ((with_reducible refine wpList_allocVec 25 6 rfl rfl rfl Try.zeroImg ?_); intro w2 h2 b2 s2; have hb := b1.trans (b2.mono b1.size)) | ((with_reducible refine wpList_storeVec h2 rfl (.tmp 6) (.tmp 13) rfl rfl rfl Try.sizeImg ?_); intro w3 h3 g3 s3; have hb3 := hb.trans (grown_below g3 (fun k hk => by cases hk; exact b1.size) hb.size)))
  go_ret2
  exact matRes2_nil hb3
set_option maxRecDepth 100000 in
set_option maxHeartbeats 4000000 in
theorem implApplyAll_yes (v lv : Value) (R C : Nat) (f : Nat → Nat → Int) (l : List Sw) (w : World) (hin : InMat w v (mkM R C f)) (hI : Img R C f) (hl : InSws w lv l) (h60 : l.length ≤ 60) :
    Calls Try.prog 28 #[v, lv] w (MatRes2 (appRows (mkM R C f) l) (appOk (mkM R C f) l) w) := by
  have HI := hide hin; have H := hide hI
  obtain ⟨la, lc, rfl, hm, hp⟩ := hl
  have HP := hide hp
  unfold maxLen at hm
  obtain ⟨n, hn⟩ : ∃ n, n = l.length := ⟨_, rfl⟩
  have HN := hide hn
  rw [← hn] at hm h60 ⊢
  have h60I : (n : Int) ≤ 60 := by omega
  clear hin hI hp hn
  go_enter Try.func28, Try.ntmps28
  go_wp2_with (first | ((with_reducible refine (imageOf_yes v R C f _ HI.out H.out).mono ?_); rintro e w1 ⟨rfl, b1⟩) | ((with_reducible refine wpList_allocVec 25 6 rfl rfl rfl Try.zeroImg ?_); intro w2 h2 b2 s2; have hb := b1.trans (b2.mono b1.size)) | ((with_reducible refine wpList_storeVec h2 rfl (.tmp 6) (.tmp 13) rfl rfl rfl Try.sizeImg ?_); intro w3 h3 g3 s3; have HB := hide (hb.trans (grown_below g3 (fun k hk => by cases hk; exact b1.size) hb.size))))
  have HF := hide h3
  have hp0 := b1.size
  obtain ⟨p, hp⟩ : ∃ p, p = w1.heap.size := ⟨_, rfl⟩
  rw [← hp] at HF hp0 ⊢
  clear b1 h2 b2 s2 hb h3 g3 s3 hp
  go_loopw [24] (fun t w' => ∃ (k : Nat) (fk : Nat → Nat → Int), k ≤ n ∧ t = .int .i64 k ∧ Img R C fk ∧ goM (mkM R C f) (l.take k) = some (mkM R C fk) ∧ Blk w' p 88 25 (imgF R C fk) ∧ Below w.heap.size w w') (fun t _ => n - (intOf t).toNat)
  case atStart => exact ⟨0, f, by omega, rfl, H.out, by rw [List.take_zero]; rfl, HF.out, HB.out⟩
  case round =>
    clear HF HB
    obtain ⟨k, fk, hk, rfl, hik, hgo, hf, hb⟩ := hrel
    have HIK := hide hik; have HGO := hide hgo; have HF := hide hf; have HB := hide hb
    clear hik hgo hf hb
    by_cases hlt : k < n
    · have hltI : (k : Int) < n := by omega
      have hkl : k < l.length := by rw [← HN.out]; exact hlt
      obtain ⟨gl, ol, rfl, hgl, hcl⟩ := HP.out.resolve_left (by omega)
      have HC := hide (swC_below (hcl k hkl) HB.out hgl)
      have HT := hide fun h => goM_take hkl HGO.out h
      have HST := hide fun h => goM_stop hkl HGO.out h
      obtain ⟨s, hs⟩ : ∃ s, s = l[k] := ⟨_, rfl⟩
      rw [← hs] at HC HT HST
      clear hs hcl
      cases hsb : swF R C fk s with
      | false =>
        have HSB := hide (show hasF (imgF R C fk) s = false by rw [hasF_img HIK.out, hsb])
        have HNN := hide (app_none (by rw [← HN.out]; exact h60) (HST.out (by rw [swB_mk HIK.out, hsb])))
        clear hsb
        go_wp2_with (first | (with_reducible refine wpList_loadSwC HC.out 27 rfl rfl _ rfl rfl ?_) | ((with_reducible refine wpList_allocSw 9 rfl rfl rfl ?_); intro w7 h7 b7 s7) | ((refine wpList_storeSw h7 s rfl (.tmp 9) (.tmp 27) rfl rfl rfl ?_); intro w8 h8 g8 s8; have b8 := b7.trans (grown_below g8 (fun k hk => by cases hk; exact Nat.le_refl _) b7.size); have HF1 := hide (blk_below HF.out b8); have HB1 := hide (HB.out.trans (b8.mono HB.out.size)); clear h7 b7 s7 g8 s8 b8) | (with_reducible refine wpList_loadVec HF1.out 28 rfl rfl _ rfl rfl Try.underlying88 Try.sizeImg ?_) | (with_reducible refine wpList_loadSwC (swC_at h8) 29 rfl rfl _ rfl rfl ?_) | ((with_reducible refine (hasSwitch_any (imgF R C fk) s _).mono ?_); rw [HSB.out]; rintro e w9 ⟨rfl, b9⟩; replace HF1 := hide (blk_below HF1.out b9); have h9 := swAt_below h8 b9; replace HB1 := hide (HB1.out.trans (b9.mono HB1.out.size)); clear h8 b9) | (with_reducible refine wpList_loadVec HF1.out 32 rfl rfl _ rfl rfl Try.underlying88 Try.sizeImg ?_) | (with_reducible refine wpList_loadSwC (swC_at h9) 33 rfl rfl _ rfl rfl ?_) | ((with_reducible refine (switched_img R C fk s _ HIK.out HSF.out).mono ?_); rintro e wa ⟨rfl, b10⟩; replace HF1 := hide (blk_below HF1.out b10); replace HB1 := hide (HB1.out.trans (b10.mono HB1.out.size)); clear b10) | ((with_reducible refine wpList_storeVec HF1.out rfl (.tmp 6) (.tmp 34) rfl rfl rfl Try.sizeImg ?_); intro wb ha gb sb; have HB2 := hide (HB1.out.trans (grown_below gb (fun k hk => by cases hk; exact hp0) HB1.out.size))))
        go_ret2
        rw [HNN.out.1, HNN.out.2]
        exact matRes2_nil HB1.out
      | true =>
        have HSB := hide (show hasF (imgF R C fk) s = true by rw [hasF_img HIK.out, hsb])
        have HSF := hide hsb
        have HTT := hide (HT.out (by rw [swB_mk HIK.out, hsb]))
        rw [flipM_mk HIK.out] at HTT
        clear hsb
        go_wp2_with (first | (with_reducible refine wpList_loadSwC HC.out 27 rfl rfl _ rfl rfl ?_) | ((with_reducible refine wpList_allocSw 9 rfl rfl rfl ?_); intro w7 h7 b7 s7) | ((refine wpList_storeSw h7 s rfl (.tmp 9) (.tmp 27) rfl rfl rfl ?_); intro w8 h8 g8 s8; have b8 := b7.trans (grown_below g8 (fun k hk => by cases hk; exact Nat.le_refl _) b7.size); have HF1 := hide (blk_below HF.out b8); have HB1 := hide (HB.out.trans (b8.mono HB.out.size)); clear h7 b7 s7 g8 s8 b8) | (with_reducible refine wpList_loadVec HF1.out 28 rfl rfl _ rfl rfl Try.underlying88 Try.sizeImg ?_) | (with_reducible refine wpList_loadSwC (swC_at h8) 29 rfl rfl _ rfl rfl ?_) | ((with_reducible refine (hasSwitch_any (imgF R C fk) s _).mono ?_); rw [HSB.out]; rintro e w9 ⟨rfl, b9⟩; replace HF1 := hide (blk_below HF1.out b9); have h9 := swAt_below h8 b9; replace HB1 := hide (HB1.out.trans (b9.mono HB1.out.size)); clear h8 b9) | (with_reducible refine wpList_loadVec HF1.out 32 rfl rfl _ rfl rfl Try.underlying88 Try.sizeImg ?_) | (with_reducible refine wpList_loadSwC (swC_at h9) 33 rfl rfl _ rfl rfl ?_) | ((with_reducible refine (switched_img R C fk s _ HIK.out HSF.out).mono ?_); rintro e wa ⟨rfl, b10⟩; replace HF1 := hide (blk_below HF1.out b10); replace HB1 := hide (HB1.out.trans (b10.mono HB1.out.size)); clear b10) | ((with_reducible refine wpList_storeVec HF1.out rfl (.tmp 6) (.tmp 34) rfl rfl rfl Try.sizeImg ?_); intro wb ha gb sb; have HB2 := hide (HB1.out.trans (grown_below gb (fun k hk => by cases hk; exact hp0) HB1.out.size))))
        go_roundw
        case rel => exact ⟨k + 1, flipF fk s, by omega, by go_num, flipF_img HIK.out s, HTT.out, ha, HB2.out⟩
        case measure => simp [intOf]; omega
    · obtain rfl : k = n := by omega
      have HSO := hide (app_some (by rw [← HN.out]; exact h60) (goM_full (by rw [← HN.out]; exact HGO.out)))
      go_wp2_with (first | (with_reducible refine wpList_loadVec HF.out 36 rfl rfl _ rfl rfl Try.underlying88 Try.sizeImg ?_) | ((with_reducible refine (lists_any R C fk _ HIK.out).mono ?_); rintro e w5 ⟨u, rfl, hu, b5⟩))
      go_ret2
      rw [HSO.out.1, HSO.out.2]
      exact ⟨_, rfl, ownMat_mono hu HB.out.size (Nat.le_refl _), HB.out.trans (b5.mono HB.out.size)⟩
def appRowsB (m : List (List Int)) (l : List Sw) : List (List Int) := if okB m then appRows m l else []
def appOkB (m : List (List Int)) (l : List Sw) : Bool := okB m && appOk m l
theorem implApplyAll_any (v lv : Value) (m : List (List Int)) (l : List Sw) (w : World) (hin : InMat w v m) (hl : InSws w lv l) :
    Calls Try.prog 28 #[v, lv] w (MatRes2 (appRowsB m l) (appOkB m l) w) := by
  unfold appRowsB appOkB
  cases h : okB m with
  | false => exact implApplyAll_no v lv m l w hin hl h
  | true =>
    obtain ⟨R, C, f, rfl, hI⟩ := ok_img h
    rw [Bool.true_and, if_pos rfl]
    by_cases h60 : l.length ≤ 60
    · exact implApplyAll_yes v lv R C f l w hin hI hl h60
    · have := app_long (m := mkM R C f) (l := l) (by omega)
      rw [this.1, this.2]
      exact implApplyAll_long v lv R C f l w hin hI hl (by omega)
theorem inSws_one {w : World} {g : Nat} {s : Sw} (h : SwAt w g s) : InSws w (.slice (some ⟨g, 0, none⟩) 1 1) [s] :=
  ⟨_, 1, rfl, by simp [maxLen], .inr ⟨g, 0, rfl, swAt_lt h, fun i hi => by
    obtain rfl : i = 0 := by simp at hi; omega
    exact swC_at h⟩⟩
set_option maxHeartbeats 1000000 in
theorem implApplySwitch_any (v : Value) (m : List (List Int)) (s : Sw) (w : World) (hin : InMat w v m) :
    Calls Try.prog 27 #[v, swV s] w (MatRes2 (appRowsB m [s]) (appOkB m [s]) w) := by
  have HI := hide hin
  clear hin
  go_enter Try.func27, Try.ntmps27
  go_wp2_with (first | ((with_reducible refine wpList_boxSw s 3 rfl rfl (.tmp 1) rfl rfl ?_); intro w2 h2 b2 s2; clear s2) | (with_reducible refine wpList_loadSwC (swC_at h2) 7 rfl rfl _ rfl rfl ?_) | (refine wpList_buildOneA (swA s) _ 8 rfl rfl (.tmp 7) rfl rfl Try.underlying36 Try.infoSw (by decide) (by decide) rfl ?_; have hal := (Below.refl w2.heap.size w2).alloc (Nat.le_refl _) (.cells (swA s) 42); have HL := hide (inSws_one (swAt_new w2 s)); have HB := hide (b2.trans (hal.mono b2.size)); have HI2 := hide (inMat_below HI.out HB.out); clear hal h2) | ((with_reducible refine (implApplyAll_any v _ m [s] _ HI2.out HL.out).mono ?_); rintro e w4 ⟨u, rfl, hu, b4⟩))
  go_ret2
  exact ⟨_, rfl, ownMat_mono hu HB.out.size (Nat.le_refl _), HB.out.trans (b4.mono HB.out.size)⟩
set_option maxHeartbeats 1000000 in
theorem implSwitchOk_any (v : Value) (m : List (List Int)) (s : Sw) (w : World) (hin : InMat w v m) :
    Calls Try.prog 34 #[v, swV s] w fun e w' => e = .returned (.bool (okB m && swB m s)) ∧ Below w.heap.size w w' := by
  have HI := hide hin
  cases h : okB m with
  | false =>
    have H := hide h
    clear hin h
    go_enter Try.func34, Try.ntmps34
    go_wp2_with (first | ((with_reducible refine wpList_boxSw s 3 rfl rfl (.tmp 1) rfl rfl ?_); intro w2 h2 b2 s2; clear s2) | ((with_reducible refine (imageOf_no v m _ (inMat_below HI.out b2) H.out).mono ?_); rintro e w3 ⟨rfl, b3⟩) | ((with_reducible refine wpList_allocVec 25 5 rfl rfl rfl Try.zeroImg ?_); intro w4 h4 b4 s4; have hb := b2.trans ((b3.trans (b4.mono b3.size)).mono b2.size)) | ((with_reducible refine wpList_storeVec h4 rfl (.tmp 5) (.tmp 10) rfl rfl rfl Try.sizeImg ?_); intro w5 h5 g5 s5; have hb5 := hb.trans (grown_below g5 (fun k hk => by cases hk; exact Nat.le_trans b2.size b3.size) hb.size)))
    go_ret
    exact ⟨rfl, hb5⟩
  | true =>
    obtain ⟨R, C, f, rfl, hI⟩ := ok_img h
    have HII := hide hI
    have HSW := hide (show hasF (imgF R C f) s = swB (mkM R C f) s by rw [hasF_img hI, swB_mk hI])
    clear hin h hI
    go_enter Try.func34, Try.ntmps34
    go_wp2_with (first | ((with_reducible refine wpList_boxSw s 3 rfl rfl (.tmp 1) rfl rfl ?_); intro w2 h2 b2 s2; clear s2) | ((with_reducible refine (imageOf_yes v R C f _ (inMat_below HI.out b2) HII.out).mono ?_); rintro e w3 ⟨rfl, b3⟩; have h3 := swAt_below h2 b3; clear h2) | ((with_reducible refine wpList_allocVec 25 5 rfl rfl rfl Try.zeroImg ?_); intro w4 h4 b4 s4; have hb := b2.trans ((b3.trans (b4.mono b3.size)).mono b2.size); have hs4 := swAt_below h3 b4; have hlt := swAt_lt h3; clear h3) | ((with_reducible refine wpList_storeVec h4 rfl (.tmp 5) (.tmp 10) rfl rfl rfl Try.sizeImg ?_); intro w5 h5 g5 s5; have hb5 := hb.trans (grown_below g5 (fun k hk => by cases hk; exact Nat.le_trans b2.size b3.size) hb.size); have hs5 := swAt_grown hs4 g5 (by simp; omega); clear hs4 hb h4 b4 s4 g5 s5) | (with_reducible refine wpList_loadVecW h5 14 rfl 1 true rfl true rfl rfl _ rfl rfl Try.underlying88 Try.sizeImg ?_) | (refine wpList_loadSwW (swC_at hs5) 15 rfl 1 true rfl true rfl rfl _ rfl rfl ?_) | ((with_reducible refine (hasSwitch_any (imgF R C f) s _).mono ?_); rw [HSW.out]; rintro e w6 ⟨rfl, b6⟩; have hb6 := hb5.trans (b6.mono hb5.size)))
    go_ret
    exact ⟨by simp, hb6⟩
def swsOf (m : List (List Int)) : List Sw := if okB m then swsM m else []
set_option maxHeartbeats 1000000 in
theorem implSwitchesOf_any (v : Value) (m : List (List Int)) (w : World) (hin : InMat w v m) : Calls Try.prog 37 #[v] w (SwsRes (swsOf m) w) := by
  have HI := hide hin
  unfold swsOf
  cases h : okB m with
  | false =>
    have H := hide h
    clear hin h
    go_enter Try.func37, Try.ntmps37
    go_wp2_with (first | ((with_reducible refine (imageOf_no v m _ HI.out H.out).mono ?_); rintro e w3 ⟨rfl, b3⟩) | ((with_reducible refine wpList_allocVec 25 3 rfl rfl rfl Try.zeroImg ?_); intro w4 h4 b4 s4; have hb := b3.trans (b4.mono b3.size)) | ((with_reducible refine wpList_storeVec h4 rfl (.tmp 3) (.tmp 8) rfl rfl rfl Try.sizeImg ?_); intro w5 h5 g5 s5; have hb5 := hb.trans (grown_below g5 (fun k hk => by cases hk; exact b3.size) hb.size)))
    go_ret
    exact ⟨_, rfl, ownSws_nil _ _, hb5⟩
  | true =>
    obtain ⟨R, C, f, rfl, hI⟩ := ok_img h
    have HII := hide hI
    clear hin h hI
    go_enter Try.func37, Try.ntmps37
    go_wp2_with (first | ((with_reducible refine (imageOf_yes v R C f _ HI.out HII.out).mono ?_); rintro e w3 ⟨rfl, b3⟩) | ((with_reducible refine wpList_allocVec 25 3 rfl rfl rfl Try.zeroImg ?_); intro w4 h4 b4 s4; have hb := b3.trans (b4.mono b3.size)) | ((with_reducible refine wpList_storeVec h4 rfl (.tmp 3) (.tmp 8) rfl rfl rfl Try.sizeImg ?_); intro w5 h5 g5 s5; have hb5 := hb.trans (grown_below g5 (fun k hk => by cases hk; exact b3.size) hb.size)) | (with_reducible refine wpList_loadVec h5 12 rfl rfl _ rfl rfl Try.underlying88 Try.sizeImg ?_) | ((with_reducible refine (switches_any R C f _ HII.out).mono ?_); rintro e w6 ⟨u, rfl, hu, b6⟩))
    go_ret
    exact ⟨_, rfl, ownSws_base hu hb5.size, hb5.trans (b6.mono hb5.size)⟩
def uniqB (m : List (List Int)) : Bool := okB m && (swsM m).isEmpty
set_option maxHeartbeats 1000000 in
theorem implIsUnique_any (v : Value) (m : List (List Int)) (w : World) (hin : InMat w v m) : Calls Try.prog 21 #[v] w fun e w' => e = .returned (.bool (uniqB m)) ∧ Below w.heap.size w w' := by
  have HI := hide hin
  unfold uniqB
  cases h : okB m with
  | false =>
    have H := hide h
    clear hin h
    go_enter Try.func21, Try.ntmps21
    go_wp2_with ((with_reducible refine (implImageOk_any v m _ HI.out).mono ?_); rw [H.out]; rintro e w3 ⟨rfl, rfl⟩)
    go_ret
    exact ⟨rfl, Below.refl _ _⟩
  | true =>
    have H := hide h
    have HS := hide (show swsOf m = swsM m by unfold swsOf; rw [h]; rfl)
    have HL := hide (show (swsM m).length ≤ 625 from upS_len m 625)
    clear hin h
    obtain ⟨l, hl⟩ : ∃ l, l = swsM m := ⟨_, rfl⟩
    rw [← hl] at HS HL ⊢
    clear hl
    go_enter Try.func21, Try.ntmps21
    go_wp2_with (first | ((with_reducible refine (implImageOk_any v m _ HI.out).mono ?_); rw [H.out]; rintro e w3 ⟨rfl, rfl⟩) | ((with_reducible refine (implSwitchesOf_any v m _ HI.out).mono ?_); rw [HS.out]; rintro e w6 ⟨u, rfl, hu, b6⟩; obtain ⟨ua, uc, rfl⟩ := ownA_slice hu; clear hu))
    go_ret
    exact ⟨ret_bool (by cases l <;> simp <;> omega), b6⟩
end Go.Proofs.Ytnhijmhambggbaa
