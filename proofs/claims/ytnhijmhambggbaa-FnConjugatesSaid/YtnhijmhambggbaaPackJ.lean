/-
  Texts of this claim, one behind the other: App, Cj, ConjR.
-/
import Derived.Test.YtnhijmhambggbaaPackI
import Derived.Test.YtnhijmhambggbaaPackD
import Derived.Test.YtnhijmhambggbaaPackH
import Derived.Test.YtnhijmhambggbaaPackG
/-
  ApplyAll, ApplySwitch, SwitchOk, SwitchesOf, IsUnique of the program.
-/
namespace Go.Proofs.Ytnhijmhambggbaa
open Go.RowKit

theorem wpList_loadSwW {ops : Array Oper} {rest : List Oper} {o : Oper} {a : Act} {Q : Exit → Act → World → Prop} {W : World} {g k : Nat} {s : Sw} (hb : SwC W g k s)
    (d : Tmp) (_hd : o.dst = some d) (j : Nat) (want : Bool) (hg : o.guard = some (j, want)) (b : Bool) (hy : yielded ops a.tmps j = some b) (hw : b = want) (x : Operand) (ho : o.op = .load 42 x) (hx : a.eval x = .pointer (some ⟨g, k, none⟩))
    (h : wpList Try.prog ops Q rest (a.put o.dst (swV s)) W) : wpList Try.prog ops Q (o :: rest) a W := by
  obtain ⟨h0, h1, h2, h3⟩ := hb
  refine wpList_step fun K hK => ?_
  rw [if_pos (show Region.wanted o (yielded ops a.tmps) = true by unfold Region.wanted; rw [hg]; simp only [hy, hw, beq_self_eq_true])]
  have : (execOp a.eval o).run Try.prog W = .ok (.value (swV s)) W := by
    unfold execOp
    simp only [ho, hx]
    go_simp
    rfl
  unfold Oper.wp
  rw [this]
  exact hK _ _ h
theorem goM_stop {m t : List (List Int)} {l : List Sw} {k : Nat} (hk : k < l.length) (h : goM m (l.take k) = some t) (hs : swB t l[k] = false) : goM m l = none := by
  have e : l = l.take k ++ (l[k] :: l.drop (k + 1)) := by rw [List.getElem_cons_drop, List.take_append_drop]
  rw [e, goM_append, h]
  simp only [Option.bind_some, goM, hs]
  rfl
theorem goM_take {m t : List (List Int)} {l : List Sw} {k : Nat} (hk : k < l.length) (h : goM m (l.take k) = some t) (hs : swB t l[k] = true) : goM m (l.take (k + 1)) = some (flipM t l[k]) := by
  rw [List.take_succ_eq_append_getElem hk]
  exact goM_snoc h hs
theorem goM_full {m : List (List Int)} {l : List Sw} {r : Option (List (List Int))} (h : goM m (l.take l.length) = r) : goM m l = r := by rwa [List.take_length] at h
/-- What ApplyAll answers. -/
def appRows (m : List (List Int)) (l : List Sw) : List (List Int) := if l.length ≤ 60 then (goM m l).getD [] else []
def appOk (m : List (List Int)) (l : List Sw) : Bool := decide (l.length ≤ 60) && (goM m l).isSome
theorem app_long {m : List (List Int)} {l : List Sw} (h : 60 < l.length) : appRows m l = [] ∧ appOk m l = false := by
  unfold appRows appOk
  rw [if_neg (by omega), decide_eq_false (by omega)]
  exact ⟨rfl, rfl⟩
theorem app_some {m t : List (List Int)} {l : List Sw} (h : l.length ≤ 60) (hg : goM m l = some t) : appRows m l = t ∧ appOk m l = true := by
  unfold appRows appOk
  rw [if_pos h, decide_eq_true h, hg]
  exact ⟨rfl, rfl⟩
theorem app_none {m : List (List Int)} {l : List Sw} (h : l.length ≤ 60) (hg : goM m l = none) : appRows m l = [] ∧ appOk m l = false := by
  unfold appRows appOk
  rw [if_pos h, decide_eq_true h, hg]
  exact ⟨rfl, rfl⟩
set_option maxHeartbeats 1000000 in
theorem implApplyAll_no (v lv : Value) (m : List (List Int)) (l : List Sw) (w : World) (hin : InMat w v m) (hl : InSws w lv l) (h : okB m = false) :
    Calls Try.prog 28 #[v, lv] w (MatRes2 [] false w) := by
  have HI := hide hin; have H := hide h
  obtain ⟨la, lc, rfl, -⟩ := hl
  clear hin h
  go_enter Try.func28, Try.ntmps28
  go_wp2_with (first | ((with_reducible refine (imageOf_no v m _ HI.out H.out).mono ?_); rintro e w1 ⟨rfl, b1⟩) | ((with_reducible refine wpList_allocVec 25 6 rfl rfl rfl Try.zeroImg ?_); intro w2 h2 b2 s2; have hb := b1.trans (b2.mono b1.size)) | ((with_reducible refine wpList_storeVec h2 rfl (.tmp 6) (.tmp 13) rfl rfl rfl Try.sizeImg ?_); intro w3 h3 g3 s3; have hb3 := hb.trans (grown_below g3 (fun k hk => by cases hk; exact b1.size) hb.size)))
  go_ret2
  exact matRes2_nil hb3
set_option maxRecDepth 100000 in
set_option maxHeartbeats 4000000 in
theorem implApplyAll_long (v lv : Value) (R C : Nat) (f : Nat → Nat → Int) (l : List Sw) (w : World) (hin : InMat w v (mkM R C f)) (hI : Img R C f) (hl : InSws w lv l) (h60 : 60 < l.length) :
    Calls Try.prog 28 #[v, lv] w (MatRes2 [] false w) := by
  have HI := hide hin; have H := hide hI
  obtain ⟨la, lc, rfl, hm, -⟩ := hl
  unfold maxLen at hm
  have h60I : (60 : Int) < l.length := by omega
  clear hin hI
  go_enter Try.func28, Try.ntmps28
  go_wp2_with (first | ((with_reducible refine (imageOf_yes v R C f _ HI.out H.out).mono ?_); rintro e w1 ⟨rfl, b1⟩) | ((with_reducible refine wpList_allocVec 25 6 rfl rfl rfl Try.zeroImg ?_); intro w2 h2 b2 s2; have hb := b1.trans (b2.mono b1.size)) | ((with_reducible refine wpList_storeVec h2 rfl (.tmp 6) (.tmp 13) rfl rfl rfl Try.sizeImg ?_); intro w3 h3 g3 s3; have hb3 := hb.trans (grown_below g3 (fun k hk => by cases hk; exact b1.size) hb.size)))
  go_ret2
  exact matRes2_nil hb3
set_option maxRecDepth 100000 in
set_option maxHeartbeats 4000000 in
theorem implApplyAll_yes (v lv : Value) (R C : Nat) (f : Nat → Nat → Int) (l : List Sw) (w : World) (hin : InMat w v (mkM R C f)) (hI : Img R C f) (hl : InSws w lv l) (h60 : l.length ≤ 60) :
    Calls Try.prog 28 #[v, lv] w (MatRes2 (appRows (mkM R C f) l) (appOk (mkM R C f) l) w) := by
  have HI := hide hin; have H := hide hI
  obtain ⟨la, lc, rfl, hm, hp⟩ := hl
  have HP := hide hp
  unfold maxLen at hm
  obtain ⟨n, hn⟩ : ∃ n, n = l.length := ⟨_, rfl⟩
  have HN := hide hn
  rw [← hn] at hm h60 ⊢
  have h60I : (n : Int) ≤ 60 := by omega
  clear hin hI hp hn
  go_enter Try.func28, Try.ntmps28
  go_wp2_with (first | ((with_reducible refine (imageOf_yes v R C f _ HI.out H.out).mono ?_); rintro e w1 ⟨rfl, b1⟩) | ((with_reducible refine wpList_allocVec 25 6 rfl rfl rfl Try.zeroImg ?_); intro w2 h2 b2 s2; have hb := b1.trans (b2.mono b1.size)) | ((with_reducible refine wpList_storeVec h2 rfl (.tmp 6) (.tmp 13) rfl rfl rfl Try.sizeImg ?_); intro w3 h3 g3 s3; have HB := hide (hb.trans (grown_below g3 (fun k hk => by cases hk; exact b1.size) hb.size))))
  have HF := hide h3
  have hp0 := b1.size
  obtain ⟨p, hp⟩ : ∃ p, p = w1.heap.size := ⟨_, rfl⟩
  rw [← hp] at HF hp0 ⊢
  clear b1 h2 b2 s2 hb h3 g3 s3 hp
  go_loopw [24] (fun t w' => ∃ (k : Nat) (fk : Nat → Nat → Int), k ≤ n ∧ t = .int .i64 k ∧ Img R C fk ∧ goM (mkM R C f) (l.take k) = some (mkM R C fk) ∧ Blk w' p 88 25 (imgF R C fk) ∧ Below w.heap.size w w') (fun t _ => n - (intOf t).toNat)
  case atStart => exact ⟨0, f, by omega, rfl, H.out, by rw [List.take_zero]; rfl, HF.out, HB.out⟩
  case round =>
    clear HF HB
    obtain ⟨k, fk, hk, rfl, hik, hgo, hf, hb⟩ := hrel
    have HIK := hide hik; have HGO := hide hgo; have HF := hide hf; have HB := hide hb
    clear hik hgo hf hb
    by_cases hlt : k < n
    · have hltI : (k : Int) < n := by omega
      have hkl : k < l.length := by rw [← HN.out]; exact hlt
      obtain ⟨gl, ol, rfl, hgl, hcl⟩ := HP.out.resolve_left (by omega)
      have HC := hide (swC_below (hcl k hkl) HB.out hgl)
      have HT := hide fun h => goM_take hkl HGO.out h
      have HST := hide fun h => goM_stop hkl HGO.out h
      obtain ⟨s, hs⟩ : ∃ s, s = l[k] := ⟨_, rfl⟩
      rw [← hs] at HC HT HST
      clear hs hcl
      cases hsb : swF R C fk s with
      | false =>
        have HSB := hide (show hasF (imgF R C fk) s = false by rw [hasF_img HIK.out, hsb])
        have HNN := hide (app_none (by rw [← HN.out]; exact h60) (HST.out (by rw [swB_mk HIK.out, hsb])))
        clear hsb
        go_wp2_with (first | (with_reducible refine wpList_loadSwC HC.out 27 rfl rfl _ rfl rfl ?_) | ((with_reducible refine wpList_allocSw 9 rfl rfl rfl ?_); intro w7 h7 b7 s7) | ((refine wpList_storeSw h7 s rfl (.tmp 9) (.tmp 27) rfl rfl rfl ?_); intro w8 h8 g8 s8; have b8 := b7.trans (grown_below g8 (fun k hk => by cases hk; exact Nat.le_refl _) b7.size); have HF1 := hide (blk_below HF.out b8); have HB1 := hide (HB.out.trans (b8.mono HB.out.size)); clear h7 b7 s7 g8 s8 b8) | (with_reducible refine wpList_loadVec HF1.out 28 rfl rfl _ rfl rfl Try.underlying88 Try.sizeImg ?_) | (with_reducible refine wpList_loadSwC (swC_at h8) 29 rfl rfl _ rfl rfl ?_) | ((with_reducible refine (hasSwitch_any (imgF R C fk) s _).mono ?_); rw [HSB.out]; rintro e w9 ⟨rfl, b9⟩; replace HF1 := hide (blk_below HF1.out b9); have h9 := swAt_below h8 b9; replace HB1 := hide (HB1.out.trans (b9.mono HB1.out.size)); clear h8 b9) | (with_reducible refine wpList_loadVec HF1.out 32 rfl rfl _ rfl rfl Try.underlying88 Try.sizeImg ?_) | (with_reducible refine wpList_loadSwC (swC_at h9) 33 rfl rfl _ rfl rfl ?_) | ((with_reducible refine (switched_img R C fk s _ HIK.out HSF.out).mono ?_); rintro e wa ⟨rfl, b10⟩; replace HF1 := hide (blk_below HF1.out b10); replace HB1 := hide (HB1.out.trans (b10.mono HB1.out.size)); clear b10) | ((with_reducible refine wpList_storeVec HF1.out rfl (.tmp 6) (.tmp 34) rfl rfl rfl Try.sizeImg ?_); intro wb ha gb sb; have HB2 := hide (HB1.out.trans (grown_below gb (fun k hk => by cases hk; exact hp0) HB1.out.size))))
        go_ret2
        rw [HNN.out.1, HNN.out.2]
        exact matRes2_nil HB1.out
      | true =>
        have HSB := hide (show hasF (imgF R C fk) s = true by rw [hasF_img HIK.out, hsb])
        have HSF := hide hsb
        have HTT := hide (HT.out (by rw [swB_mk HIK.out, hsb]))
        rw [flipM_mk HIK.out] at HTT
        clear hsb
        go_wp2_with (first | (with_reducible refine wpList_loadSwC HC.out 27 rfl rfl _ rfl rfl ?_) | ((with_reducible refine wpList_allocSw 9 rfl rfl rfl ?_); intro w7 h7 b7 s7) | ((refine wpList_storeSw h7 s rfl (.tmp 9) (.tmp 27) rfl rfl rfl ?_); intro w8 h8 g8 s8; have b8 := b7.trans (grown_below g8 (fun k hk => by cases hk; exact Nat.le_refl _) b7.size); have HF1 := hide (blk_below HF.out b8); have HB1 := hide (HB.out.trans (b8.mono HB.out.size)); clear h7 b7 s7 g8 s8 b8) | (with_reducible refine wpList_loadVec HF1.out 28 rfl rfl _ rfl rfl Try.underlying88 Try.sizeImg ?_) | (with_reducible refine wpList_loadSwC (swC_at h8) 29 rfl rfl _ rfl rfl ?_) | ((with_reducible refine (hasSwitch_any (imgF R C fk) s _).mono ?_); rw [HSB.out]; rintro e w9 ⟨rfl, b9⟩; replace HF1 := hide (blk_below HF1.out b9); have h9 := swAt_below h8 b9; replace HB1 := hide (HB1.out.trans (b9.mono HB1.out.size)); clear h8 b9) | (with_reducible refine wpList_loadVec HF1.out 32 rfl rfl _ rfl rfl Try.underlying88 Try.sizeImg ?_) | (with_reducible refine wpList_loadSwC (swC_at h9) 33 rfl rfl _ rfl rfl ?_) | ((with_reducible refine (switched_img R C fk s _ HIK.out HSF.out).mono ?_); rintro e wa ⟨rfl, b10⟩; replace HF1 := hide (blk_below HF1.out b10); replace HB1 := hide (HB1.out.trans (b10.mono HB1.out.size)); clear b10) | ((with_reducible refine wpList_storeVec HF1.out rfl (.tmp 6) (.tmp 34) rfl rfl rfl Try.sizeImg ?_); intro wb ha gb sb; have HB2 := hide (HB1.out.trans (grown_below gb (fun k hk => by cases hk; exact hp0) HB1.out.size))))
        go_roundw
        case rel => exact ⟨k + 1, flipF fk s, by omega, by go_num, flipF_img HIK.out s, HTT.out, ha, HB2.out⟩
        case measure => simp [intOf]; omega
    · obtain rfl : k = n := by omega
      have HSO := hide (app_some (by rw [← HN.out]; exact h60) (goM_full (by rw [← HN.out]; exact HGO.out)))
      go_wp2_with (first | (with_reducible refine wpList_loadVec HF.out 36 rfl rfl _ rfl rfl Try.underlying88 Try.sizeImg ?_) | ((with_reducible refine (lists_any R C fk _ HIK.out).mono ?_); rintro e w5 ⟨u, rfl, hu, b5⟩))
      go_ret2
      rw [HSO.out.1, HSO.out.2]
      exact ⟨_, rfl, ownMat_mono hu HB.out.size (Nat.le_refl _), HB.out.trans (b5.mono HB.out.size)⟩
def appRowsB (m : List (List Int)) (l : List Sw) : List (List Int) := if okB m then appRows m l else []
def appOkB (m : List (List Int)) (l : List Sw) : Bool := okB m && appOk m l
theorem implApplyAll_any (v lv : Value) (m : List (List Int)) (l : List Sw) (w : World) (hin : InMat w v m) (hl : InSws w lv l) :
    Calls Try.prog 28 #[v, lv] w (MatRes2 (appRowsB m l) (appOkB m l) w) := by
  unfold appRowsB appOkB
  cases h : okB m with
  | false => exact implApplyAll_no v lv m l w hin hl h
  | true =>
    obtain ⟨R, C, f, rfl, hI⟩ := ok_img h
    rw [Bool.true_and, if_pos rfl]
    by_cases h60 : l.length ≤ 60
    · exact implApplyAll_yes v lv R C f l w hin hI hl h60
    · have := app_long (m := mkM R C f) (l := l) (by omega)
      rw [this.1, this.2]
      exact implApplyAll_long v lv R C f l w hin hI hl (by omega)
theorem inSws_one {w : World} {g : Nat} {s : Sw} (h : SwAt w g s) : InSws w (.slice (some ⟨g, 0, none⟩) 1 1) [s] :=
  ⟨_, 1, rfl, by simp [maxLen], .inr ⟨g, 0, rfl, swAt_lt h, fun i hi => by
    obtain rfl : i = 0 := by simp at hi; omega
    exact swC_at h⟩⟩
set_option maxHeartbeats 1000000 in
theorem implApplySwitch_any (v : Value) (m : List (List Int)) (s : Sw) (w : World) (hin : InMat w v m) :
    Calls Try.prog 27 #[v, swV s] w (MatRes2 (appRowsB m [s]) (appOkB m [s]) w) := by
  have HI := hide hin
  clear hin
  go_enter Try.func27, Try.ntmps27
  go_wp2_with (first | ((with_reducible refine wpList_boxSw s 3 rfl rfl (.tmp 1) rfl rfl ?_); intro w2 h2 b2 s2; clear s2) | (with_reducible refine wpList_loadSwC (swC_at h2) 7 rfl rfl _ rfl rfl ?_) | (refine wpList_buildOneA (swA s) _ 8 rfl rfl (.tmp 7) rfl rfl Try.underlying36 Try.infoSw (by decide) (by decide) rfl ?_; have hal := (Below.refl w2.heap.size w2).alloc (Nat.le_refl _) (.cells (swA s) 42); have HL := hide (inSws_one (swAt_new w2 s)); have HB := hide (b2.trans (hal.mono b2.size)); have HI2 := hide (inMat_below HI.out HB.out); clear hal h2) | ((with_reducible refine (implApplyAll_any v _ m [s] _ HI2.out HL.out).mono ?_); rintro e w4 ⟨u, rfl, hu, b4⟩))
  go_ret2
  exact ⟨_, rfl, ownMat_mono hu HB.out.size (Nat.le_refl _), HB.out.trans (b4.mono HB.out.size)⟩
set_option maxHeartbeats 1000000 in
theorem implSwitchOk_any (v : Value) (m : List (List Int)) (s : Sw) (w : World) (hin : InMat w v m) :
    Calls Try.prog 34 #[v, swV s] w fun e w' => e = .returned (.bool (okB m && swB m s)) ∧ Below w.heap.size w w' := by
  have HI := hide hin
  cases h : okB m with
  | false =>
    have H := hide h
    clear hin h
    go_enter Try.func34, Try.ntmps34
    go_wp2_with (first | ((with_reducible refine wpList_boxSw s 3 rfl rfl (.tmp 1) rfl rfl ?_); intro w2 h2 b2 s2; clear s2) | ((with_reducible refine (imageOf_no v m _ (inMat_below HI.out b2) H.out).mono ?_); rintro e w3 ⟨rfl, b3⟩) | ((with_reducible refine wpList_allocVec 25 5 rfl rfl rfl Try.zeroImg ?_); intro w4 h4 b4 s4; have hb := b2.trans ((b3.trans (b4.mono b3.size)).mono b2.size)) | ((with_reducible refine wpList_storeVec h4 rfl (.tmp 5) (.tmp 10) rfl rfl rfl Try.sizeImg ?_); intro w5 h5 g5 s5; have hb5 := hb.trans (grown_below g5 (fun k hk => by cases hk; exact Nat.le_trans b2.size b3.size) hb.size)))
    go_ret
    exact ⟨rfl, hb5⟩
  | true =>
    obtain ⟨R, C, f, rfl, hI⟩ := ok_img h
    have HII := hide hI
    have HSW := hide (show hasF (imgF R C f) s = swB (mkM R C f) s by rw [hasF_img hI, swB_mk hI])
    clear hin h hI
    go_enter Try.func34, Try.ntmps34
    go_wp2_with (first | ((with_reducible refine wpList_boxSw s 3 rfl rfl (.tmp 1) rfl rfl ?_); intro w2 h2 b2 s2; clear s2) | ((with_reducible refine (imageOf_yes v R C f _ (inMat_below HI.out b2) HII.out).mono ?_); rintro e w3 ⟨rfl, b3⟩; have h3 := swAt_below h2 b3; clear h2) | ((with_reducible refine wpList_allocVec 25 5 rfl rfl rfl Try.zeroImg ?_); intro w4 h4 b4 s4; have hb := b2.trans ((b3.trans (b4.mono b3.size)).mono b2.size); have hs4 := swAt_below h3 b4; have hlt := swAt_lt h3; clear h3) | ((with_reducible refine wpList_storeVec h4 rfl (.tmp 5) (.tmp 10) rfl rfl rfl Try.sizeImg ?_); intro w5 h5 g5 s5; have hb5 := hb.trans (grown_below g5 (fun k hk => by cases hk; exact Nat.le_trans b2.size b3.size) hb.size); have hs5 := swAt_grown hs4 g5 (by simp; omega); clear hs4 hb h4 b4 s4 g5 s5) | (with_reducible refine wpList_loadVecW h5 14 rfl 1 true rfl true rfl rfl _ rfl rfl Try.underlying88 Try.sizeImg ?_) | (refine wpList_loadSwW (swC_at hs5) 15 rfl 1 true rfl true rfl rfl _ rfl rfl ?_) | ((with_reducible refine (hasSwitch_any (imgF R C f) s _).mono ?_); rw [HSW.out]; rintro e w6 ⟨rfl, b6⟩; have hb6 := hb5.trans (b6.mono hb5.size)))
    go_ret
    exact ⟨by simp, hb6⟩
def swsOf (m : List (List Int)) : List Sw := if okB m then swsM m else []
set_option maxHeartbeats 1000000 in
theorem implSwitchesOf_any (v : Value) (m : List (List Int)) (w : World) (hin : InMat w v m) : Calls Try.prog 37 #[v] w (SwsRes (swsOf m) w) := by
  have HI := hide hin
  unfold swsOf
  cases h : okB m with
  | false =>
    have H := hide h
    clear hin h
    go_enter Try.func37, Try.ntmps37
    go_wp2_with (first | ((with_reducible refine (imageOf_no v m _ HI.out H.out).mono ?_); rintro e w3 ⟨rfl, b3⟩) | ((with_reducible refine wpList_allocVec 25 3 rfl rfl rfl Try.zeroImg ?_); intro w4 h4 b4 s4; have hb := b3.trans (b4.mono b3.size)) | ((with_reducible refine wpList_storeVec h4 rfl (.tmp 3) (.tmp 8) rfl rfl rfl Try.sizeImg ?_); intro w5 h5 g5 s5; have hb5 := hb.trans (grown_below g5 (fun k hk => by cases hk; exact b3.size) hb.size)))
    go_ret
    exact ⟨_, rfl, ownSws_nil _ _, hb5⟩
  | true =>
    obtain ⟨R, C, f, rfl, hI⟩ := ok_img h
    have HII := hide hI
    clear hin h hI
    go_enter Try.func37, Try.ntmps37
    go_wp2_with (first | ((with_reducible refine (imageOf_yes v R C f _ HI.out HII.out).mono ?_); rintro e w3 ⟨rfl, b3⟩) | ((with_reducible refine wpList_allocVec 25 3 rfl rfl rfl Try.zeroImg ?_); intro w4 h4 b4 s4; have hb := b3.trans (b4.mono b3.size)) | ((with_reducible refine wpList_storeVec h4 rfl (.tmp 3) (.tmp 8) rfl rfl rfl Try.sizeImg ?_); intro w5 h5 g5 s5; have hb5 := hb.trans (grown_below g5 (fun k hk => by cases hk; exact b3.size) hb.size)) | (with_reducible refine wpList_loadVec h5 12 rfl rfl _ rfl rfl Try.underlying88 Try.sizeImg ?_) | ((with_reducible refine (switches_any R C f _ HII.out).mono ?_); rintro e w6 ⟨u, rfl, hu, b6⟩))
    go_ret
    exact ⟨_, rfl, ownSws_base hu hb5.size, hb5.trans (b6.mono hb5.size)⟩
def uniqB (m : List (List Int)) : Bool := okB m && (swsM m).isEmpty
set_option maxHeartbeats 1000000 in
theorem implIsUnique_any (v : Value) (m : List (List Int)) (w : World) (hin : InMat w v m) : Calls Try.prog 21 #[v] w fun e w' => e = .returned (.bool (uniqB m)) ∧ Below w.heap.size w w' := by
  have HI := hide hin
  unfold uniqB
  cases h : okB m with
  | false =>
    have H := hide h
    clear hin h
    go_enter Try.func21, Try.ntmps21
    go_wp2_with ((with_reducible refine (implImageOk_any v m _ HI.out).mono ?_); rw [H.out]; rintro e w3 ⟨rfl, rfl⟩)
    go_ret
    exact ⟨rfl, Below.refl _ _⟩
  | true =>
    have H := hide h
    have HS := hide (show swsOf m = swsM m by unfold swsOf; rw [h]; rfl)
    have HL := hide (show (swsM m).length ≤ 625 from upS_len m 625)
    clear hin h
    obtain ⟨l, hl⟩ : ∃ l, l = swsM m := ⟨_, rfl⟩
    rw [← hl] at HS HL ⊢
    clear hl
    go_enter Try.func21, Try.ntmps21
    go_wp2_with (first | ((with_reducible refine (implImageOk_any v m _ HI.out).mono ?_); rw [H.out]; rintro e w3 ⟨rfl, rfl⟩) | ((with_reducible refine (implSwitchesOf_any v m _ HI.out).mono ?_); rw [HS.out]; rintro e w6 ⟨u, rfl, hu, b6⟩; obtain ⟨ua, uc, rfl⟩ := ownA_slice hu; clear hu))
    go_ret
    exact ⟨ret_bool (by cases l <;> simp <;> omega), b6⟩
end Go.Proofs.Ytnhijmhambggbaa
/-
  The conjugate of the conjugate is the list in descending order; a staircase has the sums that it is made from, and no switch.
-/
namespace Go.Proofs.Ytnhijmhambggbaa
open Go.RowKit

theorem rowF_succ (n : Nat) (g : Nat → Int) : rowF (n + 1) g = rowF n g ++ [g n] := by simp [rowF, List.range_succ]
theorem countP_rowF (p : Int → Bool) (g : Nat → Int) : ∀ n, (rowF n g).countP p = cnt (fun y => p (g y)) n
  | 0 => rfl
  | n + 1 => by
    rw [rowF_succ, List.countP_append, countP_rowF p g n, cnt]
    cases h : p (g n) <;> simp [h]
theorem cnt_min (a : Nat) : ∀ C, cnt (fun x => decide (x < a)) C = min a C
  | 0 => by simp [cnt]
  | C + 1 => by
    rw [cnt, cnt_min a C]
    by_cases h : C < a
    · rw [if_pos (by simpa using h)]; omega
    · rw [if_neg (by simpa using h)]; omega
theorem sum_step (P : Nat → Nat → Bool) (C : Nat) : ∀ R, (rowF R fun y => ((cnt (P y) (C + 1) : Nat) : Int)).sum = (rowF R fun y => ((cnt (P y) C : Nat) : Int)).sum + (cnt (fun y => P y C) R : Nat)
  | 0 => rfl
  | R + 1 => by
    rw [rowF_succ, rowF_succ, List.sum_append, List.sum_append, sum_step P C R, cnt, cnt]
    cases P R C <;> simp <;> omega
theorem sum_zero (g : Nat → Int) (h : ∀ y, g y = 0) : ∀ R, (rowF R g).sum = 0
  | 0 => rfl
  | R + 1 => by rw [rowF_succ, List.sum_append, sum_zero g h R, h]; rfl
theorem dual_sum (P : Nat → Nat → Bool) (R : Nat) : ∀ C, (rowF C fun x => ((cnt (fun y => P y x) R : Nat) : Int)).sum = (rowF R fun y => ((cnt (P y) C : Nat) : Int)).sum
  | 0 => (sum_zero (fun y => ((cnt (P y) 0 : Nat) : Int)) (fun _ => rfl) R).symm
  | C + 1 => by rw [rowF_succ, List.sum_append, dual_sum P R C, sum_step P C R]; simp
theorem desc_at (t : Int) : ∀ (s : List Int), Desc s → ∀ y, (hy : y < s.length) → (y + 1 ≤ atLeast t s ↔ t ≤ s[y])
  | [], _, y, hy => by simp at hy
  | a :: l, h, y, hy => by
    obtain ⟨h1, h2⟩ := List.pairwise_cons.1 h
    have hc : atLeast t (a :: l) = atLeast t l + if t ≤ a then 1 else 0 := by
      unfold atLeast; rw [List.countP_cons]; by_cases e : t ≤ a <;> simp [e]
    rw [hc]
    by_cases e : t ≤ a
    · rw [if_pos e]
      cases y with
      | zero => simp [e]
      | succ y =>
        have := desc_at t l h2 y (by simpa using hy)
        simp only [List.getElem_cons_succ]
        rw [← this]; omega
    · rw [if_neg e]
      have h0 : atLeast t l = 0 := List.countP_eq_zero.2 fun x hx => by have := h1 x hx; simp; omega
      have hy2 : (a :: l)[y] ≤ a := by
        cases y with
        | zero => exact Int.le_refl _
        | succ y => exact h1 _ (by simp)
      rw [h0]; omega
theorem atLeast_perm {a b : List Int} (h : a.Perm b) (t : Int) : atLeast t a = atLeast t b := h.countP_eq _
/-- Numbers of black cells, as a list. -/
def natF (R : Nat) (rr : Nat → Nat) : List Int := rowF R fun y => ((rr y : Nat) : Int)
theorem natF_at {R : Nat} {rr : Nat → Nat} (y : Nat) (h : y < (natF R rr).length) : (natF R rr)[y] = (rr y : Nat) := by simp [natF, rowF]
theorem natF_getD {R : Nat} {rr : Nat → Nat} {y : Nat} (h : y < R) : (natF R rr).getD y 0 = rr y := by simp [natF, rowF, h]
theorem natF_any {R C : Nat} {rr : Nat → Nat} (h : ∀ y, y < R → rr y ≤ C) : (natF R rr).any (badB C) = false := any_no fun i hi => by
  have hi' : i < R := by simpa [natF, rowF_len] using hi
  have := h i hi'
  rw [natF_at]
  simp [badB]; omega
theorem natF_ok {R C : Nat} {rr : Nat → Nat} (h : ∀ y, y < R → rr y ≤ C) (hR : R ≤ 5) (hC : 1 ≤ C ∧ C ≤ 5) : conjOk (natF R rr) C = true := by
  unfold conjOk
  rw [natF_any h, decide_eq_true (show (1 : Int) ≤ C ∧ (C : Int) ≤ 5 by omega), decide_eq_true (show (natF R rr).length ≤ 5 by simpa [natF, rowF_len] using hR)]; rfl
theorem conj_natF {R C : Nat} {rr : Nat → Nat} (h : ∀ y, y < R → rr y ≤ C) (hR : R ≤ 5) (hC : 1 ≤ C ∧ C ≤ 5) : conjRes (natF R rr) C = natF C fun x => cnt (fun y => decide (x < rr y)) R := by
  rw [conjRes, if_pos (natF_ok h hR hC), Int.toNat_natCast]
  refine tabL_congr fun k hk => ?_
  rw [atLeast, natF, countP_rowF]
  have : cnt (fun y => decide ((k : Int) + 1 ≤ ((rr y : Nat) : Int))) R = cnt (fun y => decide (k < rr y)) R := cnt_congr fun y _ => by
    rw [Bool.eq_iff_iff]; simp; omega
  rw [this]
theorem conj_conj {R C : Nat} {rr : Nat → Nat} (h : ∀ y, y < R → rr y ≤ C) (hR : 1 ≤ R ∧ R ≤ 5) (hC : 1 ≤ C ∧ C ≤ 5) : conjRes (conjRes (natF R rr) C) R = sortD (natF R rr) := by
  rw [conj_natF h hR.2 hC, conj_natF (fun x _ => cnt_le _ _) hC.2 hR]
  have hp := sortD_perm (natF R rr)
  have hd := sortD_desc (natF R rr)
  have hl : (sortD (natF R rr)).length = R := by rw [sortD_len]; simp [natF, rowF_len]
  refine List.ext_getElem (by rw [hl]; simp [natF, rowF_len]) fun y h1 h2 => ?_
  have hy : y < R := by rw [hl] at h2; exact h2
  have hs : ∃ q, q < R ∧ (sortD (natF R rr))[y] = rr q := by
    have hm : (sortD (natF R rr))[y] ∈ natF R rr := hp.mem_iff.1 (List.getElem_mem h2)
    simp only [natF, rowF, List.mem_map, List.mem_range] at hm
    obtain ⟨q, hq, e⟩ := hm
    exact ⟨q, hq, e.symm⟩
  obtain ⟨q, hq, hs⟩ := hs
  have hqC := h q hq
  rw [hs]
  rw [natF_at]
  have hc : cnt (fun x => decide (y < cnt (fun y => decide (x < rr y)) R)) C = cnt (fun x => decide (x < rr q)) C := cnt_congr fun x _ => by
    have e1 : cnt (fun y => decide (x < rr y)) R = atLeast ((x : Int) + 1) (natF R rr) := by
      rw [atLeast, natF, countP_rowF]
      exact cnt_congr fun y _ => by rw [Bool.eq_iff_iff]; simp; omega
    rw [e1, ← atLeast_perm hp]
    have e2 := desc_at ((x : Int) + 1) _ hd y h2
    rw [hs] at e2
    rw [Bool.eq_iff_iff]
    simp only [decide_eq_true_eq]
    constructor
    · intro e; have := e2.1 (by omega); omega
    · intro e; have := e2.2 (by omega); omega
  rw [hc, cnt_min, Nat.min_eq_left hqC]
/-- The staircase of these numbers. -/
theorem stairF_nat {R : Nat} {rr : Nat → Nat} {y : Nat} (hy : y < R) (x : Nat) : stairF (natF R rr) y x = if x < rr y then 1 else 0 := by
  unfold stairF begF
  rw [natF_getD hy]
  by_cases h : x < rr y
  · rw [if_pos h, if_pos (by omega)]
  · rw [if_neg h, if_neg (by omega)]
theorem stair_img {R C : Nat} {rr : Nat → Nat} (hR : 1 ≤ R ∧ R ≤ 5) (hC : 1 ≤ C ∧ C ≤ 5) : Img R C (stairF (natF R rr)) := ⟨hR.1, hR.2, hC.1, hC.2, fun y x hy _ => by
  rw [stairF_nat hy]; by_cases h : x < rr y <;> simp [h]⟩
theorem stair_rows {R C : Nat} {rr : Nat → Nat} (h : ∀ y, y < R → rr y ≤ C) : rowsL R C (stairF (natF R rr)) = natF R rr := rowF_congr fun y hy => by
  have : rs C (stairF (natF R rr)) y = rr y := by
    unfold rs
    rw [cnt_congr (q := fun x => decide (x < rr y)) fun x _ => by rw [stairF_nat hy]; by_cases e : x < rr y <;> simp [e], cnt_min, Nat.min_eq_left (h y hy)]
  rw [this]
theorem stair_cols {R C : Nat} {rr : Nat → Nat} (h : ∀ y, y < R → rr y ≤ C) (hR : R ≤ 5) (hC : 1 ≤ C ∧ C ≤ 5) : rowsL C R (trM (stairF (natF R rr))) = conjRes (natF R rr) C := by
  rw [conj_natF h hR hC]
  refine rowF_congr fun x _ => ?_
  have : rs R (trM (stairF (natF R rr))) x = cnt (fun y => decide (x < rr y)) R := cnt_congr fun y hy => by
    rw [trM, stairF_nat hy]; by_cases e : x < rr y <;> simp [e]
  rw [this]
theorem stair_is {R C : Nat} {rr : Nat → Nat} (hR : 1 ≤ R ∧ R ≤ 5) (hC : 1 ≤ C ∧ C ≤ 5) : stairB (mkM R C (stairF (natF R rr))) = true := by
  unfold stairB
  rw [img_ok (stair_img hR hC)]
  have : ((mkM R C (stairF (natF R rr))).any fun r => !downB r) = false := by
    rw [List.any_eq_false]
    intro r hr
    simp only [mkM, List.mem_map, List.mem_range] at hr
    obtain ⟨y, hy, rfl⟩ := hr
    have : downB (rowF C (stairF (natF R rr) y)) = true := (downB_iff _).2 (desc_of_next fun x h1 => by
      rw [rowF_at, rowF_at, stairF_nat hy, stairF_nat hy]
      by_cases e : x + 1 < rr y
      · rw [if_pos e, if_pos (by omega)]; exact Int.le_refl _
      · rw [if_neg e]; by_cases e2 : x < rr y <;> simp [e2])
    rw [this]; decide
  rw [this]; rfl
theorem stair_unique {R C : Nat} {rr : Nat → Nat} (hR : 1 ≤ R ∧ R ≤ 5) (hC : 1 ≤ C ∧ C ≤ 5) : uniqB (mkM R C (stairF (natF R rr))) = true := by
  have hI := stair_img (R := R) (C := C) (rr := rr) hR hC
  unfold uniqB
  rw [img_ok hI, Bool.true_and, List.isEmpty_iff]
  refine List.eq_nil_iff_forall_not_mem.2 fun s hs => ?_
  have h1 := (sws_mem ⟨_, rfl, hI⟩).1 hs
  rw [swB_mk hI] at h1
  obtain ⟨a, b, c, d, -, h2⟩ := swF_iff.1 h1
  obtain ⟨g1, g2, g3, g4, g5, g6, g7⟩ := four_iff.1 h2
  rw [stairF_nat g3, stairF_nat (by omega)] at g5 g7
  rw [stairF_nat (by omega), stairF_nat (by omega)] at g6
  by_cases e1 : c < rr a <;> by_cases e2 : d < rr a <;> by_cases e3 : c < rr b <;> by_cases e4 : d < rr b <;> simp [e1, e2, e3, e4] at g5 g6 g7 <;> omega
theorem natF_total {R C : Nat} {rr : Nat → Nat} (h : ∀ y, y < R → rr y ≤ C) (hR : R ≤ 5) (hC : 1 ≤ C ∧ C ≤ 5) : (conjRes (natF R rr) C).sum = (natF R rr).sum := by
  rw [conj_natF h hR hC]
  unfold natF
  rw [dual_sum (fun y x => decide (x < rr y)) R C]
  congr 1
  exact rowF_congr fun y hy => by rw [cnt_min, Nat.min_eq_left (h y hy)]
theorem rowsL_nat (R C : Nat) (f : Nat → Nat → Int) : rowsL R C f = natF R (rs C f) := rfl
theorem rs_le (C : Nat) (f : Nat → Nat → Int) (y : Nat) : rs C f y ≤ C := cnt_le _ _
theorem natF_small {R : Nat} {rr : Nat → Nat} {C : Nat} (h : ∀ y, y < R → rr y ≤ C) (hR : R ≤ 5) (hC : C ≤ 5) : SmallL (natF R rr) := ⟨by simpa [natF, rowF_len] using hR, fun i hi => by
  have hi' : i < R := by simpa [natF, rowF_len] using hi
  have := h i hi'
  rw [natF_at]; omega⟩
end Go.Proofs.Ytnhijmhambggbaa
/-
  The law FnConjugates, walked.
-/
namespace Go.Proofs.Ytnhijmhambggbaa
open Go.RowKit

theorem total_eq (v : Value) (r : List Int) (t : Int) (w : World) (hin : InRow w v r) (hs : SmallL r) (ht : r.sum = t) :
    Calls Try.prog 16 #[v] w fun e w' => e = .returned (.int .i64 t) ∧ Below w.heap.size w w' := by
  subst ht; exact (lawTotal_any v r w hin hs).mono fun e w' h => ⟨h.1, by rw [← h.2]; exact Below.refl _ _⟩
theorem sorted_eq (v : Value) (r s : List Int) (w : World) (hin : InRow w v r) (hl : r.length ≤ 1048576) (hs : sortD r = s) :
    Calls Try.prog 18 #[v] w (IntsRes s w) := by subst hs; exact implSortedDown_any v r w hin hl
theorem isStair_eq (v : Value) (m : List (List Int)) (w : World) (hin : InMat w v m) (h : stairB m = true) :
    Calls Try.prog 19 #[v] w fun e w' => e = .returned (.bool true) ∧ Below w.heap.size w w' := by
  have := implIsStair_any v m w hin
  rw [h] at this; exact this
theorem unique_eq (v : Value) (m : List (List Int)) (w : World) (hin : InMat w v m) (h : uniqB m = true) :
    Calls Try.prog 21 #[v] w fun e w' => e = .returned (.bool true) ∧ Below w.heap.size w w' := by
  have := implIsUnique_any v m w hin
  rw [h] at this; exact this
theorem rows_eq (v : Value) (R C : Nat) (f : Nat → Nat → Int) (r : List Int) (w : World) (hin : InMat w v (mkM R C f)) (hI : Img R C f) (hr : rowsL R C f = r) :
    Calls Try.prog 13 #[v] w (IntsRes r w) := by subst hr; exact implRowSums_yes v R C f w hin hI
theorem cols_eq (v : Value) (R C : Nat) (f : Nat → Nat → Int) (r : List Int) (w : World) (hin : InMat w v (mkM R C f)) (hI : Img R C f) (hr : rowsL C R (trM f) = r) :
    Calls Try.prog 20 #[v] w (IntsRes r w) := by subst hr; exact implColSums_yes v R C f w hin hI
theorem conj_eq (v : Value) (r : List Int) (n : Nat) (k : List Int) (w : World) (hin : InRow w v r) (hk : conjRes r n = k) :
    Calls Try.prog 14 #[v, .int .i64 n] w (IntsRes k w) := by subst hk; exact implConj_any v r n w hin
theorem stair_eq (v : Value) (r : List Int) (n : Nat) (m : List (List Int)) (w : World) (hin : InRow w v r) (hk : stairRes r n = m) :
    Calls Try.prog 15 #[v, .int .i64 n] w (MatRes m w) := by subst hk; exact implStair_any v r n w hin
theorem same_yes (va vb : Value) (r : List Int) (w : World) (ha : InRow w va r) (hb : InRow w vb r) :
    Calls Try.prog 17 #[va, vb] w fun e w' => e = .returned (.bool true) ∧ Below w.heap.size w w' := by
  have h := same_any va vb r r w ha hb
  rw [beq_self_eq_true] at h
  exact h.mono fun e w' h => ⟨h.1, by rw [← h.2]; exact Below.refl _ _⟩
/-- What stands through the last statement. -/
def cjS (w : World) (g g0 C c0 : Nat) (vr vk vb vs : Value) (r k s : List Int) (m : List (List Int)) (w' : World) : Prop :=
  w'.cell? ⟨g, 0, none⟩ = some (.slice (some ⟨g0, 0, none⟩) C c0) ∧ InRow w' vr r ∧ InRow w' vk k ∧ InRow w' vb s ∧ InMat w' vs m ∧ Below w.heap.size w w'
theorem cj_step {w wp wn : World} {g g0 C c0 : Nat} {vr vk vb vs : Value} {r k s : List Int} {m : List (List Int)} (h : cjS w g g0 C c0 vr vk vb vs r k s m wp) (hb : Below wp.heap.size wp wn) : cjS w g g0 C c0 vr vk vb vs r k s m wn := by
  obtain ⟨h1, h2, h3, h4, h5, h6⟩ := h
  exact ⟨below_cell hb (World.block_lt_of_cell? wp _ h1) h1, inRow_below h2 hb, inRow_below h3 hb, inRow_below h4 hb, inMat_below h5 hb, h6.trans (hb.mono h6.size)⟩
set_option maxRecDepth 100000 in
set_option maxHeartbeats 4000000 in
theorem lawConj_walk (a : Option Addr) (n c : Nat) (w : World) (hin : InBytes w w.heap.size a n) :
    Calls Try.prog 3 #[.slice a n c] w fun e w' => e = .returned (.bool true) ∧ Below w.heap.size w w' := by
  have hmax := hin.1
  unfold maxLen at hmax
  by_cases hbig : 1048576 < n
  · go_enter Try.func3, Try.ntmps3
    clear hin
    go_wp2
    go_ret
    exact ⟨rfl, Below.refl _ _⟩
  · have HI := hide hin
    clear hin
    go_enter Try.func3, Try.ntmps3
    go_wp2_with fail
    refine (makeImage_any n c a 0 _ _ HI.out (by omega) (by omega)).mono ?_
    rintro e w1 ⟨v0, R, C, f, rfl, him, ho1, hb1⟩
    have hR := him.r2; have hR1 := him.r1; have hC := him.c2; have hC1 := him.c1
    obtain ⟨g, cv, rfl⟩ := ownMat_some ho1 (by rw [mkM_len]; omega)
    rw [mkM_len] at *
    obtain ⟨g0, c0, hx0, -, -, -, hg0, -⟩ := ownMat_cell ho1 0 0 (by omega) (by omega)
    have hg : g < w1.heap.size := World.block_lt_of_cell? w1 _ hx0
    have HX0 := hide hx0
    have HM := hide him; have HIN := hide (inMat_own ho1); have HB1 := hide hb1
    -- the numbers
    have hrr : ∀ y, y < R → rs C f y ≤ C := fun y _ => rs_le C f y
    obtain ⟨r, hr⟩ : ∃ r, rowsL R C f = r := ⟨_, rfl⟩
    have hrn : r = natF R (rs C f) := hr.symm
    have HCO := hide (natF_ok hrr hR ⟨hC1, hC⟩); have HCC := hide (conj_conj hrr ⟨hR1, hR⟩ ⟨hC1, hC⟩); have HIQ := hide (stair_img (rr := rs C f) ⟨hR1, hR⟩ ⟨hC1, hC⟩)
    have HQR := hide (stair_rows hrr); have HQK := hide (stair_cols hrr hR ⟨hC1, hC⟩); have HIS := hide (stair_is (rr := rs C f) ⟨hR1, hR⟩ ⟨hC1, hC⟩); have HUN := hide (stair_unique (rr := rs C f) ⟨hR1, hR⟩ ⟨hC1, hC⟩)
    have HTT := hide (natF_total hrr hR ⟨hC1, hC⟩); have HSR := hide (natF_small hrr hR hC); have hkn := conj_natF hrr hR ⟨hC1, hC⟩
    have HSK := hide (natF_small (R := C) (rr := fun x => cnt (fun y => decide (x < rs C f y)) R) (C := R) (fun x _ => cnt_le _ _) hC hR)
    rw [← hkn] at HSK
    have HLK : Hid ((conjRes (natF R (rs C f)) C).length = C) := hide (by rw [hkn]; simp [natF, rowF_len])
    have HLR : Hid (r.length = R) := hide (by rw [← hr]; simp [rowsL, rowF_len])
    have HST : Hid (stairRes (natF R (rs C f)) C = mkM R C (stairF (natF R (rs C f)))) := hide (by rw [stairRes, if_pos HCO.out, Int.toNat_natCast]; congr 1; rw [← hrn]; exact HLR.out)
    rw [← hrn] at HCC HIQ HQR HQK HIS HUN HTT HSR HSK HLK HST
    obtain ⟨k, hk⟩ : ∃ k, conjRes r C = k := ⟨_, rfl⟩
    rw [hk] at HCC HQK HTT HSK HLK
    obtain ⟨s, hs⟩ : ∃ s, sortD r = s := ⟨_, rfl⟩
    rw [hs] at HCC
    obtain ⟨q, hq⟩ : ∃ q, stairF r = q := ⟨_, rfl⟩
    rw [hq] at HIQ HQR HQK HIS HUN HST
    obtain ⟨m, hm⟩ : ∃ m, mkM R C q = m := ⟨_, rfl⟩
    rw [hm] at HIS HUN HST
    obtain ⟨t, ht⟩ : ∃ t, r.sum = t := ⟨_, rfl⟩
    rw [ht] at HTT
    have HRS := hide hr; have HK := hide hk; have HSO := hide hs; have HQ := hide hm; have HTR := hide ht
    clear him ho1 hb1 hx0 hrn hr hk hs hq hm ht hkn hrr HCO
    go_wp2_with fail
    refine (rows_eq (.slice (some ⟨g, 0, none⟩) R cv) R C f r _ HIN.out HM.out HRS.out).mono ?_
    rintro e w2 ⟨vr, rfl, ho2, hb2⟩
    have hx0 := below_cell hb2 hg HX0.out
    have HX := hide hx0; have HR2 := hide (inRow_own ho2); have HB2 := hide (HB1.out.trans (hb2.mono HB1.out.size)); have hg2 := Nat.lt_of_lt_of_le hg hb2.size
    clear ho2 hb2 HX0 HIN HB1
    go_wp2_with fail
    refine (conj_eq vr r C k _ HR2.out HK.out).mono ?_
    rintro e w3 ⟨vk, rfl, ho3, hb3⟩
    have hk3 := inRow_own ho3
    obtain ⟨ak, ck, hvk, -⟩ := id hk3
    rw [HLK.out] at hvk
    subst hvk
    have HX3 := hide (below_cell hb3 hg2 HX.out); have HR3 := hide (inRow_below HR2.out hb3); have HK3 := hide hk3; have HB3 := hide (HB2.out.trans (hb3.mono HB2.out.size)); have hg3 := Nat.lt_of_lt_of_le hg2 hb3.size
    clear ho3 hb3 hk3 hx0 HX HR2 HB2
    go_wp2_with fail
    refine (conj_eq (.slice ak C ck) k R s _ HK3.out HCC.out).mono ?_
    rintro e w4 ⟨vb, rfl, ho4, hb4⟩
    have hx0 := below_cell hb4 hg3 HX3.out
    have HX4 := hide hx0; have HR4 := hide (inRow_below HR3.out hb4); have HK4 := hide (inRow_below HK3.out hb4); have HS4 := hide (inRow_own ho4); have HB4 := hide (HB3.out.trans (hb4.mono HB3.out.size)); have hg4 := Nat.lt_of_lt_of_le hg3 hb4.size
    clear ho4 hb4 HX3 HR3 HK3 HB3
    go_wp2_with fail
    refine (stair_eq vr r C m _ HR4.out HST.out).mono ?_
    rintro e w5 ⟨vs, rfl, ho5, hb5⟩
    have HX5 := hide (below_cell hb5 hg4 HX4.out); have HR5 := hide (inRow_below HR4.out hb5); have HK5 := hide (inRow_below HK4.out hb5); have HS5 := hide (inRow_below HS4.out hb5); have HM5 := hide (inMat_own ho5); have HB5 := hide (HB4.out.trans (hb5.mono HB4.out.size))
    clear ho5 hb5 hx0 HX4 HR4 HK4 HS4 HB4
    have hx0 := HX5.out
    have HS := hide (show cjS w g g0 C c0 vr (.slice ak C ck) vb vs r k s m w5 from ⟨HX5.out, HR5.out, HK5.out, HS5.out, HM5.out, HB5.out⟩)
    have HLR2 : Hid (r.length ≤ 1048576) := hide (by rw [HLR.out]; omega)
    clear HX5 HR5 HK5 HS5 HM5 HB5
    go_wp2_with fail
    refine (total_eq (.slice ak C ck) k t _ HS.out.2.2.1 HSK.out HTT.out).mono ?_
    rintro e w6 ⟨rfl, hb⟩
    replace HS := hide (cj_step HS.out hb)
    clear hx0
    clear hb
    go_wp2_with fail
    refine (total_eq vr r t _ HS.out.2.1 HSR.out HTR.out).mono ?_
    rintro e w7 ⟨rfl, hb⟩
    replace HS := hide (cj_step HS.out hb)
    clear hb
    go_wp2_with fail
    refine (sorted_eq vr r s _ HS.out.2.1 HLR2.out HSO.out).mono ?_
    rintro e w8 ⟨u8, rfl, ho, hb⟩
    replace HS := hide (cj_step HS.out hb)
    have HU := hide (inRow_own ho)
    clear hb ho
    go_wp2_with fail
    refine (same_yes vb _ s _ HS.out.2.2.2.1 HU.out).mono ?_
    rintro e w9 ⟨rfl, hb⟩
    replace HS := hide (cj_step HS.out hb)
    clear HU
    clear hb
    go_wp2_with fail
    refine (isStair_eq vs m _ HS.out.2.2.2.2.1 HIS.out).mono ?_
    rintro e w10 ⟨rfl, hb⟩
    replace HS := hide (cj_step HS.out hb)
    clear hb
    go_wp2_with fail
    refine (rows_eq vs R C q r _ (by rw [HQ.out]; exact HS.out.2.2.2.2.1) HIQ.out HQR.out).mono ?_
    rintro e w11 ⟨u11, rfl, ho, hb⟩
    replace HS := hide (cj_step HS.out hb)
    have HU := hide (inRow_own ho)
    clear hb ho
    go_wp2_with fail
    refine (same_yes _ vr r _ HU.out HS.out.2.1).mono ?_
    rintro e w12 ⟨rfl, hb⟩
    replace HS := hide (cj_step HS.out hb)
    clear HU
    clear hb
    go_wp2_with fail
    refine (cols_eq vs R C q k _ (by rw [HQ.out]; exact HS.out.2.2.2.2.1) HIQ.out HQK.out).mono ?_
    rintro e w13 ⟨u13, rfl, ho, hb⟩
    replace HS := hide (cj_step HS.out hb)
    have HU := hide (inRow_own ho)
    clear hb ho
    go_wp2_with fail
    refine (same_yes _ (.slice ak C ck) k _ HU.out HS.out.2.2.1).mono ?_
    rintro e w14 ⟨rfl, hb⟩
    replace HS := hide (cj_step HS.out hb)
    clear HU
    clear hb
    go_wp2_with fail
    refine (unique_eq vs m _ HS.out.2.2.2.2.1 HUN.out).mono ?_
    rintro e w15 ⟨rfl, hb⟩
    replace HS := hide (cj_step HS.out hb)
    clear hb
    go_wp2
    go_ret
    exact ⟨rfl, HS.out.2.2.2.2.2⟩
end Go.Proofs.Ytnhijmhambggbaa
