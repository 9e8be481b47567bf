/-
  The exact laws on SwitchOk and ApplySwitch, walked.
-/
import Derived.Test.YtnhijmhambggbaaLawsW
import Derived.Deep.Cut
namespace Go.Proofs.Ytnhijmhambggbaa
open Go.RowKit
set_option linter.unusedVariables false

/-- A switch of the laws in a variable. -/
def VarC (w : World) (g : Nat) (s : Sw) : Prop := g < w.heap.size ∧ SwC w g 0 s
theorem varC_c {w : World} {g : Nat} {s : Sw} (h : VarC w g s) : SwC w g 0 s := h.2
theorem varC_below {w w' : World} {g : Nat} {s : Sw} (h : VarC w g s) (hb : Below w.heap.size w w') : VarC w' g s := ⟨Nat.lt_of_lt_of_le h.1 hb.size, swC_below h.2 hb h.1⟩
theorem varC_within {w w' : World} {g lo hi : Nat} {s : Sw} (h : VarC w g s) (hw : Within lo hi w w') (ha : g + 1 ≤ lo ∨ hi ≤ g) : VarC w' g s := by
  have hb := hw.block g h.1 (by omega)
  refine ⟨Nat.lt_of_lt_of_le h.1 hw.size, ?_⟩
  have hc : ∀ o, w'.cell? ⟨g, o, none⟩ = w.cell? ⟨g, o, none⟩ := fun o => by simp [World.cell?, hb]
  exact ⟨by rw [hc]; exact h.2.1, by rw [hc]; exact h.2.2.1, by rw [hc]; exact h.2.2.2.1, by rw [hc]; exact h.2.2.2.2⟩
theorem wpList_boxLSw {P : Program} {ops : Array Oper} {rest : List Oper} {o : Oper} {a : Act} {Q : Exit → Act → World → Prop} {W : World} (s : Sw)
    (d : Tmp) (_hd : o.dst = some d) (hgd : o.guard = none) (x : Operand) (ho : o.op = .box 48 x) (hx : a.eval x = swV s)
    (h : ∀ w', VarC w' W.heap.size s → Below W.heap.size W w' → w'.heap.size = W.heap.size + 1 → wpList P ops Q rest (a.put o.dst (.pointer (some ⟨W.heap.size, 0, none⟩))) w') : wpList P ops Q (o :: rest) a W := by
  refine wpList_plain hgd fun K hK => ?_
  unfold Oper.wp execOp
  simp only [ho, hx, Instr.box, Sem.run_bind]
  simp [newVar, newRow, Value.cells, swV]
  have hn : (W.alloc (.cells (swA s) 48)).heap[W.heap.size]? = some (.cells (swA s) 48 (0, 0)) := heap_alloc_new W _
  exact hK _ _ (h _ ⟨by simp, by rw [cell_of_row _ _ 0 _ _ _ hn]; rfl, by rw [cell_of_row _ _ 1 _ _ _ hn]; rfl, by rw [cell_of_row _ _ 2 _ _ _ hn]; rfl, by rw [cell_of_row _ _ 3 _ _ _ hn]; rfl⟩ ((Below.refl _ _).alloc (Nat.le_refl _) _) (by simp))
theorem exec_loadLSw {ρ : Operand → Value} {o : Oper} {w : World} {x : Operand} {g k : Nat} {s : Sw} (ho : o.op = .load 48 x) (hx : ρ x = .pointer (some ⟨g, k, none⟩)) (hb : SwC w g k s) : (execOp ρ o).run Try.prog w = .ok (.value (swV s)) w := by
  obtain ⟨h0, h1, h2, h3⟩ := hb
  unfold execOp
  simp only [ho, hx]
  go_simp
  rfl
def inMF (m : List (List Int)) : FactP := fun u w => InMat w u m
theorem stable_inMF (m : List (List Int)) : StableP (inMF m) := fun _ _ _ hb h => inMat_below h hb
def ownMF (lo : Nat) (m : List (List Int)) : FactP := fun u w => OwnMat w lo w.heap.size u m
theorem stable_ownMF (lo : Nat) (m : List (List Int)) : StableP (ownMF lo m) := fun _ _ _ hb h => ownMat_mono (ownMat_below h hb) (Nat.le_refl _) hb.size
def resMF (lo : Nat) (m : List (List Int)) (b : Bool) : FactP := fun u w => ∃ x, u = .tuple #[x, .bool b] ∧ OwnMat w lo w.heap.size x m
theorem stable_resMF (lo : Nat) (m : List (List Int)) (b : Bool) : StableP (resMF lo m b) := fun _ _ _ hb ⟨x, h1, h2⟩ => ⟨x, h1, ownMat_mono (ownMat_below h2 hb) (Nat.le_refl _) hb.size⟩

set_option maxRecDepth 100000 in
set_option maxHeartbeats 4000000 in
theorem lawSwitchOk_walk (a : Option Addr) (n c : Nat) (m : List (List Int)) (s : Sw) (w : World) (hin : InMat w (.slice a n c) m) :
    Calls Try.prog 5 #[.slice a n c, swV s] w fun e w' => e = .returned (.bool true) ∧ Below w.heap.size w w' := by
  have HI := hide hin
  obtain ⟨val, hval⟩ : ∃ val, val = (okB m && swB m s) := ⟨_, rfl⟩
  have HS := hide fun v w h => specSwitchOk_any v m s w h
  have HM := hide fun v w h => implSwitchOk_any v m s w h
  rw [← hval] at HS HM
  clear hval
  clear hin
  go_enter Try.func5, Try.ntmps5
  go_upto_region 2 with ((with_reducible refine wpList_boxLSw s 3 rfl rfl (.tmp 1) rfl rfl ?_); intro w0 hd hb s0; have hs0 := hb.size; have HD := hide hd; have HB := hide hb; clear hd hb)
  go_wp2_with fail
  refine (szIntSS_any _ m 1048576 _ (by omega) (inMat_below HI.out HB.out)).mono ?_
  rintro e w1 ⟨r, rfl, hr, hb⟩
  have hs1 := hb.size
  replace HD := hide (varC_below HD.out hb)
  replace HB := hide (HB.out.trans (hb.mono HB.out.size))
  clear hb
  rcases hr with rfl | ⟨hsz, rfl⟩
  · go_wp2
    go_ret
    exact ⟨rfl, HB.out⟩
  · go_upto_region 5 with fail
    obtain ⟨fs, hfs⟩ : ∃ fs : List FactP, fs = [isV (.slice a n c), inMF m, isV (swV s), isV (swV s), isV (.bool val)] := ⟨_, rfl⟩
    have hst : ∀ f ∈ fs, StableP f := by
      rw [hfs]; intro f hf
      simp only [List.mem_cons, List.not_mem_nil, or_false] at hf
      rcases hf with rfl | rfl | rfl | rfl | rfl <;> first | exact stable_v _ | exact stable_inMF _ | exact stable_ownMF _ _ | exact stable_resMF _ _ _
    subst hfs
    refine wp_region_tail (S := fun w2 => VarC w2 w.heap.size s ∧ Below w1.heap.size w1 w2) [isV (.slice a n c), inMF m, isV (swV s), isV (swV s), isV (.bool val)] [(0, .slice a n c), (3, .pointer (some ⟨w.heap.size, 0, none⟩))] _ _ 5 (by kernel_rfl) rfl rfl (by kernel_rfl) (by kernel_rfl) rfl (by kernel_rfl) ?base ⟨varC_below HD.out (below_drew (Below.refl _ _)), below_drew (Below.refl _ _)⟩ ?ob rfl ?fin
    case base =>
      intro t v ht
      simp only [List.lookup_cons, List.lookup_nil] at ht
      repeat' split at ht
      all_goals first | (cases ht; done) | (obtain rfl := Option.some.inj ht; rename_i hh; obtain rfl := eq_of_beq hh; rfl)
    case ob =>
      exact ⟨obt_move (.slice a n c) rfl rfl rfl (srt_b 0 rfl),
        obt_call hst [.slice a n c] rfl Try.func32 (by kernel_rfl) (by kernel_rfl) rfl ⟨(srt_j 0 rfl (by kernel_rfl) rfl), trivial⟩ (fun w2 hS => (toIntSS_any _ m _ (by omega) (inMat_below HI.out (HB.out.trans (hS.2.mono HB.out.size)))).mono fun e w3 ⟨u, he, ho, hh⟩ => ⟨_, he, ⟨varC_below hS.1 hh, hS.2.trans (hh.mono hS.2.size)⟩, hh, inMat_own ho⟩),
        obt_one (swV s) rfl rfl (srt_b 3 rfl) (fun ρ w2 hS hx => exec_loadLSw rfl hx hS.1.2),
        obt_call hst [swV s] rfl Try.func33 (by kernel_rfl) (by kernel_rfl) rfl ⟨(srt_j 2 rfl (by kernel_rfl) rfl), trivial⟩ (fun w2 hS => (toSwitch_any s w2).mono fun e w3 ⟨he, hh⟩ => ⟨_, he, ⟨varC_below hS.1 hh, hS.2.trans (hh.mono hS.2.size)⟩, hh, rfl⟩),
        obt_call_l hst 1 rfl Try.func31 (by kernel_rfl) (by kernel_rfl) rfl rfl (by kernel_rfl) (srt_j 3 rfl (by kernel_rfl) rfl) (fun v w2 hS hf => (HS.out v _ hf).mono fun e w3 ⟨he, hh⟩ => ⟨_, he, ⟨varC_below hS.1 hh, hS.2.trans (hh.mono hS.2.size)⟩, hh, rfl⟩),
        trivial⟩
    case fin =>
      intro a' w20 h1 h2 h3 hS h4 K hK
      have hv : a'.eval (.tmp 18) = .bool val := h4 4 18 rfl (by decide)
      refine tail_assign rfl hv ?_ K hK
      have ha := frame_ov rfl h1 h2 h3 [(14, .slice a n c), (15, a'.tmps.getD 15 undef), (16, swV s), (17, swV s), (18, .bool val), (6, a'.tmps.getD 6 undef)] (by kernel_rfl) ⟨h4 0 14 rfl (by decide), rfl, h4 2 16 rfl (by decide), h4 3 17 rfl (by decide), h4 4 18 rfl (by decide), rfl, trivial⟩
      dsimp only [ov, List.lookup, Nat.reduceBEq, Nat.reduceAdd] at ha
      show Exit.then _ _ Exit.normal (Act.put a' (some 6) (.bool val)) _
      rw [ha]
      generalize a'.tmps.getD 15 undef = u15
      generalize a'.tmps.getD 6 undef = u6
      clear ha h1 h2 h3 h4 hst hK hv
      have hb := hS.2
      clear hS
      have hs2 := hb.size
      replace HD := hide (varC_below HD.out hb)
      replace HB := hide (HB.out.trans (hb.mono HB.out.size))
      go_wp2_with fail
      refine (toIntSS_any _ m _ (by omega) (inMat_below HI.out HB.out)).mono ?_
      rintro e w3 ⟨v2, rfl, hv, hb⟩
      have hs3 := hb.size
      replace HD := hide (varC_below HD.out hb)
      replace HB := hide (HB.out.trans (hb.mono HB.out.size))
      have HV2 := hide (hv)
      clear hb
      clear hv
      go_wp2_with (with_reducible refine wpList_loadLSw (varC_c HD.out) 22 rfl rfl _ rfl rfl ?_)
      refine (toSwitch_any s _).mono ?_
      rintro e w4 ⟨rfl, hb⟩
      have hs4 := hb.size
      replace HD := hide (varC_below HD.out hb)
      replace HV2 := hide (ownMat_below HV2.out hb)
      replace HB := hide (HB.out.trans (hb.mono HB.out.size))
      clear hb
      go_wp2_with fail
      refine (HM.out v2 _ (inMat_own HV2.out)).mono ?_
      rintro e w5 ⟨rfl, hb⟩
      have hs5 := hb.size
      replace HD := hide (varC_below HD.out hb)
      replace HV2 := hide (ownMat_below HV2.out hb)
      replace HB := hide (HB.out.trans (hb.mono HB.out.size))
      clear hb
      go_wp2_with fail
      refine (toIntSS_any _ m _ (by omega) (inMat_below HI.out HB.out)).mono ?_
      rintro e w6 ⟨v3, rfl, hv, hb⟩
      have hs6 := hb.size
      replace HD := hide (varC_below HD.out hb)
      replace HV2 := hide (ownMat_below HV2.out hb)
      replace HB := hide (HB.out.trans (hb.mono HB.out.size))
      have HV3 := hide (hv)
      clear hb
      clear hv
      go_wp2_with fail
      refine (eqIntSS_same v2 v3 m _ (inMat_own HV2.out) (inMat_own HV3.out)).mono ?_
      rintro e w7 ⟨rfl, hb⟩
      have hs7 := hb.size
      replace HD := hide (varC_below HD.out hb)
      replace HV2 := hide (ownMat_below HV2.out hb)
      replace HV3 := hide (ownMat_below HV3.out hb)
      replace HB := hide (HB.out.trans (hb.mono HB.out.size))
      clear hb
      go_wp2
      go_ret
      exact ⟨rfl, HB.out⟩

set_option maxRecDepth 100000 in
set_option maxHeartbeats 4000000 in
theorem lawApplySwitch_walk (a : Option Addr) (n c : Nat) (m : List (List Int)) (s : Sw) (w : World) (hin : InMat w (.slice a n c) m) :
    Calls Try.prog 7 #[.slice a n c, swV s] w fun e w' => e = .returned (.bool true) ∧ Below w.heap.size w w' := by
  have HI := hide hin
  have HRL := hide (appRowsB_len m [s])
  obtain ⟨rows, hrows⟩ : ∃ rows, rows = appRowsB m [s] := ⟨_, rfl⟩
  obtain ⟨b, hb⟩ : ∃ b, b = appOkB m [s] := ⟨_, rfl⟩
  have HS := hide fun v w h => specApplySwitch_any v m s w h
  have HM := hide fun v w h => implApplySwitch_any v m s w h
  rw [← hrows] at HRL HS HM
  rw [← hb] at HS HM
  clear hrows hb
  clear hin
  go_enter Try.func7, Try.ntmps7
  go_upto_region 2 with ((with_reducible refine wpList_boxLSw s 3 rfl rfl (.tmp 1) rfl rfl ?_); intro w0 hd hb s0; have hs0 := hb.size; have HD := hide hd; have HB := hide hb; clear hd hb)
  go_wp2_with fail
  refine (szIntSS_any _ m 1048576 _ (by omega) (inMat_below HI.out HB.out)).mono ?_
  rintro e w1 ⟨r, rfl, hr, hb⟩
  have hs1 := hb.size
  replace HD := hide (varC_below HD.out hb)
  replace HB := hide (HB.out.trans (hb.mono HB.out.size))
  clear hb
  rcases hr with rfl | ⟨hsz, rfl⟩
  · go_wp2
    go_ret
    exact ⟨rfl, HB.out⟩
  · go_upto_region 5 with fail
    obtain ⟨fs, hfs⟩ : ∃ fs : List FactP, fs = [isV (.slice a n c), inMF m, isV (swV s), isV (swV s), resMF w1.heap.size rows b, resMF w1.heap.size rows b, ownMF w1.heap.size rows, isV (.bool b), ownMF w1.heap.size rows] := ⟨_, rfl⟩
    have hst : ∀ f ∈ fs, StableP f := by
      rw [hfs]; intro f hf
      simp only [List.mem_cons, List.not_mem_nil, or_false] at hf
      rcases hf with rfl | rfl | rfl | rfl | rfl | rfl | rfl | rfl | rfl <;> first | exact stable_v _ | exact stable_inMF _ | exact stable_ownMF _ _ | exact stable_resMF _ _ _
    subst hfs
    refine wp_region_tail (S := fun w2 => VarC w2 w.heap.size s ∧ Below w1.heap.size w1 w2) [isV (.slice a n c), inMF m, isV (swV s), isV (swV s), resMF w1.heap.size rows b, resMF w1.heap.size rows b, ownMF w1.heap.size rows, isV (.bool b), ownMF w1.heap.size rows] [(0, .slice a n c), (3, .pointer (some ⟨w.heap.size, 0, none⟩))] _ _ 9 (by kernel_rfl) rfl rfl (by kernel_rfl) (by kernel_rfl) rfl (by kernel_rfl) ?base ⟨varC_below HD.out (below_drew (Below.refl _ _)), below_drew (Below.refl _ _)⟩ ?ob rfl ?fin
    case base =>
      intro t v ht
      simp only [List.lookup_cons, List.lookup_nil] at ht
      repeat' split at ht
      all_goals first | (cases ht; done) | (obtain rfl := Option.some.inj ht; rename_i hh; obtain rfl := eq_of_beq hh; rfl)
    case ob =>
      exact ⟨obt_move (.slice a n c) rfl rfl rfl (srt_b 0 rfl),
        obt_call hst [.slice a n c] rfl Try.func32 (by kernel_rfl) (by kernel_rfl) rfl ⟨(srt_j 0 rfl (by kernel_rfl) rfl), trivial⟩ (fun w2 hS => (toIntSS_any _ m _ (by omega) (inMat_below HI.out (HB.out.trans (hS.2.mono HB.out.size)))).mono fun e w3 ⟨u, he, ho, hh⟩ => ⟨_, he, ⟨varC_below hS.1 hh, hS.2.trans (hh.mono hS.2.size)⟩, hh, inMat_own ho⟩),
        obt_one (swV s) rfl rfl (srt_b 3 rfl) (fun ρ w2 hS hx => exec_loadLSw rfl hx hS.1.2),
        obt_call hst [swV s] rfl Try.func33 (by kernel_rfl) (by kernel_rfl) rfl ⟨(srt_j 2 rfl (by kernel_rfl) rfl), trivial⟩ (fun w2 hS => (toSwitch_any s w2).mono fun e w3 ⟨he, hh⟩ => ⟨_, he, ⟨varC_below hS.1 hh, hS.2.trans (hh.mono hS.2.size)⟩, hh, rfl⟩),
        obt_call_l hst 1 rfl Try.func42 (by kernel_rfl) (by kernel_rfl) rfl rfl (by kernel_rfl) (srt_j 3 rfl (by kernel_rfl) rfl) (fun v w2 hS hf => (HS.out v _ hf).mono fun e w3 ⟨u, he, ho, hh⟩ => ⟨_, he, ⟨varC_below hS.1 hh, hS.2.trans (hh.mono hS.2.size)⟩, hh, ⟨u, rfl, ownMat_mono ho hS.2.size (Nat.le_refl _)⟩⟩),
        obt_from 4 rfl rfl (by kernel_rfl) (fun ρ w u hS hx hf => ⟨u, exec_moveV rfl hx, hf⟩),
        obt_from 5 rfl rfl (by kernel_rfl) (fun ρ w u hS hx hf => by obtain ⟨x, rfl, hm⟩ := hf; exact ⟨x, exec_extract0 rfl hx, hm⟩),
        obt_from 5 rfl rfl (by kernel_rfl) (fun ρ w u hS hx hf => by obtain ⟨x, rfl, hm⟩ := hf; exact ⟨.bool b, exec_extract1 rfl hx, rfl⟩),
        obt_from 6 rfl rfl (by kernel_rfl) (fun ρ w u hS hx hf => ⟨u, exec_assignV rfl hx, hf⟩),
        trivial⟩
    case fin =>
      intro a' w20 h1 h2 h3 hS h4 K hK
      have hv : a'.eval (.tmp 28) = .bool b := h4 7 28 rfl (by decide)
      refine tail_assign rfl hv ?_ K hK
      have ha := frame_ov rfl h1 h2 h3 [(22, .slice a n c), (23, a'.tmps.getD 23 undef), (24, swV s), (25, swV s), (26, a'.tmps.getD 26 undef), (21, a'.tmps.getD 21 undef), (27, a'.tmps.getD 27 undef), (28, .bool b), (6, a'.tmps.getD 6 undef), (7, a'.tmps.getD 7 undef)] (by kernel_rfl) ⟨h4 0 22 rfl (by decide), rfl, h4 2 24 rfl (by decide), h4 3 25 rfl (by decide), rfl, rfl, rfl, h4 7 28 rfl (by decide), rfl, rfl, trivial⟩
      dsimp only [ov, List.lookup, Nat.reduceBEq, Nat.reduceAdd] at ha
      have HU := hide (h4 8 6 rfl (by decide))
      show Exit.then _ _ Exit.normal (Act.put a' (some 7) (.bool b)) _
      rw [ha]
      generalize a'.tmps.getD 23 undef = u23
      generalize a'.tmps.getD 26 undef = u26
      generalize a'.tmps.getD 21 undef = u21
      generalize a'.tmps.getD 27 undef = u27
      generalize a'.tmps.getD 6 undef = u6 at HU ⊢
      generalize a'.tmps.getD 7 undef = u7
      clear ha h1 h2 h3 h4 hst hK hv
      have hb := hS.2
      clear hS
      have hs2 := hb.size
      replace HD := hide (varC_below HD.out hb)
      replace HB := hide (HB.out.trans (hb.mono HB.out.size))
      replace HU : Hid (OwnMat _ w1.heap.size w20.heap.size u6 rows) := HU
      go_wp2_with fail
      refine (toIntSS_any _ m _ (by omega) (inMat_below HI.out HB.out)).mono ?_
      rintro e w3 ⟨v2, rfl, hv, hb⟩
      have hs3 := hb.size
      replace HD := hide (varC_below HD.out hb)
      replace HU := hide (ownMat_below HU.out hb)
      replace HB := hide (HB.out.trans (hb.mono HB.out.size))
      have HV2 := hide (hv)
      clear hb
      clear hv
      go_wp2_with (with_reducible refine wpList_loadLSw (varC_c HD.out) 33 rfl rfl _ rfl rfl ?_)
      refine (toSwitch_any s _).mono ?_
      rintro e w4 ⟨rfl, hb⟩
      have hs4 := hb.size
      replace HD := hide (varC_below HD.out hb)
      replace HU := hide (ownMat_below HU.out hb)
      replace HV2 := hide (ownMat_below HV2.out hb)
      replace HB := hide (HB.out.trans (hb.mono HB.out.size))
      clear hb
      go_wp2_with fail
      refine (HM.out v2 _ (inMat_own HV2.out)).mono ?_
      rintro e w5 ⟨g, rfl, hu, hb⟩
      have hs5 := hb.size
      replace HD := hide (varC_below HD.out hb)
      replace HU := hide (ownMat_below HU.out hb)
      replace HV2 := hide (ownMat_below HV2.out hb)
      replace HB := hide (HB.out.trans (hb.mono HB.out.size))
      have HG := hide (hu)
      clear hb
      clear hu
      go_wp2_with fail
      refine (eqIntSS_same g u6 rows _ (inMat_own HG.out) (inMat_own HU.out)).mono ?_
      rintro e w6 ⟨rfl, hb⟩
      have hs6 := hb.size
      replace HD := hide (varC_below HD.out hb)
      replace HU := hide (ownMat_below HU.out hb)
      replace HV2 := hide (ownMat_below HV2.out hb)
      replace HG := hide (ownMat_below HG.out hb)
      replace HB := hide (HB.out.trans (hb.mono HB.out.size))
      clear hb
      go_wp2_with fail
      refine (toIntSS_any _ m _ (by omega) (inMat_below HI.out HB.out)).mono ?_
      rintro e w7 ⟨v3, rfl, hv, hb⟩
      have hs7 := hb.size
      replace HD := hide (varC_below HD.out hb)
      replace HU := hide (ownMat_below HU.out hb)
      replace HV2 := hide (ownMat_below HV2.out hb)
      replace HG := hide (ownMat_below HG.out hb)
      replace HB := hide (HB.out.trans (hb.mono HB.out.size))
      have HV3 := hide (hv)
      clear hb
      clear hv
      go_wp2_with fail
      refine (eqIntSS_same v2 v3 m _ (inMat_own HV2.out) (inMat_own HV3.out)).mono ?_
      rintro e w8 ⟨rfl, hb⟩
      have hs8 := hb.size
      replace HD := hide (varC_below HD.out hb)
      replace HU := hide (ownMat_below HU.out hb)
      replace HV2 := hide (ownMat_below HV2.out hb)
      replace HG := hide (ownMat_below HG.out hb)
      replace HV3 := hide (ownMat_below HV3.out hb)
      replace HB := hide (HB.out.trans (hb.mono HB.out.size))
      clear hb
      go_wp2_with fail
      refine (markIntSS_any m 1 _ _ v2 _ (by omega) (by omega) HV2.out).mono ?_
      rintro e w9 ⟨rfl, -, hw⟩
      have hs9 := hw.size
      replace HD := hide (varC_within HD.out hw (by omega))
      replace HU := hide (ownMat_within HU.out hw (by omega))
      replace HG := hide (ownMat_within HG.out hw (by omega))
      replace HV3 := hide (ownMat_within HV3.out hw (by omega))
      replace HB := hide (HB.out.trans (below_within hw (by omega) HB.out.size))
      clear HV2
      clear hw
      go_wp2_with fail
      refine (eqIntSS_same g u6 rows _ (inMat_own HG.out) (inMat_own HU.out)).mono ?_
      rintro e w10 ⟨rfl, hb⟩
      have hs10 := hb.size
      replace HD := hide (varC_below HD.out hb)
      replace HU := hide (ownMat_below HU.out hb)
      replace HG := hide (ownMat_below HG.out hb)
      replace HV3 := hide (ownMat_below HV3.out hb)
      replace HB := hide (HB.out.trans (hb.mono HB.out.size))
      clear hb
      go_wp2_with fail
      refine (markIntSS_any rows 1 _ _ g _ (by have := HRL.out; omega) (by omega) HG.out).mono ?_
      rintro e w11 ⟨rfl, ho, hw⟩
      have hs11 := hw.size
      replace HD := hide (varC_within HD.out hw (by omega))
      replace HU := hide (ownMat_within HU.out hw (by omega))
      replace HV3 := hide (ownMat_within HV3.out hw (by omega))
      replace HB := hide (HB.out.trans (below_within hw (by omega) HB.out.size))
      have HC := hide (inMat_own ho)
      clear HG
      clear hw
      clear ho
      go_wp2_with fail
      refine (heldIntSS_any rows 1 g _ (by have := HRL.out; omega) (by omega) HC.out).mono ?_
      rintro e w12 ⟨rfl, hb⟩
      have hs12 := hb.size
      replace HD := hide (varC_below HD.out hb)
      replace HU := hide (ownMat_below HU.out hb)
      replace HV3 := hide (ownMat_below HV3.out hb)
      replace HC := hide (inMat_below HC.out hb)
      replace HB := hide (HB.out.trans (hb.mono HB.out.size))
      clear hb
      go_upto_region 24 with fail
      obtain ⟨fs, hfs⟩ : ∃ fs : List FactP, fs = [isV (.slice a n c), inMF m, isV (swV s), isV (swV s), resMF w12.heap.size rows b, resMF w12.heap.size rows b, ownMF w12.heap.size rows, isV (.bool b), ownMF w12.heap.size rows] := ⟨_, rfl⟩
      have hst : ∀ f ∈ fs, StableP f := by
        rw [hfs]; intro f hf
        simp only [List.mem_cons, List.not_mem_nil, or_false] at hf
        rcases hf with rfl | rfl | rfl | rfl | rfl | rfl | rfl | rfl | rfl <;> first | exact stable_v _ | exact stable_inMF _ | exact stable_ownMF _ _ | exact stable_resMF _ _ _
      subst hfs
      refine wp_region_tail (S := fun w2 => VarC w2 w.heap.size s ∧ Below w12.heap.size w12 w2) [isV (.slice a n c), inMF m, isV (swV s), isV (swV s), resMF w12.heap.size rows b, resMF w12.heap.size rows b, ownMF w12.heap.size rows, isV (.bool b), ownMF w12.heap.size rows] [(0, .slice a n c), (3, .pointer (some ⟨w.heap.size, 0, none⟩))] _ _ 9 (by kernel_rfl) rfl rfl (by kernel_rfl) (by kernel_rfl) rfl (by kernel_rfl) ?base ⟨varC_below HD.out (below_drew (Below.refl _ _)), below_drew (Below.refl _ _)⟩ ?ob rfl ?fin
      case base =>
        intro t v ht
        simp only [List.lookup_cons, List.lookup_nil] at ht
        repeat' split at ht
        all_goals first | (cases ht; done) | (obtain rfl := Option.some.inj ht; rename_i hh; obtain rfl := eq_of_beq hh; rfl)
      case ob =>
        exact ⟨obt_move (.slice a n c) rfl rfl rfl (srt_b 0 rfl),
          obt_call hst [.slice a n c] rfl Try.func32 (by kernel_rfl) (by kernel_rfl) rfl ⟨(srt_j 0 rfl (by kernel_rfl) rfl), trivial⟩ (fun w2 hS => (toIntSS_any _ m _ (by omega) (inMat_below HI.out (HB.out.trans (hS.2.mono HB.out.size)))).mono fun e w3 ⟨u, he, ho, hh⟩ => ⟨_, he, ⟨varC_below hS.1 hh, hS.2.trans (hh.mono hS.2.size)⟩, hh, inMat_own ho⟩),
          obt_one (swV s) rfl rfl (srt_b 3 rfl) (fun ρ w2 hS hx => exec_loadLSw rfl hx hS.1.2),
          obt_call hst [swV s] rfl Try.func33 (by kernel_rfl) (by kernel_rfl) rfl ⟨(srt_j 2 rfl (by kernel_rfl) rfl), trivial⟩ (fun w2 hS => (toSwitch_any s w2).mono fun e w3 ⟨he, hh⟩ => ⟨_, he, ⟨varC_below hS.1 hh, hS.2.trans (hh.mono hS.2.size)⟩, hh, rfl⟩),
          obt_call_l hst 1 rfl Try.func27 (by kernel_rfl) (by kernel_rfl) rfl rfl (by kernel_rfl) (srt_j 3 rfl (by kernel_rfl) rfl) (fun v w2 hS hf => (HM.out v _ hf).mono fun e w3 ⟨u, he, ho, hh⟩ => ⟨_, he, ⟨varC_below hS.1 hh, hS.2.trans (hh.mono hS.2.size)⟩, hh, ⟨u, rfl, ownMat_mono ho hS.2.size (Nat.le_refl _)⟩⟩),
          obt_from 4 rfl rfl (by kernel_rfl) (fun ρ w u hS hx hf => ⟨u, exec_moveV rfl hx, hf⟩),
          obt_from 5 rfl rfl (by kernel_rfl) (fun ρ w u hS hx hf => by obtain ⟨x, rfl, hm⟩ := hf; exact ⟨x, exec_extract0 rfl hx, hm⟩),
          obt_from 5 rfl rfl (by kernel_rfl) (fun ρ w u hS hx hf => by obtain ⟨x, rfl, hm⟩ := hf; exact ⟨.bool b, exec_extract1 rfl hx, rfl⟩),
          obt_from 6 rfl rfl (by kernel_rfl) (fun ρ w u hS hx hf => ⟨u, exec_assignV rfl hx, hf⟩),
          trivial⟩
      case fin =>
        intro a' w60 h1 h2 h3 hS h4 K hK
        have hv : a'.eval (.tmp 86) = .bool b := h4 7 86 rfl (by decide)
        refine tail_assign rfl hv ?_ K hK
        have ha := frame_ov rfl h1 h2 h3 [(80, .slice a n c), (81, a'.tmps.getD 81 undef), (82, swV s), (83, swV s), (84, a'.tmps.getD 84 undef), (79, a'.tmps.getD 79 undef), (85, a'.tmps.getD 85 undef), (86, .bool b), (14, a'.tmps.getD 14 undef), (15, a'.tmps.getD 15 undef)] (by kernel_rfl) ⟨h4 0 80 rfl (by decide), rfl, h4 2 82 rfl (by decide), h4 3 83 rfl (by decide), rfl, rfl, rfl, h4 7 86 rfl (by decide), rfl, rfl, trivial⟩
        dsimp only [ov, List.lookup, Nat.reduceBEq, Nat.reduceAdd] at ha
        have HH := hide (h4 8 14 rfl (by decide))
        show Exit.then _ _ Exit.normal (Act.put a' (some 15) (.bool b)) _
        rw [ha]
        generalize a'.tmps.getD 81 undef = u81
        generalize a'.tmps.getD 84 undef = u84
        generalize a'.tmps.getD 79 undef = u79
        generalize a'.tmps.getD 85 undef = u85
        generalize a'.tmps.getD 14 undef = u14 at HH ⊢
        generalize a'.tmps.getD 15 undef = u15
        clear ha h1 h2 h3 h4 hst hK hv
        have hb := hS.2
        clear hS
        have hs13 := hb.size
        replace HD := hide (varC_below HD.out hb)
        replace HU := hide (ownMat_below HU.out hb)
        replace HV3 := hide (ownMat_below HV3.out hb)
        replace HC := hide (inMat_below HC.out hb)
        replace HB := hide (HB.out.trans (hb.mono HB.out.size))
        replace HH : Hid (OwnMat _ w12.heap.size w60.heap.size u14 rows) := HH
        go_wp2_with fail
        refine (eqIntSS_same u14 u6 rows _ (inMat_own HH.out) (inMat_own HU.out)).mono ?_
        rintro e w14 ⟨rfl, hb⟩
        have hs14 := hb.size
        replace HD := hide (varC_below HD.out hb)
        replace HU := hide (ownMat_below HU.out hb)
        replace HV3 := hide (ownMat_below HV3.out hb)
        replace HH := hide (ownMat_below HH.out hb)
        replace HC := hide (inMat_below HC.out hb)
        replace HB := hide (HB.out.trans (hb.mono HB.out.size))
        clear hb
        go_wp2_with fail
        refine (heldIntSS_any rows 1 g _ (by have := HRL.out; omega) (by omega) HC.out).mono ?_
        rintro e w15 ⟨rfl, hb⟩
        have hs15 := hb.size
        replace HD := hide (varC_below HD.out hb)
        replace HU := hide (ownMat_below HU.out hb)
        replace HV3 := hide (ownMat_below HV3.out hb)
        replace HH := hide (ownMat_below HH.out hb)
        replace HC := hide (inMat_below HC.out hb)
        replace HB := hide (HB.out.trans (hb.mono HB.out.size))
        clear hb
        go_wp2
        go_ret
        exact ⟨rfl, HB.out⟩
end Go.Proofs.Ytnhijmhambggbaa
