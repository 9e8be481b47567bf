/-
  Texts of this claim, one behind the other: BuiltR.
-/
import Derived.Test.YtpfaaglaeholbaaGreatPackM
import Derived.Test.YtpfaaglaeholbaaGreatPackN
import Derived.Test.YtpfaaglaeholbaaGreatPackH
/-
  The law FnBuilt, walked.
-/
namespace Go.Proofs.YtpfaaglaeholbaaGreat
open Go.RowKit
set_option linter.unusedVariables false

theorem sameB_ok {R C : Nat} {f g : Nat → Nat → Int} (hI : Img R C f) (hJ : Img R C g) (hs : (∀ y, y < R → rs C f y = rs C g y) ∧ ∀ x, x < C → cs R f x = cs R g x) : sameB (mkM R C f) (mkM R C g) = true := by
  rw [sameB_mk hI hJ, if_pos ⟨rfl, rfl⟩]
  unfold sameL
  rw [Bool.and_eq_true, beq_iff_eq, beq_iff_eq]
  refine ⟨rowF_congr fun y hy => by rw [hs.1 y hy], rowF_congr fun x hx => ?_⟩
  have := hs.2 x hx
  show ((rs R (trM f) x : Nat) : Int) = rs R (trM g) x
  exact congrArg Int.ofNat this
theorem img_same {R C : Nat} {f g : Nat → Nat → Int} (hI : Img R C f) (hg : ImgF (rowsL R C f) (rowsL C R (trM f)) g) : Img R C g ∧ sameB (mkM R C g) (mkM R C f) = true := by
  obtain ⟨h1, h2, h3⟩ := (imgF_iff hI g).1 hg
  have hJ : Img R C g := ⟨hI.r1, hI.r2, hI.c1, hI.c2, h1⟩
  refine ⟨hJ, sameB_ok hJ hI ⟨fun y hy => ?_, fun x hx => ?_⟩⟩
  · have := h2 y hy
    rw [S_cnt _ _ fun x hx => h1 y x hy hx, S_cnt _ _ fun x hx => hI.cell y x hy hx] at this
    unfold rs; omega
  · have := h3 x hx
    rw [S_cnt _ _ fun y hy => h1 y x hy hx, S_cnt _ _ fun y hy => hI.cell y x hy hx] at this
    unfold cs; omega
theorem same_ok (v u : Value) (m l : List (List Int)) (w : World) (hin : InMat w v m) (hin2 : InMat w u l) (h : sameB m l = true) :
    Calls Tryz.prog 11 #[v, u] w fun e w' => e = .returned (.bool true) ∧ Below w.heap.size w w' := by
  have := implSameB_any v u m l w hin hin2
  rw [h] at this; exact this
theorem build_yes (va vb : Value) (r c : List Int) (m : List (List Int)) (w : World) (ha : RowC w va r) (hb : RowC w vb c) (h : existsOf r c = true) (hm : imgL greedyCh r c = m) :
    Calls Tryz.prog 9 #[va, vb] w (MatRes2 m true w) := by
  have := implBuild_any va vb r c w ha hb
  rw [h, if_pos rfl, hm] at this; exact this
theorem least_yes (va vb : Value) (r c : List Int) (m : List (List Int)) (w : World) (ha : RowC w va r) (hb : RowC w vb c) (h : existsOf r c = true) (hm : imgL leastCh r c = m) :
    Calls Tryz.prog 10 #[va, vb] w (MatRes2 m true w) := by
  have := implLeast_any va vb r c w ha hb
  rw [h, if_pos rfl, hm] at this; exact this
theorem mk_rows {R C : Nat} {f : Nat → Nat → Int} : ∀ q ∈ mkM R C f, q.length = C := fun q hq => by
  unfold mkM at hq
  obtain ⟨y, -, rfl⟩ := List.mem_map.1 hq
  exact rowF_len _ _
theorem before_no (va vb : Value) (R C : Nat) (f g : Nat → Nat → Int) (w : World) (ha : InMat w va (mkM R C f)) (hb : InMat w vb (mkM R C g)) (hI : Img R C f) (h : beforeL (mkM R C f) (mkM R C g) = false) :
    Calls Tryz.prog 12 #[va, vb] w fun e w' => e = .returned (.bool false) ∧ Below w.heap.size w w' := by
  have h1 := hI.r1; have h2 := hI.r2
  have := before_any2 va vb _ _ C w ha hb (by rw [mkM_len, mkM_len]) (by rw [mkM_len]; omega) ⟨hI.c1, hI.c2⟩ mk_rows mk_rows
  rw [h] at this
  exact this.mono fun e w' h => ⟨h.1, by rw [← h.2]; exact Below.refl _ _⟩
theorem not_before {R C : Nat} {f g k : Nat → Nat → Int} (hI : Img R C f) (hg : ImgF (rowsL R C f) (rowsL C R (trM f)) g) (hk : imgL leastCh (rowsL R C f) (rowsL C R (trM f)) = mkM R C k) : beforeL (mkM R C g) (mkM R C k) = false := by
  have h := all_complete (rowsL R C f) (rowsL C R (trM f)) (by rw [rows_len]; exact hI.r2) (by rw [rows_len]; exact ⟨hI.c1, hI.c2⟩) g hg
  rw [rows_len, rows_len] at h
  have := least_first (rowsL R C f) (rowsL C R (trM f)) (by rw [rows_len]; exact hI.r2) (by rw [rows_len]; exact ⟨hI.c1, hI.c2⟩) ⟨f, imgF_self hI⟩ _ h
  rw [hk] at this
  exact this
theorem inMat_slice {w : World} {v : Value} {R C : Nat} {f : Nat → Nat → Int} (h : InMat w v (mkM R C f)) : ∃ a c, v = .slice a R c := by
  obtain ⟨a, c, rfl, -⟩ := h
  rw [mkM_len]; exact ⟨a, c, rfl⟩
set_option maxHeartbeats 400000 in
theorem makeImage4_any (n c : Nat) (a : Option Addr) (m : Nat) (w : World) (base : Nat) (hin : InBytes w base a n) (hn : n ≤ 2000000) (hm : m ≤ 1000) :
    Calls Tryz.prog 6 #[.slice a n c, .int .i64 m, .int .i64 4] w (MadeImg w) := by
  have HI := hide hin
  clear hin
  go_enter Tryz.func6, Tryz.ntmps6
  go_wp2_with fail
  refine (l18New_any n c a m _ base HI.out hn hm).mono ?_
  rintro e w1 ⟨rfl, hc, hb, hlt⟩
  have HC := hide hc; have HB := hide hb; have hs1 := hb.size
  have HI1 := hide (inBytes_below HI.out (hb.mono HI.out.2.1))
  clear hc hb
  go_wp2_with fail
  refine (l02Draw_any _ n a 4 _ base (by omega) (by omega) HC.out HI1.out HI.out.2.1).mono ?_
  rintro e w2 ⟨v, R, C, f, rfl, him, ho, -, hb⟩
  have HIM := hide him; have HO := hide (ownMat_mono ho hs1 (Nat.le_refl _)); have HB2 := hide (HB.out.trans hb)
  clear him ho hb
  go_wp2
  go_ret
  exact ⟨v, R, C, f, rfl, HIM.out, HO.out, HB2.out⟩
/-- A number that was drawn, and what is left of it. -/
def numF : FactP := fun u _ => ∃ x : Int, u = .int .i64 x ∧ 0 ≤ x ∧ x ≤ 65535
def remF (C : Nat) : FactP := fun u _ => ∃ x : Nat, u = .int .i64 x ∧ x < C
theorem stable_numF : StableP numF := fun _ _ _ _ h => h
theorem stable_remF (C : Nat) : StableP (remF C) := fun _ _ _ _ h => h
theorem exec_rem {ρ : Operand → Value} {o : Oper} {w : World} {x y : Operand} {a : Int} {C : Nat} (ho : o.op = .binOp .rem 3 x y 3) (hx : ρ x = .int .i64 a) (hy : ρ y = .int .i64 C) (ha : 0 ≤ a ∧ a ≤ 65535) (hC : 1 ≤ C ∧ C ≤ 5) :
    (execOp ρ o).run Tryz.prog w = .ok (.value (.int .i64 (a % C))) w := by
  have h0 : 0 ≤ a % C := Int.emod_nonneg _ (by omega)
  have h1 : a % C < C := Int.emod_lt_of_pos a (by omega)
  unfold execOp
  simp only [ho, hx, hy]
  go_simp
  rw [if_neg (by omega), Int.tmod_eq_emod_of_nonneg ha.1]
theorem neq_not (b : Bool) : ((!b) != b) = true := by cases b <;> rfl
set_option maxRecDepth 100000 in
set_option maxHeartbeats 8000000 in
theorem lawBuilt_walk (a : Option Addr) (n c : Nat) (w : World) (hin : InBytes w w.heap.size a n) :
    Calls Tryz.prog 3 #[.slice a n c] w fun e w' => e = .returned (.bool true) ∧ Below w.heap.size w w' := by
  have hmax := hin.1
  unfold maxLen at hmax
  by_cases hbig : 1048576 < n
  · go_enter Tryz.func3, Tryz.ntmps3
    clear hin
    go_wp2
    go_ret
    exact ⟨rfl, Below.refl _ _⟩
  · have HIN := hide hin
    clear hin
    go_enter Tryz.func3, Tryz.ntmps3
    have HB := hide (Below.refl w.heap.size w)
    go_wp2_with fail
    refine (makeImage4_any n c a 0 _ _ HIN.out (by omega) (by omega)).mono ?_
    rintro e w1 ⟨v, R, C, f, rfl, hI, ho, hb⟩
    have hs1 := hb.size
    replace HB := hide (HB.out.trans (hb.mono HB.out.size))
    have HM := hide (inMat_own ho)
    clear hb
    have HI := hide hI
    have hR := hI.r2; have hR1 := hI.r1; have hC := hI.c2; have hC1 := hI.c1
    have hex := exists_of_img (r := rowsL R C f) (c := rowsL C R (trM f)) (by rw [rows_len]; omega) (by rw [rows_len]; omega) ⟨f, imgF_self hI⟩
    have HEX := hide hex
    obtain ⟨fb, hfb, hb2⟩ := built_img (r := rowsL R C f) (c := rowsL C R (trM f)) (by rw [rows_len]; omega) (by rw [rows_len]; omega) ⟨f, imgF_self hI⟩
    obtain ⟨fl, hfl, hl2⟩ := least_img (r := rowsL R C f) (c := rowsL C R (trM f)) (by rw [rows_len]; omega) (by rw [rows_len]; omega) ⟨f, imgF_self hI⟩
    rw [rows_len, rows_len] at hb2 hl2
    have HB2 : Hid (imgL greedyCh (rowsL R C f) (rowsL C R (trM f)) = mkM R C fb) := hide hb2; have HL2 : Hid (imgL leastCh (rowsL R C f) (rowsL C R (trM f)) = mkM R C fl) := hide hl2
    obtain ⟨hIb, hsb⟩ := img_same hI hfb
    obtain ⟨hIl, hsl⟩ := img_same hI hfl
    have HIB := hide hIb; have HSB := hide hsb; have HSL := hide hsl
    have HN1 := hide (not_before hI (imgF_self hI) hl2); have HN2 := hide (not_before hI hfb hl2)
    have HPL := hide fun y x (hy : y < R) (hx : x < C) => (place_img (r := rowsL R C f) (c := rowsL C R (trM f)) (f y x) (by rw [rows_len]; omega) (by rw [rows_len]; omega) (by rw [rows_len]; exact hy) (by rw [rows_len]; exact hx) ⟨f, imgF_self hI⟩).2 ⟨f, imgF_self hI, rfl⟩
    have HFX := hide fun (y x : Nat) (hy : y < R) (hx : x < C) => (fixM_mk hI y x).trans (fixB_in hy hx)
    clear hI hex hfb hb2 hfl hl2 hIb hsb hIl hsl ho
    go_wp2_with fail
    refine (implRowSums_yes v R C f _ HM.out HI.out).mono ?_
    rintro e w2 ⟨rv, rfl, ho, hb⟩
    have hs2 := hb.size
    replace HM := hide (inMat_below HM.out hb)
    replace HB := hide (HB.out.trans (hb.mono HB.out.size))
    have HR := hide (rowC_own ho)
    clear hb
    clear ho
    go_wp2_with fail
    refine (implColSums_yes v R C f _ HM.out HI.out).mono ?_
    rintro e w3 ⟨cv, rfl, ho, hb⟩
    have hs3 := hb.size
    replace HM := hide (inMat_below HM.out hb)
    replace HR := hide (rowC_below HR.out hb)
    replace HB := hide (HB.out.trans (hb.mono HB.out.size))
    have HC := hide (rowC_own ho)
    clear hb
    clear ho
    go_wp2_with fail
    refine (build_yes rv cv _ _ _ _ HR.out HC.out HEX.out HB2.out).mono ?_
    rintro e w4 ⟨bv, rfl, ho, hb⟩
    have hs4 := hb.size
    replace HM := hide (inMat_below HM.out hb)
    replace HR := hide (rowC_below HR.out hb)
    replace HC := hide (rowC_below HC.out hb)
    replace HB := hide (HB.out.trans (hb.mono HB.out.size))
    have HBV := hide (inMat_own ho)
    clear hb
    clear ho
    go_wp2_with fail
    refine (least_yes rv cv _ _ _ _ HR.out HC.out HEX.out HL2.out).mono ?_
    rintro e w5 ⟨lv, rfl, ho, hb⟩
    have hs5 := hb.size
    replace HM := hide (inMat_below HM.out hb)
    replace HR := hide (rowC_below HR.out hb)
    replace HC := hide (rowC_below HC.out hb)
    replace HBV := hide (inMat_below HBV.out hb)
    replace HB := hide (HB.out.trans (hb.mono HB.out.size))
    have HLV := hide (inMat_own ho)
    clear hb
    clear ho
    obtain ⟨mg, mo, mc, rfl, hmg, hmcell⟩ := inMat_img HM.out (by omega) (by omega)
    have HBL := hide (Below.refl w5.heap.size w5)
    have HMG := hide hmg; have HMC := hide hmcell
    clear hmg hmcell
    obtain ⟨la, lc, rfl⟩ := inMat_slice HLV.out
    go_wp2_with fail
    refine (same_ok bv (.slice (some ⟨mg, mo, none⟩) R mc) _ _ _ HBV.out HM.out HSB.out).mono ?_
    rintro e w6 ⟨rfl, hb⟩
    have hs6 := hb.size
    replace HM := hide (inMat_below HM.out hb)
    replace HR := hide (rowC_below HR.out hb)
    replace HC := hide (rowC_below HC.out hb)
    replace HBV := hide (inMat_below HBV.out hb)
    replace HLV := hide (inMat_below HLV.out hb)
    replace HB := hide (HB.out.trans (hb.mono HB.out.size))
    replace HBL := hide (HBL.out.trans (hb.mono HBL.out.size))
    clear hb
    go_wp2_with fail
    refine (same_ok (.slice la R lc) (.slice (some ⟨mg, mo, none⟩) R mc) _ _ _ HLV.out HM.out HSL.out).mono ?_
    rintro e w7 ⟨rfl, hb⟩
    have hs7 := hb.size
    replace HM := hide (inMat_below HM.out hb)
    replace HR := hide (rowC_below HR.out hb)
    replace HC := hide (rowC_below HC.out hb)
    replace HBV := hide (inMat_below HBV.out hb)
    replace HLV := hide (inMat_below HLV.out hb)
    replace HB := hide (HB.out.trans (hb.mono HB.out.size))
    replace HBL := hide (HBL.out.trans (hb.mono HBL.out.size))
    clear hb
    go_wp2_with fail
    refine (before_no (.slice (some ⟨mg, mo, none⟩) R mc) (.slice la R lc) R C f fl _ HM.out HLV.out HI.out HN1.out).mono ?_
    rintro e w8 ⟨rfl, hb⟩
    have hs8 := hb.size
    replace HM := hide (inMat_below HM.out hb)
    replace HR := hide (rowC_below HR.out hb)
    replace HC := hide (rowC_below HC.out hb)
    replace HBV := hide (inMat_below HBV.out hb)
    replace HLV := hide (inMat_below HLV.out hb)
    replace HB := hide (HB.out.trans (hb.mono HB.out.size))
    replace HBL := hide (HBL.out.trans (hb.mono HBL.out.size))
    clear hb
    go_wp2_with fail
    refine (before_no bv (.slice la R lc) R C fb fl _ HBV.out HLV.out HIB.out HN2.out).mono ?_
    rintro e w9 ⟨rfl, hb⟩
    have hs9 := hb.size
    replace HM := hide (inMat_below HM.out hb)
    replace HR := hide (rowC_below HR.out hb)
    replace HC := hide (rowC_below HC.out hb)
    replace HBV := hide (inMat_below HBV.out hb)
    replace HLV := hide (inMat_below HLV.out hb)
    replace HB := hide (HB.out.trans (hb.mono HB.out.size))
    replace HBL := hide (HBL.out.trans (hb.mono HBL.out.size))
    clear hb
    go_wp2_with fail
    refine (makeNum_any n c a 40 _ w.heap.size (inBytes_below HIN.out HB.out) (by omega) (by omega)).mono ?_
    rintro e w10 ⟨x1, hx0, hx1, rfl, hb⟩
    have hs10 := hb.size
    replace HM := hide (inMat_below HM.out hb)
    replace HR := hide (rowC_below HR.out hb)
    replace HC := hide (rowC_below HC.out hb)
    replace HBV := hide (inMat_below HBV.out hb)
    replace HLV := hide (inMat_below HLV.out hb)
    replace HB := hide (HB.out.trans (hb.mono HB.out.size))
    replace HBL := hide (HBL.out.trans (hb.mono HBL.out.size))
    clear hb
    have h0 : 0 ≤ x1 % (R : Int) := Int.emod_nonneg _ (by omega)
    have h1 : x1 % (R : Int) < R := Int.emod_lt_of_pos x1 (by omega)
    obtain ⟨y, hy⟩ : ∃ y : Nat, x1 % (R : Int) = y := ⟨(x1 % (R : Int)).toNat, by omega⟩
    have htm : x1.tmod (R : Int) = (y : Int) := by rw [Int.tmod_eq_emod_of_nonneg hx0]; exact hy
    have hyR : y < R := by omega
    clear HBV HSB HSL HN1 HN2 HIB HLV HEX HB2 HL2
    obtain ⟨g1, o1, k1, hr1, hg1, hz1⟩ := HMC.out 0 (by omega)
    rw [Nat.add_zero] at hr1
    have hr1c := below_cell HBL.out HMG.out hr1
    go_wp2_with fail
    obtain ⟨fs, hfs⟩ : ∃ fs : List FactP, fs = [isV (.slice a n c), numF, isV (.slice (some ⟨mg, mo, none⟩) R mc), isV (.pointer (some ⟨mg, mo, none⟩)), isV (.slice (some ⟨g1, o1, none⟩) C k1), isV (.int .i64 C), remF C] := ⟨_, rfl⟩
    have hst : ∀ f ∈ fs, StableP f := by
      rw [hfs]; intro f hf
      simp only [List.mem_cons, List.not_mem_nil, or_false] at hf
      rcases hf with rfl | rfl | rfl | rfl | rfl | rfl | rfl <;> first | exact stable_v _ | exact stable_numF | exact stable_remF _
    subst hfs
    refine wp_region_tail (S := fun w2 => Below w10.heap.size w10 w2) [isV (.slice a n c), numF, isV (.slice (some ⟨mg, mo, none⟩) R mc), isV (.pointer (some ⟨mg, mo, none⟩)), isV (.slice (some ⟨g1, o1, none⟩) C k1), isV (.int .i64 C), remF C] [(0, .slice a n c), (3, .slice (some ⟨mg, mo, none⟩) R mc)] _ _ 7 (by kernel_rfl) rfl rfl (by kernel_rfl) (by kernel_rfl) rfl (by kernel_rfl) ?base (below_drew (Below.refl _ _)) ?ob rfl ?fin
    case base =>
      intro t v ht
      simp only [List.lookup_cons, List.lookup_nil] at ht
      repeat' split at ht
      all_goals first | (cases ht; done) | (obtain rfl := Option.some.inj ht; rename_i hh; obtain rfl := eq_of_beq hh; rfl)
    case ob =>
      exact ⟨obt_move (.slice a n c) rfl rfl rfl (srt_b 0 rfl),
        obt_call hst [.slice a n c, .int .i64 (42 : Nat)] rfl Tryz.func13 (by kernel_rfl) (by kernel_rfl) rfl ⟨(srt_j 0 rfl (by kernel_rfl) rfl), srt_c (v := .int .i64 42), trivial⟩ (fun w2 hS => (makeNum_any n c a 42 w2 w.heap.size (inBytes_below HIN.out (HB.out.trans (hS.mono HB.out.size))) (by omega) (by omega)).mono fun e w3 ⟨x, q0, q1, he, hh⟩ => ⟨_, he, hS.trans (hh.mono hS.size), hh, ⟨x, rfl, q0, q1⟩⟩),
        obt_move (.slice (some ⟨mg, mo, none⟩) R mc) rfl rfl rfl (srt_b 3 rfl),
        obt_two (.pointer (some ⟨mg, mo, none⟩)) rfl rfl (srt_j 2 rfl (by kernel_rfl) rfl) (srt_c (v := .int .i64 0)) (fun ρ w2 hS hx hy => by go_simp; intro h; omega),
        obt_one (.slice (some ⟨g1, o1, none⟩) C k1) rfl rfl (srt_j 3 rfl (by kernel_rfl) rfl) (fun ρ w2 hS hx => by have hc := below_cell hS (World.block_lt_of_cell? w10 _ hr1c) hr1c; go_simp),
        obt_one (.int .i64 C) rfl rfl (srt_j 4 rfl (by kernel_rfl) rfl) (fun ρ w2 hS hx => by go_simp),
        fun ac wy hS hB hD K hK => by
          obtain ⟨x, e74, q0, q1⟩ : numF (ac.tmps.getD 74 undef) wy := hD 1 74 rfl (by kernel_rfl)
          have e78 : ac.tmps.getD 78 undef = .int .i64 C := hD 5 78 rfl (by kernel_rfl)
          have q2 : 0 ≤ x % (C : Int) := Int.emod_nonneg _ (by omega)
          have q3 : x % (C : Int) < C := Int.emod_lt_of_pos x (by omega)
          exact ⟨.inl rfl, run_value _ (exec_rem rfl (show ac.eval (.tmp 74) = _ from e74) (show ac.eval (.tmp 78) = _ from e78) ⟨q0, q1⟩ ⟨by omega, by omega⟩) (hK _ _ hS (fun j u h => h) ⟨(x % (C : Int)).toNat, by congr 1; omega, by omega⟩)⟩,
        trivial⟩
    case fin =>
      intro a' w' h1 h2 h3 hS h4 K hK
      obtain ⟨x, e79, hxC⟩ : remF C (a'.tmps.getD 79 undef) w' := h4 6 79 rfl (by decide)
      refine tail_assign rfl (show a'.eval (.tmp 79) = .int .i64 x from e79) ?_ K hK
      have ha := frame_ov rfl h1 h2 h3 [(73, .slice a n c), (74, a'.tmps.getD 74 undef), (75, .slice (some ⟨mg, mo, none⟩) R mc), (76, .pointer (some ⟨mg, mo, none⟩)), (77, .slice (some ⟨g1, o1, none⟩) C k1), (78, .int .i64 C), (79, .int .i64 x), (11, a'.tmps.getD 11 undef)] (by kernel_rfl) ⟨h4 0 73 rfl (by decide), rfl, h4 2 75 rfl (by decide), h4 3 76 rfl (by decide), h4 4 77 rfl (by decide), h4 5 78 rfl (by decide), e79, rfl, trivial⟩
      dsimp only [ov, List.lookup, Nat.reduceBEq, Nat.reduceAdd] at ha
      show Exit.then _ _ Exit.normal (Act.put a' (some 11) (.int .i64 x)) _
      rw [ha]
      generalize a'.tmps.getD 74 undef = u74
      generalize a'.tmps.getD 11 undef = u11
      have hb := hS
      have HS := hide hS
      clear ha h1 h2 h3 h4 hst hK e79 hS
      replace HM := hide (inMat_below HM.out hb)
      replace HR := hide (rowC_below HR.out hb)
      replace HC := hide (rowC_below HC.out hb)
      replace HB := hide (HB.out.trans (hb.mono HB.out.size))
      replace HBL := hide (HBL.out.trans (hb.mono HBL.out.size))
      clear hb HS hr1c hr1
      obtain ⟨g2, o2, k2, hr2, hg2, hz2⟩ := HMC.out y hyR
      have hzz := hz2 x hxC
      have hr2c := below_cell HBL.out HMG.out hr2
      have hz2c := below_cell HBL.out hg2 hzz
      have HPY := hide (HPL.out y x hyR hxC); have HFY := hide (HFX.out y x hyR hxC)
      have hz01 := HI.out.cell y x hyR hxC
      obtain ⟨z, hz⟩ : ∃ z, z = f y x := ⟨_, rfl⟩
      rw [← hz] at hz2c HPY HFY hz01
      obtain ⟨pl, hpl⟩ : ∃ pl, pl = placeOf (rowsL R C f) (rowsL C R (trM f)) y x (1 - z) := ⟨_, rfl⟩
      have HPL2 := hide hpl
      rw [← hpl] at HFY
      have hyI : (y : Int) < R := by omega
      have hxI : (x : Int) < C := by omega
      have hsub : IntKind.i64.wrap (1 - z) = 1 - z := IntWalk.i64_in _ (by omega)
      have hnn := neq_not pl
      clear hz hpl hr2 hzz HPL HFX hg2 hz2 hg1 hz1
      go_wp2_with fail
      have P1 : ∀ w, Below w'.heap.size w' w → Calls Tryz.prog 14 #[rv, cv, .int .i64 (y : Nat), .int .i64 (x : Nat), .int .i64 z] w fun e w2 => e = .returned (.bool true) ∧ Below w.heap.size w w2 := fun w hS => (implPlace_any rv cv _ _ y x z w (inRow_below HR.out.1 hS) (inRow_below HC.out.1 hS)).mono fun e w2 hh => ⟨by rw [← HPY.out]; exact hh.1, hh.2⟩
      have P2 : ∀ w, Below w'.heap.size w' w → Calls Tryz.prog 15 #[.slice (some ⟨mg, mo, none⟩) R mc, .int .i64 (y : Nat), .int .i64 (x : Nat)] w fun e w2 => e = .returned (.bool (!pl)) ∧ Below w.heap.size w w2 := fun w hS => (implIsFixed_any (.slice (some ⟨mg, mo, none⟩) R mc) (mkM R C f) y x w (inMat_below HM.out hS)).mono fun e w2 hh => ⟨by rw [← HFY.out]; exact hh.1, hh.2⟩
      have P3 : ∀ w, Below w'.heap.size w' w → Calls Tryz.prog 14 #[rv, cv, .int .i64 (y : Nat), .int .i64 (x : Nat), .int .i64 (1 - z)] w fun e w2 => e = .returned (.bool pl) ∧ Below w.heap.size w w2 := fun w hS => (implPlace_any rv cv _ _ y x (1 - z) w (inRow_below HR.out.1 hS) (inRow_below HC.out.1 hS)).mono fun e w2 hh => ⟨by rw [HPL2.out]; exact hh.1, hh.2⟩
      have hltr := World.block_lt_of_cell? _ _ hr2c
      have hltz := World.block_lt_of_cell? _ _ hz2c
      refine wp_region_obs (S := fun w2 => Below w'.heap.size w' w2) [.val rv, .val cv, .val (.int .i64 (y : Nat)), .val (.int .i64 (x : Nat)), .val (.slice (some ⟨mg, mo, none⟩) R mc), .val (.int .i64 (y : Nat)), .val (.pointer (some ⟨mg, mo + y, none⟩)), .val (.slice (some ⟨g2, o2, none⟩) C k2), .val (.int .i64 (x : Nat)), .val (.pointer (some ⟨g2, o2 + x, none⟩)), .val (.int .i64 z), .val (.bool true), .val (.bool true), .val (.slice (some ⟨mg, mo, none⟩) R mc), .val (.int .i64 (y : Nat)), .val (.int .i64 (x : Nat)), .val (.bool (!pl)), .val rv, .val cv, .val (.int .i64 (y : Nat)), .val (.int .i64 (x : Nat)), .val (.slice (some ⟨mg, mo, none⟩) R mc), .val (.int .i64 (y : Nat)), .val (.pointer (some ⟨mg, mo + y, none⟩)), .val (.slice (some ⟨g2, o2, none⟩) C k2), .val (.int .i64 (x : Nat)), .val (.pointer (some ⟨g2, o2 + x, none⟩)), .val (.int .i64 z), .val (.int .i64 (1 - z)), .val (.bool pl), .val (.bool true), .val (.bool true), .val (.bool true)] [(3, (.slice (some ⟨mg, mo, none⟩) R mc)), (4, rv), (5, cv), (10, (.int .i64 (y : Nat))), (11, (.int .i64 (x : Nat)))] [some 80, some 81, some 82, some 83, some 84, some 85, some 86, some 87, some 88, some 89, some 90, some 91, some 92, some 93, some 94, some 95, some 96, some 97, some 98, some 99, some 100, some 101, some 102, some 103, some 104, some 105, some 106, some 107, some 108, some 109, some 110, some 111, some 2] (by kernel_rfl) (by kernel_rfl) (by kernel_rfl) (by kernel_rfl) ?base (below_drew (Below.refl _ _)) ?ob ?fin
      case base =>
        intro t v ht
        simp only [List.lookup_cons, List.lookup_nil] at ht
        repeat' split at ht
        all_goals first | (cases ht; done) | (obtain rfl := Option.some.inj ht; rename_i hh; obtain rfl := eq_of_beq hh; rfl)
      case fin =>
        intro a' w2 h1 h2 h3 h4
        go_wp2
        have hr : a'.tmps.getD 2 undef = .bool true := h4 32 2 rfl
        exact bodyPost_ret (results_tmp rfl _ _ _) h2 ⟨by rw [hr], HB.out.trans (h3.mono HB.out.size)⟩
      case ob =>
        exact ⟨obk_move rv rfl rfl (.inl rfl) (src_b 4 rfl),
          obk_move cv rfl rfl (.inl rfl) (src_b 5 rfl),
          obk_move (.int .i64 (y : Nat)) rfl rfl (.inl rfl) (src_b 10 rfl),
          obk_move (.int .i64 (x : Nat)) rfl rfl (.inl rfl) (src_b 11 rfl),
          obk_move (.slice (some ⟨mg, mo, none⟩) R mc) rfl rfl (.inl rfl) (src_b 3 rfl),
          obk_move (.int .i64 (y : Nat)) rfl rfl (.inl rfl) (src_b 10 rfl),
          obk_two (.pointer (some ⟨mg, mo + y, none⟩)) rfl (.inl rfl) (src_j 4 rfl (by kernel_rfl) rfl) (src_j 5 rfl (by kernel_rfl) rfl) (fun ρ w hS hx hy => (by go_simp)),
          obk_one (.slice (some ⟨g2, o2, none⟩) C k2) rfl (.inl rfl) (src_j 6 rfl (by kernel_rfl) rfl) (fun ρ w hS hx => (by have hc := below_cell hS hltr hr2c; go_simp)),
          obk_move (.int .i64 (x : Nat)) rfl rfl (.inl rfl) (src_b 11 rfl),
          obk_two (.pointer (some ⟨g2, o2 + x, none⟩)) rfl (.inl rfl) (src_j 7 rfl (by kernel_rfl) rfl) (src_j 8 rfl (by kernel_rfl) rfl) (fun ρ w hS hx hy => (by go_simp)),
          obk_one (.int .i64 z) rfl (.inl rfl) (src_j 9 rfl (by kernel_rfl) rfl) (fun ρ w hS hx => (by have hc := below_cell hS hltz hz2c; go_simp)),
          obk_call [rv, cv, .int .i64 (y : Nat), .int .i64 (x : Nat), .int .i64 z] rfl Tryz.func14 (by kernel_rfl) (by kernel_rfl) (.inl rfl) ⟨(src_j 0 rfl (by kernel_rfl) rfl), (src_j 1 rfl (by kernel_rfl) rfl), (src_j 2 rfl (by kernel_rfl) rfl), (src_j 3 rfl (by kernel_rfl) rfl), (src_j 10 rfl (by kernel_rfl) rfl), trivial⟩ (fun w hS => (P1 w hS).mono fun e w2 hh => ⟨_, hh.1, hS.trans (hh.2.mono hS.size), hh.2, rfl⟩),
          obk_move (.bool true) rfl rfl (.inl rfl) (src_j 11 rfl (by kernel_rfl) rfl),
          obk_move (.slice (some ⟨mg, mo, none⟩) R mc) rfl rfl (yes_j 12 rfl rfl (by kernel_rfl) rfl) (src_b 3 rfl),
          obk_move (.int .i64 (y : Nat)) rfl rfl (yes_j 12 rfl rfl (by kernel_rfl) rfl) (src_b 10 rfl),
          obk_move (.int .i64 (x : Nat)) rfl rfl (yes_j 12 rfl rfl (by kernel_rfl) rfl) (src_b 11 rfl),
          obk_call [.slice (some ⟨mg, mo, none⟩) R mc, .int .i64 (y : Nat), .int .i64 (x : Nat)] rfl Tryz.func15 (by kernel_rfl) (by kernel_rfl) (yes_j 12 rfl rfl (by kernel_rfl) rfl) ⟨(src_j 13 rfl (by kernel_rfl) rfl), (src_j 14 rfl (by kernel_rfl) rfl), (src_j 15 rfl (by kernel_rfl) rfl), trivial⟩ (fun w hS => (P2 w hS).mono fun e w2 hh => ⟨_, hh.1, hS.trans (hh.2.mono hS.size), hh.2, rfl⟩),
          obk_move rv rfl rfl (yes_j 12 rfl rfl (by kernel_rfl) rfl) (src_b 4 rfl),
          obk_move cv rfl rfl (yes_j 12 rfl rfl (by kernel_rfl) rfl) (src_b 5 rfl),
          obk_move (.int .i64 (y : Nat)) rfl rfl (yes_j 12 rfl rfl (by kernel_rfl) rfl) (src_b 10 rfl),
          obk_move (.int .i64 (x : Nat)) rfl rfl (yes_j 12 rfl rfl (by kernel_rfl) rfl) (src_b 11 rfl),
          obk_move (.slice (some ⟨mg, mo, none⟩) R mc) rfl rfl (yes_j 12 rfl rfl (by kernel_rfl) rfl) (src_b 3 rfl),
          obk_move (.int .i64 (y : Nat)) rfl rfl (yes_j 12 rfl rfl (by kernel_rfl) rfl) (src_b 10 rfl),
          obk_two (.pointer (some ⟨mg, mo + y, none⟩)) rfl (yes_j 12 rfl rfl (by kernel_rfl) rfl) (src_j 21 rfl (by kernel_rfl) rfl) (src_j 22 rfl (by kernel_rfl) rfl) (fun ρ w hS hx hy => (by go_simp)),
          obk_one (.slice (some ⟨g2, o2, none⟩) C k2) rfl (yes_j 12 rfl rfl (by kernel_rfl) rfl) (src_j 23 rfl (by kernel_rfl) rfl) (fun ρ w hS hx => (by have hc := below_cell hS hltr hr2c; go_simp)),
          obk_move (.int .i64 (x : Nat)) rfl rfl (yes_j 12 rfl rfl (by kernel_rfl) rfl) (src_b 11 rfl),
          obk_two (.pointer (some ⟨g2, o2 + x, none⟩)) rfl (yes_j 12 rfl rfl (by kernel_rfl) rfl) (src_j 24 rfl (by kernel_rfl) rfl) (src_j 25 rfl (by kernel_rfl) rfl) (fun ρ w hS hx hy => (by go_simp)),
          obk_one (.int .i64 z) rfl (yes_j 12 rfl rfl (by kernel_rfl) rfl) (src_j 26 rfl (by kernel_rfl) rfl) (fun ρ w hS hx => (by have hc := below_cell hS hltz hz2c; go_simp)),
          obk_two (.int .i64 (1 - z)) rfl (yes_j 12 rfl rfl (by kernel_rfl) rfl) (src_c (v := .int .i64 1)) (src_j 27 rfl (by kernel_rfl) rfl) (fun ρ w hS hx hy => (by go_simp)),
          obk_call [rv, cv, .int .i64 (y : Nat), .int .i64 (x : Nat), .int .i64 (1 - z)] rfl Tryz.func14 (by kernel_rfl) (by kernel_rfl) (yes_j 12 rfl rfl (by kernel_rfl) rfl) ⟨(src_j 17 rfl (by kernel_rfl) rfl), (src_j 18 rfl (by kernel_rfl) rfl), (src_j 19 rfl (by kernel_rfl) rfl), (src_j 20 rfl (by kernel_rfl) rfl), (src_j 28 rfl (by kernel_rfl) rfl), trivial⟩ (fun w hS => (P3 w hS).mono fun e w2 hh => ⟨_, hh.1, hS.trans (hh.2.mono hS.size), hh.2, rfl⟩),
          obk_two (.bool true) rfl (yes_j 12 rfl rfl (by kernel_rfl) rfl) (src_j 16 rfl (by kernel_rfl) rfl) (src_j 29 rfl (by kernel_rfl) rfl) (fun ρ w hS hx hy => (by go_simp)),
          obk_pick (.bool true) rfl rfl (.inl rfl) (src_j 12 rfl (by kernel_rfl) rfl) (src_j 30 rfl (by kernel_rfl) rfl),
          obk_assign (.bool true) rfl rfl (.inl rfl) (src_j 31 rfl (by kernel_rfl) rfl),
          trivial⟩
end Go.Proofs.YtpfaaglaeholbaaGreat
