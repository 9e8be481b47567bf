/-
  Texts of this claim, one behind the other: BuiltR, IdxI, SzB, Wt, WtOf, HeavP, SameI.
-/
import Derived.Test.YtcliiefedmiokaaGreatPackQ
import Derived.Test.YtcliiefedmiokaaGreatPackR
import Derived.Test.YtcliiefedmiokaaGreatPackI
import Derived.Test.YtcliiefedmiokaaGreatPackK
import Derived.Test.YtcliiefedmiokaaGreatPackC
import Derived.Test.YtcliiefedmiokaaGreatPackE
import Derived.Test.YtcliiefedmiokaaGreatPackA
import Derived.Test.YtcliiefedmiokaaGreatPackM
/-
  The law FnBuilt, walked.
-/
namespace Go.Proofs.YtcliiefedmiokaaGreat
open Go.RowKit
set_option linter.unusedVariables false

theorem sameB_ok {R C : Nat} {f g : Nat → Nat → Int} (hI : Img R C f) (hJ : Img R C g) (hs : (∀ y, y < R → rs C f y = rs C g y) ∧ ∀ x, x < C → cs R f x = cs R g x) : sameB (mkM R C f) (mkM R C g) = true := by
  rw [sameB_mk hI hJ, if_pos ⟨rfl, rfl⟩]
  unfold sameL
  rw [Bool.and_eq_true, beq_iff_eq, beq_iff_eq]
  refine ⟨rowF_congr fun y hy => by rw [hs.1 y hy], rowF_congr fun x hx => ?_⟩
  have := hs.2 x hx
  show ((rs R (trM f) x : Nat) : Int) = rs R (trM g) x
  exact congrArg Int.ofNat this
theorem img_same {R C : Nat} {f g : Nat → Nat → Int} (hI : Img R C f) (hg : ImgF (rowsL R C f) (rowsL C R (trM f)) g) : Img R C g ∧ sameB (mkM R C g) (mkM R C f) = true := by
  obtain ⟨h1, h2, h3⟩ := (imgF_iff hI g).1 hg
  have hJ : Img R C g := ⟨hI.r1, hI.r2, hI.c1, hI.c2, h1⟩
  refine ⟨hJ, sameB_ok hJ hI ⟨fun y hy => ?_, fun x hx => ?_⟩⟩
  · have := h2 y hy
    rw [S_cnt _ _ fun x hx => h1 y x hy hx, S_cnt _ _ fun x hx => hI.cell y x hy hx] at this
    unfold rs; omega
  · have := h3 x hx
    rw [S_cnt _ _ fun y hy => h1 y x hy hx, S_cnt _ _ fun y hy => hI.cell y x hy hx] at this
    unfold cs; omega
theorem same_ok (v u : Value) (m l : List (List Int)) (w : World) (hin : InMat w v m) (hin2 : InMat w u l) (h : sameB m l = true) :
    Calls Tryz.prog 17 #[v, u] w fun e w' => e = .returned (.bool true) ∧ Below w.heap.size w w' := by
  have := implSameB_any v u m l w hin hin2
  rw [h] at this; exact this
theorem build_yes (va vb : Value) (r c : List Int) (m : List (List Int)) (w : World) (ha : RowC w va r) (hb : RowC w vb c) (h : existsOf r c = true) (hm : imgL greedyCh r c = m) :
    Calls Tryz.prog 15 #[va, vb] w (MatRes2 m true w) := by
  have := implBuild_any va vb r c w ha hb
  rw [h, if_pos rfl, hm] at this; exact this
theorem least_yes (va vb : Value) (r c : List Int) (m : List (List Int)) (w : World) (ha : RowC w va r) (hb : RowC w vb c) (h : existsOf r c = true) (hm : imgL leastCh r c = m) :
    Calls Tryz.prog 16 #[va, vb] w (MatRes2 m true w) := by
  have := implLeast_any va vb r c w ha hb
  rw [h, if_pos rfl, hm] at this; exact this
theorem mk_rows {R C : Nat} {f : Nat → Nat → Int} : ∀ q ∈ mkM R C f, q.length = C := fun q hq => by
  unfold mkM at hq
  obtain ⟨y, -, rfl⟩ := List.mem_map.1 hq
  exact rowF_len _ _
theorem before_no (va vb : Value) (R C : Nat) (f g : Nat → Nat → Int) (w : World) (ha : InMat w va (mkM R C f)) (hb : InMat w vb (mkM R C g)) (hI : Img R C f) (h : beforeL (mkM R C f) (mkM R C g) = false) :
    Calls Tryz.prog 18 #[va, vb] w fun e w' => e = .returned (.bool false) ∧ Below w.heap.size w w' := by
  have h1 := hI.r1; have h2 := hI.r2
  have := before_any2 va vb _ _ C w ha hb (by rw [mkM_len, mkM_len]) (by rw [mkM_len]; omega) ⟨hI.c1, hI.c2⟩ mk_rows mk_rows
  rw [h] at this
  exact this.mono fun e w' h => ⟨h.1, by rw [← h.2]; exact Below.refl _ _⟩
theorem not_before {R C : Nat} {f g k : Nat → Nat → Int} (hI : Img R C f) (hg : ImgF (rowsL R C f) (rowsL C R (trM f)) g) (hk : imgL leastCh (rowsL R C f) (rowsL C R (trM f)) = mkM R C k) : beforeL (mkM R C g) (mkM R C k) = false := by
  have h := all_complete (rowsL R C f) (rowsL C R (trM f)) (by rw [rows_len]; exact hI.r2) (by rw [rows_len]; exact ⟨hI.c1, hI.c2⟩) g hg
  rw [rows_len, rows_len] at h
  have := least_first (rowsL R C f) (rowsL C R (trM f)) (by rw [rows_len]; exact hI.r2) (by rw [rows_len]; exact ⟨hI.c1, hI.c2⟩) ⟨f, imgF_self hI⟩ _ h
  rw [hk] at this
  exact this
theorem inMat_slice {w : World} {v : Value} {R C : Nat} {f : Nat → Nat → Int} (h : InMat w v (mkM R C f)) : ∃ a c, v = .slice a R c := by
  obtain ⟨a, c, rfl, -⟩ := h
  rw [mkM_len]; exact ⟨a, c, rfl⟩
set_option maxHeartbeats 400000 in
theorem makeImage4_any (n c : Nat) (a : Option Addr) (m : Nat) (w : World) (base : Nat) (hin : InBytes w base a n) (hn : n ≤ 2000000) (hm : m ≤ 1000) :
    Calls Tryz.prog 12 #[.slice a n c, .int .i64 m, .int .i64 4] w (MadeImg w) := by
  have HI := hide hin
  clear hin
  go_enter Tryz.func12, Tryz.ntmps12
  go_wp2_with fail
  refine (l18New_any n c a m _ base HI.out hn hm).mono ?_
  rintro e w1 ⟨rfl, hc, hb, hlt⟩
  have HC := hide hc; have HB := hide hb; have hs1 := hb.size
  have HI1 := hide (inBytes_below HI.out (hb.mono HI.out.2.1))
  clear hc hb
  go_wp2_with fail
  refine (l02Draw_any _ n a 4 _ base (by omega) (by omega) HC.out HI1.out HI.out.2.1).mono ?_
  rintro e w2 ⟨v, R, C, f, rfl, him, ho, -, hb⟩
  have HIM := hide him; have HO := hide (ownMat_mono ho hs1 (Nat.le_refl _)); have HB2 := hide (HB.out.trans hb)
  clear him ho hb
  go_wp2
  go_ret
  exact ⟨v, R, C, f, rfl, HIM.out, HO.out, HB2.out⟩
/-- A number that was drawn, and what is left of it. -/
def numF : FactP := fun u _ => ∃ x : Int, u = .int .i64 x ∧ 0 ≤ x ∧ x ≤ 65535
def remF (C : Nat) : FactP := fun u _ => ∃ x : Nat, u = .int .i64 x ∧ x < C
theorem stable_numF : StableP numF := fun _ _ _ _ h => h
theorem stable_remF (C : Nat) : StableP (remF C) := fun _ _ _ _ h => h
theorem exec_rem {ρ : Operand → Value} {o : Oper} {w : World} {x y : Operand} {a : Int} {C : Nat} (ho : o.op = .binOp .rem 3 x y 3) (hx : ρ x = .int .i64 a) (hy : ρ y = .int .i64 C) (ha : 0 ≤ a ∧ a ≤ 65535) (hC : 1 ≤ C ∧ C ≤ 5) :
    (execOp ρ o).run Tryz.prog w = .ok (.value (.int .i64 (a % C))) w := by
  have h0 : 0 ≤ a % C := Int.emod_nonneg _ (by omega)
  have h1 : a % C < C := Int.emod_lt_of_pos a (by omega)
  unfold execOp
  simp only [ho, hx, hy]
  go_simp
  rw [if_neg (by omega), Int.tmod_eq_emod_of_nonneg ha.1]
theorem neq_not (b : Bool) : ((!b) != b) = true := by cases b <;> rfl
set_option maxRecDepth 100000 in
set_option maxHeartbeats 8000000 in
theorem lawBuilt_walk (a : Option Addr) (n c : Nat) (w : World) (hin : InBytes w w.heap.size a n) :
    Calls Tryz.prog 4 #[.slice a n c] w fun e w' => e = .returned (.bool true) ∧ Below w.heap.size w w' := by
  have hmax := hin.1
  unfold maxLen at hmax
  by_cases hbig : 1048576 < n
  · go_enter Tryz.func4, Tryz.ntmps4
    clear hin
    go_wp2
    go_ret
    exact ⟨rfl, Below.refl _ _⟩
  · have HIN := hide hin
    clear hin
    go_enter Tryz.func4, Tryz.ntmps4
    have HB := hide (Below.refl w.heap.size w)
    go_wp2_with fail
    refine (makeImage4_any n c a 0 _ _ HIN.out (by omega) (by omega)).mono ?_
    rintro e w1 ⟨v, R, C, f, rfl, hI, ho, hb⟩
    have hs1 := hb.size
    replace HB := hide (HB.out.trans (hb.mono HB.out.size))
    have HM := hide (inMat_own ho)
    clear hb
    have HI := hide hI
    have hR := hI.r2; have hR1 := hI.r1; have hC := hI.c2; have hC1 := hI.c1
    have hex := exists_of_img (r := rowsL R C f) (c := rowsL C R (trM f)) (by rw [rows_len]; omega) (by rw [rows_len]; omega) ⟨f, imgF_self hI⟩
    have HEX := hide hex
    obtain ⟨fb, hfb, hb2⟩ := built_img (r := rowsL R C f) (c := rowsL C R (trM f)) (by rw [rows_len]; omega) (by rw [rows_len]; omega) ⟨f, imgF_self hI⟩
    obtain ⟨fl, hfl, hl2⟩ := least_img (r := rowsL R C f) (c := rowsL C R (trM f)) (by rw [rows_len]; omega) (by rw [rows_len]; omega) ⟨f, imgF_self hI⟩
    rw [rows_len, rows_len] at hb2 hl2
    have HB2 : Hid (imgL greedyCh (rowsL R C f) (rowsL C R (trM f)) = mkM R C fb) := hide hb2; have HL2 : Hid (imgL leastCh (rowsL R C f) (rowsL C R (trM f)) = mkM R C fl) := hide hl2
    obtain ⟨hIb, hsb⟩ := img_same hI hfb
    obtain ⟨hIl, hsl⟩ := img_same hI hfl
    have HIB := hide hIb; have HSB := hide hsb; have HSL := hide hsl
    have HN1 := hide (not_before hI (imgF_self hI) hl2); have HN2 := hide (not_before hI hfb hl2)
    have HPL := hide fun y x (hy : y < R) (hx : x < C) => (place_img (r := rowsL R C f) (c := rowsL C R (trM f)) (f y x) (by rw [rows_len]; omega) (by rw [rows_len]; omega) (by rw [rows_len]; exact hy) (by rw [rows_len]; exact hx) ⟨f, imgF_self hI⟩).2 ⟨f, imgF_self hI, rfl⟩
    have HFX := hide fun (y x : Nat) (hy : y < R) (hx : x < C) => (fixM_mk hI y x).trans (fixB_in hy hx)
    clear hI hex hfb hb2 hfl hl2 hIb hsb hIl hsl ho
    go_wp2_with fail
    refine (implRowSums_yes v R C f _ HM.out HI.out).mono ?_
    rintro e w2 ⟨rv, rfl, ho, hb⟩
    have hs2 := hb.size
    replace HM := hide (inMat_below HM.out hb)
    replace HB := hide (HB.out.trans (hb.mono HB.out.size))
    have HR := hide (rowC_own ho)
    clear hb
    clear ho
    go_wp2_with fail
    refine (implColSums_yes v R C f _ HM.out HI.out).mono ?_
    rintro e w3 ⟨cv, rfl, ho, hb⟩
    have hs3 := hb.size
    replace HM := hide (inMat_below HM.out hb)
    replace HR := hide (rowC_below HR.out hb)
    replace HB := hide (HB.out.trans (hb.mono HB.out.size))
    have HC := hide (rowC_own ho)
    clear hb
    clear ho
    go_wp2_with fail
    refine (build_yes rv cv _ _ _ _ HR.out HC.out HEX.out HB2.out).mono ?_
    rintro e w4 ⟨bv, rfl, ho, hb⟩
    have hs4 := hb.size
    replace HM := hide (inMat_below HM.out hb)
    replace HR := hide (rowC_below HR.out hb)
    replace HC := hide (rowC_below HC.out hb)
    replace HB := hide (HB.out.trans (hb.mono HB.out.size))
    have HBV := hide (inMat_own ho)
    clear hb
    clear ho
    go_wp2_with fail
    refine (least_yes rv cv _ _ _ _ HR.out HC.out HEX.out HL2.out).mono ?_
    rintro e w5 ⟨lv, rfl, ho, hb⟩
    have hs5 := hb.size
    replace HM := hide (inMat_below HM.out hb)
    replace HR := hide (rowC_below HR.out hb)
    replace HC := hide (rowC_below HC.out hb)
    replace HBV := hide (inMat_below HBV.out hb)
    replace HB := hide (HB.out.trans (hb.mono HB.out.size))
    have HLV := hide (inMat_own ho)
    clear hb
    clear ho
    obtain ⟨mg, mo, mc, rfl, hmg, hmcell⟩ := inMat_img HM.out (by omega) (by omega)
    have HBL := hide (Below.refl w5.heap.size w5)
    have HMG := hide hmg; have HMC := hide hmcell
    clear hmg hmcell
    obtain ⟨la, lc, rfl⟩ := inMat_slice HLV.out
    go_wp2_with fail
    refine (same_ok bv (.slice (some ⟨mg, mo, none⟩) R mc) _ _ _ HBV.out HM.out HSB.out).mono ?_
    rintro e w6 ⟨rfl, hb⟩
    have hs6 := hb.size
    replace HM := hide (inMat_below HM.out hb)
    replace HR := hide (rowC_below HR.out hb)
    replace HC := hide (rowC_below HC.out hb)
    replace HBV := hide (inMat_below HBV.out hb)
    replace HLV := hide (inMat_below HLV.out hb)
    replace HB := hide (HB.out.trans (hb.mono HB.out.size))
    replace HBL := hide (HBL.out.trans (hb.mono HBL.out.size))
    clear hb
    go_wp2_with fail
    refine (same_ok (.slice la R lc) (.slice (some ⟨mg, mo, none⟩) R mc) _ _ _ HLV.out HM.out HSL.out).mono ?_
    rintro e w7 ⟨rfl, hb⟩
    have hs7 := hb.size
    replace HM := hide (inMat_below HM.out hb)
    replace HR := hide (rowC_below HR.out hb)
    replace HC := hide (rowC_below HC.out hb)
    replace HBV := hide (inMat_below HBV.out hb)
    replace HLV := hide (inMat_below HLV.out hb)
    replace HB := hide (HB.out.trans (hb.mono HB.out.size))
    replace HBL := hide (HBL.out.trans (hb.mono HBL.out.size))
    clear hb
    go_wp2_with fail
    refine (before_no (.slice (some ⟨mg, mo, none⟩) R mc) (.slice la R lc) R C f fl _ HM.out HLV.out HI.out HN1.out).mono ?_
    rintro e w8 ⟨rfl, hb⟩
    have hs8 := hb.size
    replace HM := hide (inMat_below HM.out hb)
    replace HR := hide (rowC_below HR.out hb)
    replace HC := hide (rowC_below HC.out hb)
    replace HBV := hide (inMat_below HBV.out hb)
    replace HLV := hide (inMat_below HLV.out hb)
    replace HB := hide (HB.out.trans (hb.mono HB.out.size))
    replace HBL := hide (HBL.out.trans (hb.mono HBL.out.size))
    clear hb
    go_wp2_with fail
    refine (before_no bv (.slice la R lc) R C fb fl _ HBV.out HLV.out HIB.out HN2.out).mono ?_
    rintro e w9 ⟨rfl, hb⟩
    have hs9 := hb.size
    replace HM := hide (inMat_below HM.out hb)
    replace HR := hide (rowC_below HR.out hb)
    replace HC := hide (rowC_below HC.out hb)
    replace HBV := hide (inMat_below HBV.out hb)
    replace HLV := hide (inMat_below HLV.out hb)
    replace HB := hide (HB.out.trans (hb.mono HB.out.size))
    replace HBL := hide (HBL.out.trans (hb.mono HBL.out.size))
    clear hb
    go_wp2_with fail
    refine (makeNum_any n c a 40 _ w.heap.size (inBytes_below HIN.out HB.out) (by omega) (by omega)).mono ?_
    rintro e w10 ⟨x1, hx0, hx1, rfl, hb⟩
    have hs10 := hb.size
    replace HM := hide (inMat_below HM.out hb)
    replace HR := hide (rowC_below HR.out hb)
    replace HC := hide (rowC_below HC.out hb)
    replace HBV := hide (inMat_below HBV.out hb)
    replace HLV := hide (inMat_below HLV.out hb)
    replace HB := hide (HB.out.trans (hb.mono HB.out.size))
    replace HBL := hide (HBL.out.trans (hb.mono HBL.out.size))
    clear hb
    have h0 : 0 ≤ x1 % (R : Int) := Int.emod_nonneg _ (by omega)
    have h1 : x1 % (R : Int) < R := Int.emod_lt_of_pos x1 (by omega)
    obtain ⟨y, hy⟩ : ∃ y : Nat, x1 % (R : Int) = y := ⟨(x1 % (R : Int)).toNat, by omega⟩
    have htm : x1.tmod (R : Int) = (y : Int) := by rw [Int.tmod_eq_emod_of_nonneg hx0]; exact hy
    have hyR : y < R := by omega
    clear HBV HSB HSL HN1 HN2 HIB HLV HEX HB2 HL2
    obtain ⟨g1, o1, k1, hr1, hg1, hz1⟩ := HMC.out 0 (by omega)
    rw [Nat.add_zero] at hr1
    have hr1c := below_cell HBL.out HMG.out hr1
    go_wp2_with fail
    obtain ⟨fs, hfs⟩ : ∃ fs : List FactP, fs = [isV (.slice a n c), numF, isV (.slice (some ⟨mg, mo, none⟩) R mc), isV (.pointer (some ⟨mg, mo, none⟩)), isV (.slice (some ⟨g1, o1, none⟩) C k1), isV (.int .i64 C), remF C] := ⟨_, rfl⟩
    have hst : ∀ f ∈ fs, StableP f := by
      rw [hfs]; intro f hf
      simp only [List.mem_cons, List.not_mem_nil, or_false] at hf
      rcases hf with rfl | rfl | rfl | rfl | rfl | rfl | rfl <;> first | exact stable_v _ | exact stable_numF | exact stable_remF _
    subst hfs
    refine wp_region_tail (S := fun w2 => Below w10.heap.size w10 w2) [isV (.slice a n c), numF, isV (.slice (some ⟨mg, mo, none⟩) R mc), isV (.pointer (some ⟨mg, mo, none⟩)), isV (.slice (some ⟨g1, o1, none⟩) C k1), isV (.int .i64 C), remF C] [(0, .slice a n c), (3, .slice (some ⟨mg, mo, none⟩) R mc)] _ _ 7 (by kernel_rfl) rfl rfl (by kernel_rfl) (by kernel_rfl) rfl (by kernel_rfl) ?base (below_drew (Below.refl _ _)) ?ob rfl ?fin
    case base =>
      intro t v ht
      simp only [List.lookup_cons, List.lookup_nil] at ht
      repeat' split at ht
      all_goals first | (cases ht; done) | (obtain rfl := Option.some.inj ht; rename_i hh; obtain rfl := eq_of_beq hh; rfl)
    case ob =>
      exact ⟨obt_move (.slice a n c) rfl rfl rfl (srt_b 0 rfl),
        obt_call hst [.slice a n c, .int .i64 (42 : Nat)] rfl Tryz.func19 (by kernel_rfl) (by kernel_rfl) rfl ⟨(srt_j 0 rfl (by kernel_rfl) rfl), srt_c (v := .int .i64 42), trivial⟩ (fun w2 hS => (makeNum_any n c a 42 w2 w.heap.size (inBytes_below HIN.out (HB.out.trans (hS.mono HB.out.size))) (by omega) (by omega)).mono fun e w3 ⟨x, q0, q1, he, hh⟩ => ⟨_, he, hS.trans (hh.mono hS.size), hh, ⟨x, rfl, q0, q1⟩⟩),
        obt_move (.slice (some ⟨mg, mo, none⟩) R mc) rfl rfl rfl (srt_b 3 rfl),
        obt_two (.pointer (some ⟨mg, mo, none⟩)) rfl rfl (srt_j 2 rfl (by kernel_rfl) rfl) (srt_c (v := .int .i64 0)) (fun ρ w2 hS hx hy => by go_simp; intro h; omega),
        obt_one (.slice (some ⟨g1, o1, none⟩) C k1) rfl rfl (srt_j 3 rfl (by kernel_rfl) rfl) (fun ρ w2 hS hx => by have hc := below_cell hS (World.block_lt_of_cell? w10 _ hr1c) hr1c; go_simp),
        obt_one (.int .i64 C) rfl rfl (srt_j 4 rfl (by kernel_rfl) rfl) (fun ρ w2 hS hx => by go_simp),
        fun ac wy hS hB hD K hK => by
          obtain ⟨x, e74, q0, q1⟩ : numF (ac.tmps.getD 74 undef) wy := hD 1 74 rfl (by kernel_rfl)
          have e78 : ac.tmps.getD 78 undef = .int .i64 C := hD 5 78 rfl (by kernel_rfl)
          have q2 : 0 ≤ x % (C : Int) := Int.emod_nonneg _ (by omega)
          have q3 : x % (C : Int) < C := Int.emod_lt_of_pos x (by omega)
          exact ⟨.inl rfl, run_value _ (exec_rem rfl (show ac.eval (.tmp 74) = _ from e74) (show ac.eval (.tmp 78) = _ from e78) ⟨q0, q1⟩ ⟨by omega, by omega⟩) (hK _ _ hS (fun j u h => h) ⟨(x % (C : Int)).toNat, by congr 1; omega, by omega⟩)⟩,
        trivial⟩
    case fin =>
      intro a' w' h1 h2 h3 hS h4 K hK
      obtain ⟨x, e79, hxC⟩ : remF C (a'.tmps.getD 79 undef) w' := h4 6 79 rfl (by decide)
      refine tail_assign rfl (show a'.eval (.tmp 79) = .int .i64 x from e79) ?_ K hK
      have ha := frame_ov rfl h1 h2 h3 [(73, .slice a n c), (74, a'.tmps.getD 74 undef), (75, .slice (some ⟨mg, mo, none⟩) R mc), (76, .pointer (some ⟨mg, mo, none⟩)), (77, .slice (some ⟨g1, o1, none⟩) C k1), (78, .int .i64 C), (79, .int .i64 x), (11, a'.tmps.getD 11 undef)] (by kernel_rfl) ⟨h4 0 73 rfl (by decide), rfl, h4 2 75 rfl (by decide), h4 3 76 rfl (by decide), h4 4 77 rfl (by decide), h4 5 78 rfl (by decide), e79, rfl, trivial⟩
      dsimp only [ov, List.lookup, Nat.reduceBEq, Nat.reduceAdd] at ha
      show Exit.then _ _ Exit.normal (Act.put a' (some 11) (.int .i64 x)) _
      rw [ha]
      generalize a'.tmps.getD 74 undef = u74
      generalize a'.tmps.getD 11 undef = u11
      have hb := hS
      have HS := hide hS
      clear ha h1 h2 h3 h4 hst hK e79 hS
      replace HM := hide (inMat_below HM.out hb)
      replace HR := hide (rowC_below HR.out hb)
      replace HC := hide (rowC_below HC.out hb)
      replace HB := hide (HB.out.trans (hb.mono HB.out.size))
      replace HBL := hide (HBL.out.trans (hb.mono HBL.out.size))
      clear hb HS hr1c hr1
      obtain ⟨g2, o2, k2, hr2, hg2, hz2⟩ := HMC.out y hyR
      have hzz := hz2 x hxC
      have hr2c := below_cell HBL.out HMG.out hr2
      have hz2c := below_cell HBL.out hg2 hzz
      have HPY := hide (HPL.out y x hyR hxC); have HFY := hide (HFX.out y x hyR hxC)
      have hz01 := HI.out.cell y x hyR hxC
      obtain ⟨z, hz⟩ : ∃ z, z = f y x := ⟨_, rfl⟩
      rw [← hz] at hz2c HPY HFY hz01
      obtain ⟨pl, hpl⟩ : ∃ pl, pl = placeOf (rowsL R C f) (rowsL C R (trM f)) y x (1 - z) := ⟨_, rfl⟩
      have HPL2 := hide hpl
      rw [← hpl] at HFY
      have hyI : (y : Int) < R := by omega
      have hxI : (x : Int) < C := by omega
      have hsub : IntKind.i64.wrap (1 - z) = 1 - z := IntWalk.i64_in _ (by omega)
      have hnn := neq_not pl
      clear hz hpl hr2 hzz HPL HFX hg2 hz2 hg1 hz1
      go_wp2_with fail
      have P1 : ∀ w, Below w'.heap.size w' w → Calls Tryz.prog 20 #[rv, cv, .int .i64 (y : Nat), .int .i64 (x : Nat), .int .i64 z] w fun e w2 => e = .returned (.bool true) ∧ Below w.heap.size w w2 := fun w hS => (implPlace_any rv cv _ _ y x z w (inRow_below HR.out.1 hS) (inRow_below HC.out.1 hS)).mono fun e w2 hh => ⟨by rw [← HPY.out]; exact hh.1, hh.2⟩
      have P2 : ∀ w, Below w'.heap.size w' w → Calls Tryz.prog 21 #[.slice (some ⟨mg, mo, none⟩) R mc, .int .i64 (y : Nat), .int .i64 (x : Nat)] w fun e w2 => e = .returned (.bool (!pl)) ∧ Below w.heap.size w w2 := fun w hS => (implIsFixed_any (.slice (some ⟨mg, mo, none⟩) R mc) (mkM R C f) y x w (inMat_below HM.out hS)).mono fun e w2 hh => ⟨by rw [← HFY.out]; exact hh.1, hh.2⟩
      have P3 : ∀ w, Below w'.heap.size w' w → Calls Tryz.prog 20 #[rv, cv, .int .i64 (y : Nat), .int .i64 (x : Nat), .int .i64 (1 - z)] w fun e w2 => e = .returned (.bool pl) ∧ Below w.heap.size w w2 := fun w hS => (implPlace_any rv cv _ _ y x (1 - z) w (inRow_below HR.out.1 hS) (inRow_below HC.out.1 hS)).mono fun e w2 hh => ⟨by rw [HPL2.out]; exact hh.1, hh.2⟩
      have hltr := World.block_lt_of_cell? _ _ hr2c
      have hltz := World.block_lt_of_cell? _ _ hz2c
      refine wp_region_obs (S := fun w2 => Below w'.heap.size w' w2) [.val rv, .val cv, .val (.int .i64 (y : Nat)), .val (.int .i64 (x : Nat)), .val (.slice (some ⟨mg, mo, none⟩) R mc), .val (.int .i64 (y : Nat)), .val (.pointer (some ⟨mg, mo + y, none⟩)), .val (.slice (some ⟨g2, o2, none⟩) C k2), .val (.int .i64 (x : Nat)), .val (.pointer (some ⟨g2, o2 + x, none⟩)), .val (.int .i64 z), .val (.bool true), .val (.bool true), .val (.slice (some ⟨mg, mo, none⟩) R mc), .val (.int .i64 (y : Nat)), .val (.int .i64 (x : Nat)), .val (.bool (!pl)), .val rv, .val cv, .val (.int .i64 (y : Nat)), .val (.int .i64 (x : Nat)), .val (.slice (some ⟨mg, mo, none⟩) R mc), .val (.int .i64 (y : Nat)), .val (.pointer (some ⟨mg, mo + y, none⟩)), .val (.slice (some ⟨g2, o2, none⟩) C k2), .val (.int .i64 (x : Nat)), .val (.pointer (some ⟨g2, o2 + x, none⟩)), .val (.int .i64 z), .val (.int .i64 (1 - z)), .val (.bool pl), .val (.bool true), .val (.bool true), .val (.bool true)] [(3, (.slice (some ⟨mg, mo, none⟩) R mc)), (4, rv), (5, cv), (10, (.int .i64 (y : Nat))), (11, (.int .i64 (x : Nat)))] [some 80, some 81, some 82, some 83, some 84, some 85, some 86, some 87, some 88, some 89, some 90, some 91, some 92, some 93, some 94, some 95, some 96, some 97, some 98, some 99, some 100, some 101, some 102, some 103, some 104, some 105, some 106, some 107, some 108, some 109, some 110, some 111, some 2] (by kernel_rfl) (by kernel_rfl) (by kernel_rfl) (by kernel_rfl) ?base (below_drew (Below.refl _ _)) ?ob ?fin
      case base =>
        intro t v ht
        simp only [List.lookup_cons, List.lookup_nil] at ht
        repeat' split at ht
        all_goals first | (cases ht; done) | (obtain rfl := Option.some.inj ht; rename_i hh; obtain rfl := eq_of_beq hh; rfl)
      case fin =>
        intro a' w2 h1 h2 h3 h4
        go_wp2
        have hr : a'.tmps.getD 2 undef = .bool true := h4 32 2 rfl
        exact bodyPost_ret (results_tmp rfl _ _ _) h2 ⟨by rw [hr], HB.out.trans (h3.mono HB.out.size)⟩
      case ob =>
        exact ⟨obk_move rv rfl rfl (.inl rfl) (src_b 4 rfl),
          obk_move cv rfl rfl (.inl rfl) (src_b 5 rfl),
          obk_move (.int .i64 (y : Nat)) rfl rfl (.inl rfl) (src_b 10 rfl),
          obk_move (.int .i64 (x : Nat)) rfl rfl (.inl rfl) (src_b 11 rfl),
          obk_move (.slice (some ⟨mg, mo, none⟩) R mc) rfl rfl (.inl rfl) (src_b 3 rfl),
          obk_move (.int .i64 (y : Nat)) rfl rfl (.inl rfl) (src_b 10 rfl),
          obk_two (.pointer (some ⟨mg, mo + y, none⟩)) rfl (.inl rfl) (src_j 4 rfl (by kernel_rfl) rfl) (src_j 5 rfl (by kernel_rfl) rfl) (fun ρ w hS hx hy => (by go_simp)),
          obk_one (.slice (some ⟨g2, o2, none⟩) C k2) rfl (.inl rfl) (src_j 6 rfl (by kernel_rfl) rfl) (fun ρ w hS hx => (by have hc := below_cell hS hltr hr2c; go_simp)),
          obk_move (.int .i64 (x : Nat)) rfl rfl (.inl rfl) (src_b 11 rfl),
          obk_two (.pointer (some ⟨g2, o2 + x, none⟩)) rfl (.inl rfl) (src_j 7 rfl (by kernel_rfl) rfl) (src_j 8 rfl (by kernel_rfl) rfl) (fun ρ w hS hx hy => (by go_simp)),
          obk_one (.int .i64 z) rfl (.inl rfl) (src_j 9 rfl (by kernel_rfl) rfl) (fun ρ w hS hx => (by have hc := below_cell hS hltz hz2c; go_simp)),
          obk_call [rv, cv, .int .i64 (y : Nat), .int .i64 (x : Nat), .int .i64 z] rfl Tryz.func20 (by kernel_rfl) (by kernel_rfl) (.inl rfl) ⟨(src_j 0 rfl (by kernel_rfl) rfl), (src_j 1 rfl (by kernel_rfl) rfl), (src_j 2 rfl (by kernel_rfl) rfl), (src_j 3 rfl (by kernel_rfl) rfl), (src_j 10 rfl (by kernel_rfl) rfl), trivial⟩ (fun w hS => (P1 w hS).mono fun e w2 hh => ⟨_, hh.1, hS.trans (hh.2.mono hS.size), hh.2, rfl⟩),
          obk_move (.bool true) rfl rfl (.inl rfl) (src_j 11 rfl (by kernel_rfl) rfl),
          obk_move (.slice (some ⟨mg, mo, none⟩) R mc) rfl rfl (yes_j 12 rfl rfl (by kernel_rfl) rfl) (src_b 3 rfl),
          obk_move (.int .i64 (y : Nat)) rfl rfl (yes_j 12 rfl rfl (by kernel_rfl) rfl) (src_b 10 rfl),
          obk_move (.int .i64 (x : Nat)) rfl rfl (yes_j 12 rfl rfl (by kernel_rfl) rfl) (src_b 11 rfl),
          obk_call [.slice (some ⟨mg, mo, none⟩) R mc, .int .i64 (y : Nat), .int .i64 (x : Nat)] rfl Tryz.func21 (by kernel_rfl) (by kernel_rfl) (yes_j 12 rfl rfl (by kernel_rfl) rfl) ⟨(src_j 13 rfl (by kernel_rfl) rfl), (src_j 14 rfl (by kernel_rfl) rfl), (src_j 15 rfl (by kernel_rfl) rfl), trivial⟩ (fun w hS => (P2 w hS).mono fun e w2 hh => ⟨_, hh.1, hS.trans (hh.2.mono hS.size), hh.2, rfl⟩),
          obk_move rv rfl rfl (yes_j 12 rfl rfl (by kernel_rfl) rfl) (src_b 4 rfl),
          obk_move cv rfl rfl (yes_j 12 rfl rfl (by kernel_rfl) rfl) (src_b 5 rfl),
          obk_move (.int .i64 (y : Nat)) rfl rfl (yes_j 12 rfl rfl (by kernel_rfl) rfl) (src_b 10 rfl),
          obk_move (.int .i64 (x : Nat)) rfl rfl (yes_j 12 rfl rfl (by kernel_rfl) rfl) (src_b 11 rfl),
          obk_move (.slice (some ⟨mg, mo, none⟩) R mc) rfl rfl (yes_j 12 rfl rfl (by kernel_rfl) rfl) (src_b 3 rfl),
          obk_move (.int .i64 (y : Nat)) rfl rfl (yes_j 12 rfl rfl (by kernel_rfl) rfl) (src_b 10 rfl),
          obk_two (.pointer (some ⟨mg, mo + y, none⟩)) rfl (yes_j 12 rfl rfl (by kernel_rfl) rfl) (src_j 21 rfl (by kernel_rfl) rfl) (src_j 22 rfl (by kernel_rfl) rfl) (fun ρ w hS hx hy => (by go_simp)),
          obk_one (.slice (some ⟨g2, o2, none⟩) C k2) rfl (yes_j 12 rfl rfl (by kernel_rfl) rfl) (src_j 23 rfl (by kernel_rfl) rfl) (fun ρ w hS hx => (by have hc := below_cell hS hltr hr2c; go_simp)),
          obk_move (.int .i64 (x : Nat)) rfl rfl (yes_j 12 rfl rfl (by kernel_rfl) rfl) (src_b 11 rfl),
          obk_two (.pointer (some ⟨g2, o2 + x, none⟩)) rfl (yes_j 12 rfl rfl (by kernel_rfl) rfl) (src_j 24 rfl (by kernel_rfl) rfl) (src_j 25 rfl (by kernel_rfl) rfl) (fun ρ w hS hx hy => (by go_simp)),
          obk_one (.int .i64 z) rfl (yes_j 12 rfl rfl (by kernel_rfl) rfl) (src_j 26 rfl (by kernel_rfl) rfl) (fun ρ w hS hx => (by have hc := below_cell hS hltz hz2c; go_simp)),
          obk_two (.int .i64 (1 - z)) rfl (yes_j 12 rfl rfl (by kernel_rfl) rfl) (src_c (v := .int .i64 1)) (src_j 27 rfl (by kernel_rfl) rfl) (fun ρ w hS hx hy => (by go_simp)),
          obk_call [rv, cv, .int .i64 (y : Nat), .int .i64 (x : Nat), .int .i64 (1 - z)] rfl Tryz.func20 (by kernel_rfl) (by kernel_rfl) (yes_j 12 rfl rfl (by kernel_rfl) rfl) ⟨(src_j 17 rfl (by kernel_rfl) rfl), (src_j 18 rfl (by kernel_rfl) rfl), (src_j 19 rfl (by kernel_rfl) rfl), (src_j 20 rfl (by kernel_rfl) rfl), (src_j 28 rfl (by kernel_rfl) rfl), trivial⟩ (fun w hS => (P3 w hS).mono fun e w2 hh => ⟨_, hh.1, hS.trans (hh.2.mono hS.size), hh.2, rfl⟩),
          obk_two (.bool true) rfl (yes_j 12 rfl rfl (by kernel_rfl) rfl) (src_j 16 rfl (by kernel_rfl) rfl) (src_j 29 rfl (by kernel_rfl) rfl) (fun ρ w hS hx hy => (by go_simp)),
          obk_pick (.bool true) rfl rfl (.inl rfl) (src_j 12 rfl (by kernel_rfl) rfl) (src_j 30 rfl (by kernel_rfl) rfl),
          obk_assign (.bool true) rfl rfl (.inl rfl) (src_j 31 rfl (by kernel_rfl) rfl),
          trivial⟩
end Go.Proofs.YtcliiefedmiokaaGreat
/-
  slices.IndexFunc and ContainsFunc over integers, at a predicate that reads memory; numbersWithin.
-/
namespace Go.Proofs.YtcliiefedmiokaaGreat
open Go.RowKit Go.Shelf

/-- What a function value answers of an integer, in one world, changing nothing. -/
def IntPredAt (g : Nat) (cb : Array Value) (p : Int → Bool) (w : World) : Prop := ∀ (x : Int), Calls Tryz.prog g (#[.int .i64 x] ++ cb) w fun e w' => e = .returned (.bool (p x)) ∧ w = w'
set_option maxHeartbeats 1000000 in
theorem idxIntsAt_any (v : Value) (r : List Int) (g : Nat) (cb : Array Value) (p : Int → Bool) (w : World) (eg : ∀ args w, (callFunc g args).run Tryz.prog w = .ok (.enter g args) w) (hin : InRow w v r) (hp : IntPredAt g cb p w) :
    Calls Tryz.prog 133 #[v, .func (.func g) #[] cb] w (IdxRes (r.any p) w) := by
  have HP := hide hp
  clear hp
  obtain ⟨a, c, rfl, hm, hp⟩ := hin
  unfold maxLen at hm
  by_cases h0 : r.length = 0
  · have hr : r = [] := List.eq_nil_of_length_eq_zero h0
    subst hr
    clear hp h0 hm
    go_enter Tryz.func133, Tryz.ntmps133
    go_wp2
    go_loop [8] (fun i => i = .int .i64 0) (fun _ => 0)
    case atStart => rfl
    case round =>
      obtain rfl := hrel
      go_wp2
      go_ret
      exact ⟨-1, rfl, by omega, rfl, rfl⟩
  · obtain ⟨gr, o, rfl, hg, hc⟩ := hp.resolve_left h0
    have HC := hide hc
    obtain ⟨n, hn⟩ : ∃ n, n = r.length := ⟨_, rfl⟩
    have HN := hide hn
    rw [← hn] at hm ⊢
    clear hp hc h0 hn
    go_enter Tryz.func133, Tryz.ntmps133
    go_wp2
    go_loop [8] (fun i => ∃ k : Nat, k ≤ n ∧ i = .int .i64 k ∧ ∀ t, (h : t < r.length) → t < k → p r[t] = false) (fun i => n - (intOf i).toNat)
    case atStart => exact ⟨0, Nat.zero_le _, rfl, fun t _ h => absurd h (Nat.not_lt_zero _)⟩
    case round =>
      obtain ⟨k, hk, rfl, hall⟩ := hrel
      have HA := hide hall
      clear hall
      by_cases hlt : k < n
      · have hk' : k < r.length := by rw [← HN.out]; exact hlt
        have hx := HC.out k hk'
        have HNO := hide (fun h => any_yes (p := p) k hk' h)
        have HST : Hid (p r[k] = false → ∀ t, (h : t < r.length) → t < k + 1 → p r[t] = false) := hide fun h t h1 ht => by
          by_cases e : t = k
          · subst e; exact h
          · exact HA.out t h1 (by omega)
        obtain ⟨x, hxx⟩ : ∃ x, x = r[k] := ⟨_, rfl⟩
        rw [← hxx] at hx HNO HST
        clear hxx
        have HCALL := hide (HP.out x)
        obtain ⟨q, hq⟩ : ∃ q, q = p x := ⟨_, rfl⟩
        rw [← hq] at HCALL HNO HST
        clear hq
        cases q with
        | true =>
          have HF := hide (HNO.out rfl)
          clear HNO HST
          go_wp2_with (go_at_fn g; refine HCALL.out.mono ?_; rintro e w9 ⟨rfl, rfl⟩)
          go_ret
          exact ⟨k, rfl, by omega, by rw [HF.out]; simp, rfl⟩
        | false =>
          have HS2 := hide (HST.out rfl)
          clear HNO HST
          go_wp2_with (go_at_fn g; refine HCALL.out.mono ?_; rintro e w9 ⟨rfl, rfl⟩)
          go_round
          case rel => exact ⟨k + 1, by omega, by go_num, HS2.out⟩
          case measure => simp [intOf]; omega
      · have HY := hide (any_no (p := p) fun t h => HA.out t h (by have := HN.out; omega))
        go_wp2
        go_ret
        exact ⟨-1, rfl, by omega, by rw [HY.out]; rfl, rfl⟩
theorem containsIntsAt_any (v : Value) (r : List Int) (g : Nat) (cb : Array Value) (p : Int → Bool) (w : World) (eg : ∀ args w, (callFunc g args).run Tryz.prog w = .ok (.enter g args) w) (hin : InRow w v r) (hp : IntPredAt g cb p w) :
    Calls Tryz.prog 111 #[v, .func (.func g) #[] cb] w fun e w' => e = .returned (.bool (r.any p)) ∧ w = w' := by
  have HI := hide (idxIntsAt_any v r g cb p w eg hin hp)
  clear hin hp eg
  go_enter Tryz.func111, Tryz.ntmps111
  go_wp2_with fail
  refine HI.out.mono ?_
  rintro e w1 ⟨i, rfl, hi, hb, rfl⟩
  have HB := hide hb
  clear hb HI
  by_cases h : 0 ≤ i
  · go_wp2
    go_ret
    exact ⟨ret_bool (by rw [HB.out]; simp [h]), rfl⟩
  · go_wp2
    go_ret
    exact ⟨ret_bool (by rw [HB.out]), rfl⟩

def within (r : List Int) (most : Int) : Bool := r.all fun x => decide (-most ≤ x ∧ x ≤ most)
theorem within_any (r : List Int) (most : Int) : within r most = !r.any fun x => decide (x < -most) || decide (x > most) := by
  unfold within
  induction r with
  | nil => rfl
  | cons x r ih =>
    rw [List.all_cons, List.any_cons, ih, Bool.not_or]
    congr 1
    by_cases h1 : x < -most
    · rw [decide_eq_true h1, decide_eq_false (by omega)]; rfl
    · by_cases h2 : x > most
      · rw [decide_eq_false h1, decide_eq_true h2, decide_eq_false (by omega)]; rfl
      · rw [decide_eq_false h1, decide_eq_false h2, decide_eq_true (by omega)]; rfl
theorem within1_any (x most : Int) (q : Nat) (w : World) (hm : 0 ≤ most ∧ most ≤ 1000) (hq : w.cell? ⟨q, 0, none⟩ = some (.int .i64 most)) :
    Calls Tryz.prog 112 #[.int .i64 x, .pointer (some ⟨q, 0, none⟩)] w fun e w' => e = .returned (.bool (decide (x < -most) || decide (x > most))) ∧ w = w' := by
  obtain ⟨h1, h2⟩ := hm
  by_cases h : x < -most
  · go_enter Tryz.func112, Tryz.ntmps112
    go_wp2
    go_ret
    exact ⟨ret_bool (by simp [h]), rfl⟩
  · go_enter Tryz.func112, Tryz.ntmps112
    go_wp2
    go_ret
    exact ⟨ret_bool (by rw [show decide (x < -most) = false from decide_eq_false (by omega)]; rfl), rfl⟩
theorem numbersWithin_any (v : Value) (r : List Int) (most : Int) (w : World) (hm : 0 ≤ most ∧ most ≤ 1000) (hin : InRow w v r) :
    Calls Tryz.prog 74 #[v, .int .i64 most] w fun e w' => e = .returned (.bool (within r most)) ∧ Below w.heap.size w w' := by
  obtain ⟨w1, hw1⟩ : ∃ w1, w1 = w.alloc (.cells #[.int .i64 most] 3) := ⟨_, rfl⟩
  have B1 := hide (show Below w.heap.size w w1 by rw [hw1]; exact (Below.refl _ w).alloc (Nat.le_refl _) _)
  have hq : w1.cell? ⟨w.heap.size, 0, none⟩ = some (.int .i64 most) := by rw [hw1]; simp [World.cell?_alloc_new]
  have HC := hide (containsIntsAt_any v r 112 #[.pointer (some ⟨w.heap.size, 0, none⟩)] (fun x => decide (x < -most) || decide (x > most)) w1 (enters_of Tryz.func112 (by kernel_rfl) rfl) (inRow_below hin B1.out) (fun x => within1_any x most _ w1 hm hq))
  rw [within_any]
  obtain ⟨b, hb⟩ : ∃ b, b = r.any fun x => decide (x < -most) || decide (x > most) := ⟨_, rfl⟩
  rw [← hb] at HC ⊢
  obtain ⟨a, c, rfl, -, -⟩ := hin
  generalize r.length = n at *
  clear hb hm hq
  go_enter Tryz.func74, Tryz.ntmps74
  go_wp2_with fail
  rw [← hw1]
  clear hw1
  refine HC.out.mono ?_
  rintro e w2 ⟨rfl, rfl⟩
  go_wp2
  go_ret
  exact ⟨rfl, B1.out⟩
end Go.Proofs.YtcliiefedmiokaaGreat
/-
  The model's check of sizes and ranges.
-/
namespace Go.Proofs.YtcliiefedmiokaaGreat
open Go.RowKit Go.Shelf

def sizeRow (C : Nat) (lo hi : Int) (q : List Int) : Bool := q.length == C && q.all fun x => decide (lo ≤ x ∧ x ≤ hi)
def sizeB (k : List (List Int)) (R C : Nat) (lo hi : Int) : Bool := k.length == R && k.all (sizeRow C lo hi)
theorem all_no {α : Type} {p : α → Bool} {l : List α} (i : Nat) (hi : i < l.length) (h : p l[i] = false) : l.all p = false := by
  rw [List.all_eq_false]
  exact ⟨l[i], List.getElem_mem hi, by simp [h]⟩
theorem all_yes {α : Type} {p : α → Bool} {l : List α} (h : ∀ i, (hi : i < l.length) → p l[i] = true) : l.all p = true := by
  rw [List.all_eq_true]
  intro x hx
  obtain ⟨i, hi, rfl⟩ := List.getElem_of_mem hx
  exact h i hi

end Go.Proofs.YtcliiefedmiokaaGreat
/-
  Weights of images: the sum of the weights of the black cells, WeightOk, WeightOf, of the program and of the model.
-/
namespace Go.Proofs.YtcliiefedmiokaaGreat
open Go.RowKit Go.Shelf

/-- The sum of the weights of the black cells. -/
def wtS (R C : Nat) (g f : Nat → Nat → Int) : Int := Mx.S R fun y => Mx.S C fun x => f y x * g y x
structure Wt (R C : Nat) (g : Nat → Nat → Int) : Prop where
  lo : ∀ y x, y < R → x < C → -100 ≤ g y x
  hi : ∀ y x, y < R → x < C → g y x ≤ 100
theorem S_bnd {f : Nat → Int} {b : Int} : ∀ n : Nat, (∀ i, i < n → -b ≤ f i ∧ f i ≤ b) → -(b * n) ≤ Mx.S n f ∧ Mx.S n f ≤ b * n
  | 0, _ => by simp [Mx.S]
  | n + 1, h => by
    have h1 := S_bnd n fun i hi => h i (by omega)
    have h2 := h n (by omega)
    have e : b * ((n + 1 : Nat) : Int) = b * n + b := by rw [show ((n + 1 : Nat) : Int) = (n : Int) + 1 by omega, Int.mul_add, Int.mul_one]
    simp only [Mx.S]
    omega
theorem wt_row {R C : Nat} {g f : Nat → Nat → Int} (hW : Wt R C g) (hI : Img R C f) {y x : Nat} (hy : y < R) (hx : x ≤ C) : -500 ≤ Mx.S x (fun i => f y i * g y i) ∧ Mx.S x (fun i => f y i * g y i) ≤ 500 := by
  have hC := hI.c2
  have := S_bnd (f := fun i => f y i * g y i) (b := 100) x fun i hi => by
    have h1 := hW.lo y i hy (by omega)
    have h2 := hW.hi y i hy (by omega)
    rcases hI.cell y i hy (by omega) with e | e
    · rw [e, Int.zero_mul]; omega
    · rw [e, Int.one_mul]; omega
  omega
theorem wt_all {R C : Nat} {g f : Nat → Nat → Int} (hW : Wt R C g) (hI : Img R C f) {y : Nat} (hy : y ≤ R) : -2500 ≤ Mx.S y (fun j => Mx.S C fun i => f j i * g j i) ∧ Mx.S y (fun j => Mx.S C fun i => f j i * g j i) ≤ 2500 := by
  have hR := hI.r2
  have := S_bnd (f := fun j => Mx.S C fun i => f j i * g j i) (b := 500) y fun i hi => wt_row hW hI (by omega) (Nat.le_refl C)
  omega
theorem sizeB_mk {k : List (List Int)} {R C : Nat} {lo hi : Int} (h : sizeB k R C lo hi = true) : k = mkM R C (cellM k) ∧ ∀ y x, y < R → x < C → lo ≤ cellM k y x ∧ cellM k y x ≤ hi := by
  rw [sizeB, Bool.and_eq_true, beq_iff_eq] at h
  obtain ⟨h1, h2⟩ := h
  have hr : ∀ i, (hi' : i < k.length) → k[i].length = C ∧ ∀ j, (hj : j < k[i].length) → lo ≤ k[i][j] ∧ k[i][j] ≤ hi := fun i hi' => by
    have := List.all_eq_true.1 h2 _ (List.getElem_mem hi')
    rw [sizeRow, Bool.and_eq_true, beq_iff_eq] at this
    refine ⟨this.1, fun j hj => ?_⟩
    have := List.all_eq_true.1 this.2 _ (List.getElem_mem hj)
    simpa using this
  have hc : ∀ y x, (hy : y < k.length) → (hx : x < k[y].length) → cellM k y x = k[y][x] := fun y x hy hx => by
    simp [cellM, List.getD_eq_getElem?_getD, hy, hx]
  refine ⟨?_, fun y x hy hx => ?_⟩
  · refine List.ext_getElem (by rw [mkM_len, h1]) fun i hi1 hi2 => ?_
    rw [mkM_at]
    refine List.ext_getElem (by rw [rowF_len, (hr i hi1).1]) fun j hj1 hj2 => ?_
    rw [rowF_at, hc i j hi1 hj1]
  · have hy' : y < k.length := by omega
    have hx' : x < k[y].length := by rw [(hr y hy').1]; exact hx
    rw [hc y x hy' hx']
    exact (hr y hy').2 x hx'
theorem sizeB_wt {k : List (List Int)} {R C : Nat} (h : sizeB k R C (-100) 100 = true) : k = mkM R C (cellM k) ∧ Wt R C (cellM k) := by
  obtain ⟨h1, h2⟩ := sizeB_mk h
  exact ⟨h1, fun y x hy hx => (h2 y x hy hx).1, fun y x hy hx => (h2 y x hy hx).2⟩
theorem anyNotW {α : Type} (p : α → Bool) (r : List α) : (!r.any fun x => !p x) = r.all p := by
  induction r with
  | nil => rfl
  | cons x r ih => rw [List.any_cons, List.all_cons, ← ih]; cases p x <;> simp
theorem wtS_congr {R C : Nat} {g g' f f' : Nat → Nat → Int} (hg : ∀ y x, y < R → x < C → g y x = g' y x) (hf : ∀ y x, y < R → x < C → f y x = f' y x) : wtS R C g f = wtS R C g' f' :=
  Mx.S_congr R fun y hy => Mx.S_congr C fun x hx => by rw [hg y x hy hx, hf y x hy hx]

set_option maxRecDepth 100000 in
set_option maxHeartbeats 1000000 in
theorem blackWeight_any (vk vm : Value) (R C : Nat) (g f : Nat → Nat → Int) (w : World) (hk : InMat w vk (mkM R C g)) (hm : InMat w vm (mkM R C f)) (hI : Img R C f) (hW : Wt R C g) :
    Calls Tryz.prog 71 #[vk, vm] w fun e w' => e = .returned (.int .i64 (wtS R C g f)) ∧ w = w' := by
  have hR1 := hI.r1; have hC1 := hI.c1; have hR := hI.r2; have hC := hI.c2
  obtain ⟨ga, oa, ca, rfl, hga, hca⟩ := inMat_img hk (by omega) (by omega)
  obtain ⟨gb, ob, cb, rfl, hgb, hcb⟩ := inMat_img hm (by omega) (by omega)
  have HA := hide hca; have HB := hide hcb; have HI := hide hI; have HW := hide hW
  have HE : Hid (wtS R C g f = Mx.S R fun j => Mx.S C fun i => f j i * g j i) := hide rfl
  rw [HE.out]
  have HZ : Hid ((0 : Int) = Mx.S 0 fun j => Mx.S C fun i => f j i * g j i) := hide rfl
  clear hk hm hI hW hca hcb HE
  go_enter Tryz.func71, Tryz.ntmps71
  go_wp2
  go_loop [5, 12] (fun s i => ∃ y : Nat, y ≤ R ∧ i = .int .i64 y ∧ s = .int .i64 (Mx.S y fun j => Mx.S C fun i => f j i * g j i)) (fun _ i => R - (intOf i).toNat)
  case atStart => exact ⟨0, by omega, rfl, by rw [← HZ.out]⟩
  case round =>
    obtain ⟨y, hy, rfl, rfl⟩ := hrel
    by_cases hlt : y < R
    · have hyI : (y : Int) < R := by omega
      obtain ⟨g', o', c', hx, hg', hcc⟩ := HB.out y hlt
      obtain ⟨g2, o2, c2, hx2, hg2, hc2⟩ := HA.out y hlt
      have HCC := hide hcc; have HC2 := hide hc2
      have hb := wt_all HW.out HI.out hy
      have HST := hide (show (Mx.S (y + 1) fun j => Mx.S C fun i => f j i * g j i) = (Mx.S y fun j => Mx.S C fun i => f j i * g j i) + Mx.S C fun i => f y i * g y i from rfl)
      obtain ⟨T, hT⟩ : ∃ T, T = Mx.S y fun j => Mx.S C fun i => f j i * g j i := ⟨_, rfl⟩
      rw [← hT] at hb HST ⊢
      obtain ⟨hb1, hb2⟩ := hb
      have HZ0 : Hid (T = T + Mx.S 0 fun i => f y i * g y i) := hide (by simp [Mx.S])
      clear hcc hc2 hT
      go_wp2
      go_loop [5, 19] (fun s i => ∃ x : Nat, x ≤ C ∧ i = .int .i64 x ∧ s = .int .i64 (T + Mx.S x fun i => f y i * g y i)) (fun _ i => C - (intOf i).toNat)
      case atStart => exact ⟨0, by omega, rfl, by rw [← HZ0.out]⟩
      case round =>
        obtain ⟨x, hxx, rfl, rfl⟩ := hrel
        by_cases hlx : x < C
        · have hxI : (x : Int) < C := by omega
          have hz := HCC.out x hlx
          have hz2 := HC2.out x hlx
          obtain ⟨b1, b2⟩ := wt_row HW.out HI.out hlt hxx
          have b3 := HW.out.lo y x hlt hlx
          have b4 := HW.out.hi y x hlt hlx
          have HS1 := hide (show (Mx.S (x + 1) fun i => f y i * g y i) = (Mx.S x fun i => f y i * g y i) + f y x * g y x from rfl)
          obtain ⟨U, hU⟩ : ∃ U, U = Mx.S x fun i => f y i * g y i := ⟨_, rfl⟩
          rw [← hU] at b1 b2 HS1 ⊢
          have h01 := HI.out.cell y x hlt hlx
          obtain ⟨s, hs⟩ : ∃ s, s = f y x := ⟨_, rfl⟩
          obtain ⟨t, ht⟩ : ∃ t, t = g y x := ⟨_, rfl⟩
          rw [← hs, ← ht] at HS1
          rw [← hs] at hz h01
          rw [← ht] at hz2 b3 b4
          clear hs ht hU
          rcases h01 with rfl | rfl
          · have HS2 := hide (show (Mx.S (x + 1) fun i => f y i * g y i) = U by rw [HS1.out, Int.zero_mul, Int.add_zero])
            clear HS1
            go_wp2
            go_round
            case rel => exact ⟨x + 1, by omega, by go_num, by rw [HS2.out]⟩
            case measure => simp [intOf]; omega
          · have HS2 := hide (show (Mx.S (x + 1) fun i => f y i * g y i) = U + t by rw [HS1.out, Int.one_mul])
            clear HS1
            go_wp2
            go_round
            case rel => exact ⟨x + 1, by omega, by go_num, by rw [HS2.out, Int.add_assoc]⟩
            case measure => simp [intOf]; omega
        · obtain rfl : x = C := by omega
          go_wp2
          go_round
          case rel => exact ⟨y + 1, by omega, by go_num, by rw [HST.out]⟩
          case measure => simp [intOf]; omega
    · obtain rfl : y = R := by omega
      go_wp2
      go_ret
      exact ⟨rfl, rfl⟩
/-- The sizes and the range of weights. -/
def wtB (k : List (List Int)) (R C : Int) : Bool := sizeOk R C && sizeB k R.toNat C.toNat (-100) 100
theorem within_row (C : Nat) (q : List Int) : (q.length == C && within q 100) = sizeRow C (-100) 100 q := rfl
theorem weightOk1_any (u : Value) (row : List Int) (C : Nat) (q : Nat) (w : World) (hu : InRow w u row) (hC : C ≤ 5) (hq : w.cell? ⟨q, 0, none⟩ = some (.int .i64 C)) :
    Calls Tryz.prog 73 #[u, .pointer (some ⟨q, 0, none⟩)] w fun e w' => e = .returned (.bool (!sizeRow C (-100) 100 row)) ∧ Below w.heap.size w w' := by
  have HN := hide (numbersWithin_any u row 100 w (by omega) hu)
  rw [← within_row]
  obtain ⟨b, hb⟩ : ∃ b, b = within row 100 := ⟨_, rfl⟩
  rw [← hb] at HN ⊢
  obtain ⟨a, c, rfl, hm, -⟩ := hu
  unfold maxLen at hm
  obtain ⟨n, hn⟩ : ∃ n, n = row.length := ⟨_, rfl⟩
  rw [← hn] at HN hm ⊢
  clear hb hn
  by_cases h : n = C
  · subst h
    rw [show (n == n) = true from beq_self_eq_true n]
    go_enter Tryz.func73, Tryz.ntmps73
    go_wp2_with (go_at_call 74; refine HN.out.mono ?_; rintro e w' ⟨rfl, hb9⟩; have HB9 := hide hb9; clear hb9)
    go_ret
    exact ⟨ret_bool (by simp), HB9.out⟩
  · have hne : ((n : Int) != (C : Int)) = true := by simp; omega
    rw [show (n == C) = false from beq_eq_false_iff_ne.2 h]
    go_enter Tryz.func73, Tryz.ntmps73
    go_wp2
    go_ret
    exact ⟨rfl, Below.refl _ _⟩
set_option maxHeartbeats 1000000 in
theorem implWeightOk_any (v : Value) (k : List (List Int)) (R C : Int) (w : World) (hin : InMat w v k) :
    Calls Tryz.prog 30 #[v, .int .i64 R, .int .i64 C] w fun e w' => e = .returned (.bool (wtB k R C)) ∧ Below w.heap.size w w' := by
  obtain ⟨w1, hw1⟩ : ∃ w1, w1 = w.alloc (.cells #[.int .i64 C] 3) := ⟨_, rfl⟩
  have B1 := hide (show Below w.heap.size w w1 by rw [hw1]; exact (Below.refl _ w).alloc (Nat.le_refl _) _)
  have hq : w1.cell? ⟨w.heap.size, 0, none⟩ = some (.int .i64 C) := by rw [hw1]; simp [World.cell?_alloc_new]
  by_cases h1 : 1 ≤ R ∧ R ≤ 5
  · have HR := hide fun w' => sideOk_any R w'
    rw [decide_eq_true h1] at HR
    by_cases h2 : 1 ≤ C ∧ C ≤ 5
    · have HC := hide fun w' => sideOk_any C w'
      rw [decide_eq_true h2] at HC
      have HS : Hid (sizeOk R C = true) := hide (by rw [sizeOk, decide_eq_true h1, decide_eq_true h2]; rfl)
      obtain ⟨r, rfl⟩ : ∃ r : Nat, R = r := ⟨R.toNat, by omega⟩
      obtain ⟨c, rfl⟩ : ∃ c : Nat, C = c := ⟨C.toNat, by omega⟩
      have HM : Hid (wtB k r c = (k.length == r && !k.any fun q => !sizeRow c (-100) 100 q)) := hide (by rw [wtB, HS.out, Bool.true_and, sizeB, Int.toNat_natCast, Int.toNat_natCast, anyNotW])
      have HCN := hide (containsRows_any v k 73 #[.pointer (some ⟨w.heap.size, 0, none⟩)] (fun _ => True) (fun q => !sizeRow c (-100) 100 q) w1 (enters_of Tryz.func73 (by kernel_rfl) rfl) (inMat_below hin B1.out) (fun _ _ => trivial)
        (fun row u w2 _ h2' hu => weightOk1_any u row c w.heap.size w2 hu (by omega) (by rw [below_cell h2' (by rw [hw1]; simp) hq])))
      rw [HM.out]
      obtain ⟨b, hb⟩ : ∃ b, b = k.any fun q => !sizeRow c (-100) 100 q := ⟨_, rfl⟩
      rw [← hb] at HCN ⊢
      obtain ⟨a, ca, rfl, hm, -⟩ := hin
      unfold maxLen at hm
      obtain ⟨K, hK⟩ : ∃ K, K = k.length := ⟨_, rfl⟩
      rw [← hK] at HCN hm ⊢
      clear hb HM hK h1 HS
      by_cases h : K = r
      · subst h
        rw [show (K == K) = true from beq_self_eq_true K]
        go_enter Tryz.func30, Tryz.ntmps30
        go_wp2_with fail
        rw [← hw1]
        clear hw1
        go_wp2_with (first | (with_reducible refine (HR.out _).mono ?_; rintro e w9 ⟨rfl, rfl⟩) | (with_reducible refine (HC.out _).mono ?_; rintro e w9 ⟨rfl, rfl⟩) | (go_at_call 56; refine HCN.out.mono ?_; rintro e w2 ⟨rfl, b2⟩; have B2 := hide b2; clear b2))
        go_ret
        exact ⟨ret_bool (by simp), B1.out.trans (B2.out.mono B1.out.size)⟩
      · have hne : ((K : Int) == (r : Int)) = false := by simp; omega
        rw [show (K == r) = false from beq_eq_false_iff_ne.2 h]
        go_enter Tryz.func30, Tryz.ntmps30
        go_wp2_with fail
        rw [← hw1]
        clear hw1
        go_wp2_with (first | (with_reducible refine (HR.out _).mono ?_; rintro e w9 ⟨rfl, rfl⟩) | (with_reducible refine (HC.out _).mono ?_; rintro e w9 ⟨rfl, rfl⟩))
        go_ret
        exact ⟨rfl, B1.out⟩
    · have HC := hide fun w' => sideOk_any C w'
      rw [decide_eq_false h2] at HC
      have HS : Hid (wtB k R C = false) := hide (by rw [wtB, sizeOk, decide_eq_false h2, Bool.and_false, Bool.false_and])
      rw [HS.out]
      obtain ⟨a, ca, rfl, hm, -⟩ := hin
      generalize k.length = K at *
      clear h1 h2 HS
      go_enter Tryz.func30, Tryz.ntmps30
      go_wp2_with fail
      rw [← hw1]
      clear hw1
      go_wp2_with (first | (with_reducible refine (HR.out _).mono ?_; rintro e w9 ⟨rfl, rfl⟩) | (with_reducible refine (HC.out _).mono ?_; rintro e w9 ⟨rfl, rfl⟩))
      go_ret
      exact ⟨rfl, B1.out⟩
  · have HR := hide fun w' => sideOk_any R w'
    rw [decide_eq_false h1] at HR
    have HS : Hid (wtB k R C = false) := hide (by rw [wtB, sizeOk, decide_eq_false h1, Bool.false_and, Bool.false_and])
    rw [HS.out]
    obtain ⟨a, ca, rfl, hm, -⟩ := hin
    generalize k.length = K at *
    clear h1 HS
    go_enter Tryz.func30, Tryz.ntmps30
    go_wp2_with fail
    rw [← hw1]
    clear hw1
    go_wp2_with (first | (with_reducible refine (HR.out _).mono ?_; rintro e w9 ⟨rfl, rfl⟩))
    go_ret
    exact ⟨rfl, B1.out⟩
end Go.Proofs.YtcliiefedmiokaaGreat
/-
  WeightOf and PricesOk, of the program and of the model.
-/
namespace Go.Proofs.YtcliiefedmiokaaGreat
open Go.RowKit Go.Shelf

def wtOfB (k m : List (List Int)) : Bool := okB m && wtB k m.length (widthM m)
def wtOf (k m : List (List Int)) : Int := if wtOfB k m then wtS m.length (widthM m) (cellM k) (cellM m) else 0
theorem wtB_nat {k : List (List Int)} {R C : Nat} (h : wtB k R C = true) : sizeB k R C (-100) 100 = true := by
  unfold wtB at h
  rw [Bool.and_eq_true, Int.toNat_natCast, Int.toNat_natCast] at h
  exact h.2
theorem ret_tup {n m : Int} {a b : Bool} (h1 : n = m) (h2 : a = b) : Ending.returned (.tuple #[.int .i64 n, .bool a]) = .returned (.tuple #[.int .i64 m, .bool b]) := by rw [h1, h2]

set_option maxHeartbeats 1000000 in
theorem implWeightOf_any (vk vm : Value) (k m : List (List Int)) (w : World) (hk : InMat w vk k) (hm : InMat w vm m) :
    Calls Tryz.prog 29 #[vk, vm] w fun e w' => e = .returned (.tuple #[.int .i64 (wtOf k m), .bool (wtOfB k m)]) ∧ Below w.heap.size w w' := by
  have HOK := hide (implImageOk_any vm m w hm)
  cases h : okB m with
  | false =>
    rw [h] at HOK
    have HF : Hid (wtOfB k m = false) := hide (by rw [wtOfB, h, Bool.false_and])
    have HV : Hid (wtOf k m = 0) := hide (by rw [wtOf, HF.out]; rfl)
    rw [HF.out, HV.out]
    obtain ⟨a, ca, rfl, -, -⟩ := hk
    obtain ⟨b, cb, rfl, -, -⟩ := hm
    generalize m.length = M at *
    generalize k.length = L at *
    clear h HF HV
    go_enter Tryz.func29, Tryz.ntmps29
    go_wp2_with (go_at_call 37; refine HOK.out.mono ?_; rintro e w1 ⟨rfl, rfl⟩)
    exact bodyPost_ret (results_tmp2 rfl _ _ _) rfl ⟨rfl, Below.refl _ _⟩
  | true =>
    rw [h] at HOK
    obtain ⟨R, C, f, rfl, hI⟩ := ok_img h
    have hR1 := hI.r1; have hC1 := hI.c1; have hR := hI.r2; have hC := hI.c2
    have HWT := hide (implWeightOk_any vk k R C w hk)
    have HB : Hid (wtOfB k (mkM R C f) = wtB k R C) := hide (by rw [wtOfB, h, Bool.true_and, mkM_len, width_mkM hR1])
    cases hw : wtB k R C with
    | false =>
      rw [hw] at HWT
      have HF : Hid (wtOfB k (mkM R C f) = false) := hide (by rw [HB.out, hw])
      have HV : Hid (wtOf k (mkM R C f) = 0) := hide (by rw [wtOf, HF.out]; rfl)
      rw [HF.out, HV.out]
      obtain ⟨ak, ck, rfl, -, -⟩ := hk
      obtain ⟨gb, ob, cb, rfl, hgb, hcb⟩ := inMat_img hm (by omega) (by omega)
      obtain ⟨g0, o0, c0, hx0, -⟩ := hcb 0 (by omega)
      rw [Nat.add_zero] at hx0
      generalize k.length = L at *
      clear h hw HB HF HV hcb hI hm
      go_enter Tryz.func29, Tryz.ntmps29
      go_wp2_with (first | (go_at_call 37; refine HOK.out.mono ?_; rintro e w1 ⟨rfl, rfl⟩) | (go_at_call 30; refine HWT.out.mono ?_; rintro e w1 ⟨rfl, b1⟩; have B1 := hide b1; clear b1))
      exact bodyPost_ret (results_tmp2 rfl _ _ _) rfl ⟨rfl, B1.out⟩
    | true =>
      rw [hw] at HWT
      obtain ⟨hkm, hWt⟩ := sizeB_wt (wtB_nat hw)
      have HF : Hid (wtOfB k (mkM R C f) = true) := hide (by rw [HB.out, hw])
      have HV : Hid (wtOf k (mkM R C f) = wtS R C (cellM k) f) := hide (by
        rw [wtOf, HF.out, if_pos rfl, mkM_len, width_mkM hR1]
        exact wtS_congr (fun _ _ _ _ => rfl) fun y x hy hx => cell_mk R C f hy hx)
      rw [HF.out, HV.out]
      have hk2 := hk
      rw [hkm] at hk2
      have HBW := hide fun w1 (b1 : Below w.heap.size w w1) => blackWeight_any vk vm R C (cellM k) f w1 (inMat_below hk2 b1) (inMat_below hm b1) hI hWt
      obtain ⟨S, hS⟩ : ∃ S, S = wtS R C (cellM k) f := ⟨_, rfl⟩
      rw [← hS] at HBW ⊢
      obtain ⟨ak, ck, rfl, -, -⟩ := hk
      obtain ⟨gb, ob, cb, rfl, hgb, hcb⟩ := inMat_img hm (by omega) (by omega)
      obtain ⟨g0, o0, c0, hx0, -⟩ := hcb 0 (by omega)
      rw [Nat.add_zero] at hx0
      generalize k.length = L at *
      clear h hw HB HF HV hcb hI hm hk2 hkm hWt hS
      go_enter Tryz.func29, Tryz.ntmps29
      go_wp2_with (first | (go_at_call 37; refine HOK.out.mono ?_; rintro e w1 ⟨rfl, rfl⟩) | (go_at_call 30; refine HWT.out.mono ?_; rintro e w1 ⟨rfl, b1⟩; have B1 := hide b1; clear b1) | (go_at_call 71; refine (HBW.out _ B1.out).mono ?_; rintro e w2 ⟨rfl, rfl⟩))
      exact bodyPost_ret (results_tmp2 rfl _ _ _) rfl ⟨rfl, B1.out⟩

end Go.Proofs.YtcliiefedmiokaaGreat
/-
  The heaviest and the nearest image, pure; the model's search for the first of the greatest.
-/
namespace Go.Proofs.YtcliiefedmiokaaGreat
open Go.RowKit Go.Shelf

theorem allL_mk {r c : List Int} (h : existsOf r c = true) {m : List (List Int)} (hm : m ∈ allL r c) : m = mkM r.length c.length (cellM m) ∧ Img r.length c.length (cellM m) ∧ ImgF r c (cellM m) := by
  obtain ⟨hr5, hc5, -⟩ := sumsOk_yes (existsOf_sums h)
  obtain ⟨h1, h2, h3⟩ := all_sound r c hr5.2 hc5 (img_of_exists h) m hm
  refine ⟨?_, ⟨hr5.1, hr5.2, hc5.1, hc5.2, fun y x hy hx => h3.cell y x hy hx⟩, h3⟩
  refine List.ext_getElem (by rw [mkM_len, h1]) fun i hi1 hi2 => ?_
  rw [mkM_at]
  refine List.ext_getElem (by rw [rowF_len, h2 _ (List.getElem_mem hi1)]) fun j hj1 hj2 => ?_
  rw [rowF_at]
  simp [cellM, List.getD_eq_getElem?_getD, hi1, hj1]
theorem allL_ne {r c : List Int} (h : existsOf r c = true) : allL r c ≠ [] := by
  obtain ⟨hr5, hc5, -⟩ := sumsOk_yes (existsOf_sums h)
  obtain ⟨l, hl⟩ := all_first r c hr5.2 hc5 (img_of_exists h)
  rw [hl]; simp
/-- The first of the greatest value, and this value; nothing where the arguments are refused. -/
def pickP (vf : List (List Int) → Int) (r c : List Int) (ok : Bool) : List (List Int) × Int := if ok then (bestF vf (allL r c)).getD ([], 0) else ([], 0)
def heavB (r c : List Int) (k : List (List Int)) : Bool := existsOf r c && wtB k r.length c.length
def heavF (r c : List Int) (k m : List (List Int)) : Int := wtS r.length c.length (cellM k) (cellM m)
def heavP (r c : List Int) (k : List (List Int)) : List (List Int) × Int := pickP (heavF r c k) r c (heavB r c k)
theorem heavF_range {r c : List Int} {k : List (List Int)} (h : existsOf r c = true) (hw : Wt r.length c.length (cellM k)) {m : List (List Int)} (hm : m ∈ allL r c) : -2500 ≤ heavF r c k m ∧ heavF r c k m ≤ 2500 :=
  wt_all hw (allL_mk h hm).2.1 (Nat.le_refl _)
/-- While the model looks for it: the place of the best so far. -/
def PickSt (us : List Value) (L : List (List (List Int))) (vf : List (List Int) → Int) (k : Nat) (v : Value) (n : Int) : Prop :=
  ∃ j m, j < k ∧ bestF vf (L.take k) = some (m, n) ∧ L[j]? = some m ∧ v = us.getD j undef
theorem pick_first {us : List Value} {L : List (List (List Int))} {vf : List (List Int) → Int} (h : 0 < L.length) : PickSt us L vf 1 (us.getD 0 undef) (vf L[0]) := by
  refine ⟨0, L[0], by omega, ?_, List.getElem?_eq_getElem h, rfl⟩
  have : L.take 1 = [] ++ [L[0]] := by
    cases L with
    | nil => simp at h
    | cons a l => rfl
  rw [this, bestF_snoc]; rfl
theorem pick_more {us : List Value} {L : List (List (List Int))} {vf : List (List Int) → Int} {k : Nat} {v : Value} {n : Int} (h : PickSt us L vf k v n) (hk : k < L.length) (hv : n < vf L[k]) : PickSt us L vf (k + 1) (us.getD k undef) (vf L[k]) := by
  obtain ⟨j, m, h1, h2, h3, -⟩ := h
  refine ⟨k, L[k], by omega, ?_, List.getElem?_eq_getElem hk, rfl⟩
  rw [List.take_succ_eq_append_getElem hk, bestF_snoc, h2]
  exact bestS_more hv
theorem pick_less {us : List Value} {L : List (List (List Int))} {vf : List (List Int) → Int} {k : Nat} {v : Value} {n : Int} (h : PickSt us L vf k v n) (hk : k < L.length) (hv : ¬ n < vf L[k]) : PickSt us L vf (k + 1) v n := by
  obtain ⟨j, m, h1, h2, h3, h4⟩ := h
  refine ⟨j, m, by omega, ?_, h3, h4⟩
  rw [List.take_succ_eq_append_getElem hk, bestF_snoc, h2]
  exact bestS_less hv
theorem pick_end {us : List Value} {L : List (List (List Int))} {vf : List (List Int) → Int} {v : Value} {n : Int} (h : PickSt us L vf L.length v n) : ∃ j, ∃ hj : j < L.length, bestF vf L = some (L[j], n) ∧ v = us.getD j undef := by
  obtain ⟨j, m, h1, h2, h3, h4⟩ := h
  rw [List.take_length] at h2
  rw [List.getElem?_eq_getElem h1] at h3
  exact ⟨j, h1, by rw [Option.some.inj h3]; exact h2, h4⟩
end Go.Proofs.YtcliiefedmiokaaGreat
/-
  Images with the sums of one: what the lists of its sums say.
-/
namespace Go.Proofs.YtcliiefedmiokaaGreat
open Go.RowKit

theorem sameB_okI {R C : Nat} {f g : Nat → Nat → Int} (hI : Img R C f) (hJ : Img R C g) (hs : SameF R C f g) : sameB (mkM R C f) (mkM R C g) = true := by
  rw [sameB_mk hI hJ, if_pos ⟨rfl, rfl⟩]
  unfold sameL
  rw [Bool.and_eq_true, beq_iff_eq, beq_iff_eq]
  refine ⟨rowF_congr fun y hy => by rw [hs.1 y hy], rowF_congr fun x hx => ?_⟩
  have := hs.2 x hx
  show ((rs R (trM f) x : Nat) : Int) = rs R (trM g) x
  exact congrArg Int.ofNat this
theorem img_sameI {R C : Nat} {f g : Nat → Nat → Int} (hI : Img R C f) (hg : ImgF (rowsL R C f) (rowsL C R (trM f)) g) : Img R C g ∧ SameF R C g f := by
  obtain ⟨h1, h2, h3⟩ := (imgF_iff hI g).1 hg
  have hJ : Img R C g := ⟨hI.r1, hI.r2, hI.c1, hI.c2, h1⟩
  refine ⟨hJ, fun y hy => ?_, fun x hx => ?_⟩
  · have := h2 y hy
    rw [S_cnt _ _ fun x hx => h1 y x hy hx, S_cnt _ _ fun x hx => hI.cell y x hy hx] at this
    unfold rs; omega
  · have := h3 x hx
    rw [S_cnt _ _ fun y hy => h1 y x hy hx, S_cnt _ _ fun y hy => hI.cell y x hy hx] at this
    unfold cs; omega
theorem imgF_sameI {R C : Nat} {f g : Nat → Nat → Int} (hI : Img R C f) (hJ : Img R C g) (hs : SameF R C f g) : ImgF (rowsL R C f) (rowsL C R (trM f)) g := by
  refine (imgF_iff hI g).2 ⟨hJ.cell, fun y hy => ?_, fun x hx => ?_⟩
  · rw [S_cnt _ _ fun x hx => hJ.cell y x hy hx, S_cnt _ _ fun x hx => hI.cell y x hy hx]
    have := hs.1 y hy
    unfold rs at this; omega
  · rw [S_cnt _ _ fun y hy => hJ.cell y x hy hx, S_cnt _ _ fun y hy => hI.cell y x hy hx]
    have := hs.2 x hx
    unfold cs at this; omega
theorem same_okI (v u : Value) (m l : List (List Int)) (w : World) (hin : InMat w v m) (hin2 : InMat w u l) (h : sameB m l = true) :
    Calls Tryz.prog 17 #[v, u] w fun e w' => e = .returned (.bool true) ∧ Below w.heap.size w w' := by
  have := implSameB_any v u m l w hin hin2
  rw [h] at this; exact this
theorem inMat_sliceI {w : World} {v : Value} {R C : Nat} {f : Nat → Nat → Int} (h : InMat w v (mkM R C f)) : ∃ a c, v = .slice a R c := by
  obtain ⟨a, c, rfl, -⟩ := h
  rw [mkM_len]; exact ⟨a, c, rfl⟩
theorem exists_I {R C : Nat} {f : Nat → Nat → Int} (hI : Img R C f) : existsOf (rowsL R C f) (rowsL C R (trM f)) = true := by
  have h1 := hI.r1; have h2 := hI.r2; have h3 := hI.c1; have h4 := hI.c2
  exact exists_of_img (by rw [rows_len]; omega) (by rw [rows_len]; omega) ⟨f, imgF_self hI⟩
theorem mem_I {R C : Nat} {f g : Nat → Nat → Int} (hI : Img R C f) (hJ : Img R C g) (hs : SameF R C f g) : mkM R C g ∈ allL (rowsL R C f) (rowsL C R (trM f)) := by
  have h := all_complete (rowsL R C f) (rowsL C R (trM f)) (by rw [rows_len]; exact hI.r2) (by rw [rows_len]; exact ⟨hI.c1, hI.c2⟩) g (imgF_sameI hI hJ hs)
  rw [rows_len, rows_len] at h
  exact h
theorem allL_I {R C : Nat} {f : Nat → Nat → Int} (hI : Img R C f) {m : List (List Int)} (hm : m ∈ allL (rowsL R C f) (rowsL C R (trM f))) : m = mkM R C (cellM m) ∧ Img R C (cellM m) ∧ SameF R C (cellM m) f := by
  obtain ⟨h1, -, h3⟩ := allL_mk (exists_I hI) hm
  rw [rows_len, rows_len] at h1
  exact ⟨h1, (img_sameI hI h3).1, (img_sameI hI h3).2⟩
theorem sameF_refl (R C : Nat) (f : Nat → Nat → Int) : SameF R C f f := ⟨fun _ _ => rfl, fun _ _ => rfl⟩
end Go.Proofs.YtcliiefedmiokaaGreat
