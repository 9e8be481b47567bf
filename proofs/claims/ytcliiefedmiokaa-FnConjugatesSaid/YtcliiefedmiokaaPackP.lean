/-
  Texts of this claim, one behind the other: ConjR.
-/
import Derived.Test.YtcliiefedmiokaaPackN
import Derived.Test.YtcliiefedmiokaaPackH
import Derived.Test.YtcliiefedmiokaaPackO
/-
  The law FnConjugates, walked.
-/
namespace Go.Proofs.Ytcliiefedmiokaa
open Go.RowKit

theorem total_eq (v : Value) (r : List Int) (t : Int) (w : World) (hin : InRow w v r) (hs : SmallL r) (ht : r.sum = t) :
    Calls Try.prog 46 #[v] w fun e w' => e = .returned (.int .i64 t) ∧ Below w.heap.size w w' := by
  subst ht; exact (lawTotal_any v r w hin hs).mono fun e w' h => ⟨h.1, by rw [← h.2]; exact Below.refl _ _⟩
theorem sorted_eq (v : Value) (r s : List Int) (w : World) (hin : InRow w v r) (hl : r.length ≤ 1048576) (hs : sortD r = s) :
    Calls Try.prog 48 #[v] w (IntsRes s w) := by subst hs; exact implSortedDown_any v r w hin hl
theorem isStair_eq (v : Value) (m : List (List Int)) (w : World) (hin : InMat w v m) (h : stairB m = true) :
    Calls Try.prog 49 #[v] w fun e w' => e = .returned (.bool true) ∧ Below w.heap.size w w' := by
  have := implIsStair_any v m w hin
  rw [h] at this; exact this
theorem unique_eq (v : Value) (m : List (List Int)) (w : World) (hin : InMat w v m) (h : uniqB m = true) :
    Calls Try.prog 50 #[v] w fun e w' => e = .returned (.bool true) ∧ Below w.heap.size w w' := by
  have := implIsUnique_any v m w hin
  rw [h] at this; exact this
theorem rows_eq (v : Value) (R C : Nat) (f : Nat → Nat → Int) (r : List Int) (w : World) (hin : InMat w v (mkM R C f)) (hI : Img R C f) (hr : rowsL R C f = r) :
    Calls Try.prog 15 #[v] w (IntsRes r w) := by subst hr; exact implRowSums_yes v R C f w hin hI
theorem cols_eq (v : Value) (R C : Nat) (f : Nat → Nat → Int) (r : List Int) (w : World) (hin : InMat w v (mkM R C f)) (hI : Img R C f) (hr : rowsL C R (trM f) = r) :
    Calls Try.prog 22 #[v] w (IntsRes r w) := by subst hr; exact implColSums_yes v R C f w hin hI
theorem conj_eq (v : Value) (r : List Int) (n : Nat) (k : List Int) (w : World) (hin : InRow w v r) (hk : conjRes r n = k) :
    Calls Try.prog 44 #[v, .int .i64 n] w (IntsRes k w) := by subst hk; exact implConj_any v r n w hin
theorem stair_eq (v : Value) (r : List Int) (n : Nat) (m : List (List Int)) (w : World) (hin : InRow w v r) (hk : stairRes r n = m) :
    Calls Try.prog 45 #[v, .int .i64 n] w (MatRes m w) := by subst hk; exact implStair_any v r n w hin
theorem same_yes (va vb : Value) (r : List Int) (w : World) (ha : InRow w va r) (hb : InRow w vb r) :
    Calls Try.prog 47 #[va, vb] w fun e w' => e = .returned (.bool true) ∧ Below w.heap.size w w' := by
  have h := same_any va vb r r w ha hb
  rw [beq_self_eq_true] at h
  exact h.mono fun e w' h => ⟨h.1, by rw [← h.2]; exact Below.refl _ _⟩
/-- What stands through the last statement. -/
def cjS (w : World) (g g0 C c0 : Nat) (vr vk vb vs : Value) (r k s : List Int) (m : List (List Int)) (w' : World) : Prop :=
  w'.cell? ⟨g, 0, none⟩ = some (.slice (some ⟨g0, 0, none⟩) C c0) ∧ InRow w' vr r ∧ InRow w' vk k ∧ InRow w' vb s ∧ InMat w' vs m ∧ Below w.heap.size w w'
theorem cj_step {w wp wn : World} {g g0 C c0 : Nat} {vr vk vb vs : Value} {r k s : List Int} {m : List (List Int)} (h : cjS w g g0 C c0 vr vk vb vs r k s m wp) (hb : Below wp.heap.size wp wn) : cjS w g g0 C c0 vr vk vb vs r k s m wn := by
  obtain ⟨h1, h2, h3, h4, h5, h6⟩ := h
  exact ⟨below_cell hb (World.block_lt_of_cell? wp _ h1) h1, inRow_below h2 hb, inRow_below h3 hb, inRow_below h4 hb, inMat_below h5 hb, h6.trans (hb.mono h6.size)⟩
set_option maxRecDepth 100000 in
set_option maxHeartbeats 4000000 in
theorem lawConj_walk (a : Option Addr) (n c : Nat) (w : World) (hin : InBytes w w.heap.size a n) :
    Calls Try.prog 11 #[.slice a n c] w fun e w' => e = .returned (.bool true) ∧ Below w.heap.size w w' := by
  have hmax := hin.1
  unfold maxLen at hmax
  by_cases hbig : 1048576 < n
  · go_enter Try.func11, Try.ntmps11
    clear hin
    go_wp2
    go_ret
    exact ⟨rfl, Below.refl _ _⟩
  · have HI := hide hin
    clear hin
    go_enter Try.func11, Try.ntmps11
    go_wp2_with fail
    refine (makeImage_any n c a 0 _ _ HI.out (by omega) (by omega)).mono ?_
    rintro e w1 ⟨v0, R, C, f, rfl, him, ho1, hb1⟩
    have hR := him.r2; have hR1 := him.r1; have hC := him.c2; have hC1 := him.c1
    obtain ⟨g, cv, rfl⟩ := ownMat_some ho1 (by rw [mkM_len]; omega)
    rw [mkM_len] at *
    obtain ⟨g0, c0, hx0, -, -, -, hg0, -⟩ := ownMat_cell ho1 0 0 (by omega) (by omega)
    have hg : g < w1.heap.size := World.block_lt_of_cell? w1 _ hx0
    have HX0 := hide hx0
    have HM := hide him; have HIN := hide (inMat_own ho1); have HB1 := hide hb1
    -- the numbers
    have hrr : ∀ y, y < R → rs C f y ≤ C := fun y _ => rs_le C f y
    obtain ⟨r, hr⟩ : ∃ r, rowsL R C f = r := ⟨_, rfl⟩
    have hrn : r = natF R (rs C f) := hr.symm
    have HCO := hide (natF_ok hrr hR ⟨hC1, hC⟩); have HCC := hide (conj_conj hrr ⟨hR1, hR⟩ ⟨hC1, hC⟩); have HIQ := hide (stair_img (rr := rs C f) ⟨hR1, hR⟩ ⟨hC1, hC⟩)
    have HQR := hide (stair_rows hrr); have HQK := hide (stair_cols hrr hR ⟨hC1, hC⟩); have HIS := hide (stair_is (rr := rs C f) ⟨hR1, hR⟩ ⟨hC1, hC⟩); have HUN := hide (stair_unique (rr := rs C f) ⟨hR1, hR⟩ ⟨hC1, hC⟩)
    have HTT := hide (natF_total hrr hR ⟨hC1, hC⟩); have HSR := hide (natF_small hrr hR hC); have hkn := conj_natF hrr hR ⟨hC1, hC⟩
    have HSK := hide (natF_small (R := C) (rr := fun x => cnt (fun y => decide (x < rs C f y)) R) (C := R) (fun x _ => cnt_le _ _) hC hR)
    rw [← hkn] at HSK
    have HLK : Hid ((conjRes (natF R (rs C f)) C).length = C) := hide (by rw [hkn]; simp [natF, rowF_len])
    have HLR : Hid (r.length = R) := hide (by rw [← hr]; simp [rowsL, rowF_len])
    have HST : Hid (stairRes (natF R (rs C f)) C = mkM R C (stairF (natF R (rs C f)))) := hide (by rw [stairRes, if_pos HCO.out, Int.toNat_natCast]; congr 1; rw [← hrn]; exact HLR.out)
    rw [← hrn] at HCC HIQ HQR HQK HIS HUN HTT HSR HSK HLK HST
    obtain ⟨k, hk⟩ : ∃ k, conjRes r C = k := ⟨_, rfl⟩
    rw [hk] at HCC HQK HTT HSK HLK
    obtain ⟨s, hs⟩ : ∃ s, sortD r = s := ⟨_, rfl⟩
    rw [hs] at HCC
    obtain ⟨q, hq⟩ : ∃ q, stairF r = q := ⟨_, rfl⟩
    rw [hq] at HIQ HQR HQK HIS HUN HST
    obtain ⟨m, hm⟩ : ∃ m, mkM R C q = m := ⟨_, rfl⟩
    rw [hm] at HIS HUN HST
    obtain ⟨t, ht⟩ : ∃ t, r.sum = t := ⟨_, rfl⟩
    rw [ht] at HTT
    have HRS := hide hr; have HK := hide hk; have HSO := hide hs; have HQ := hide hm; have HTR := hide ht
    clear him ho1 hb1 hx0 hrn hr hk hs hq hm ht hkn hrr HCO
    go_wp2_with fail
    refine (rows_eq (.slice (some ⟨g, 0, none⟩) R cv) R C f r _ HIN.out HM.out HRS.out).mono ?_
    rintro e w2 ⟨vr, rfl, ho2, hb2⟩
    have hx0 := below_cell hb2 hg HX0.out
    have HX := hide hx0; have HR2 := hide (inRow_own ho2); have HB2 := hide (HB1.out.trans (hb2.mono HB1.out.size)); have hg2 := Nat.lt_of_lt_of_le hg hb2.size
    clear ho2 hb2 HX0 HIN HB1
    go_wp2_with fail
    refine (conj_eq vr r C k _ HR2.out HK.out).mono ?_
    rintro e w3 ⟨vk, rfl, ho3, hb3⟩
    have hk3 := inRow_own ho3
    obtain ⟨ak, ck, hvk, -⟩ := id hk3
    rw [HLK.out] at hvk
    subst hvk
    have HX3 := hide (below_cell hb3 hg2 HX.out); have HR3 := hide (inRow_below HR2.out hb3); have HK3 := hide hk3; have HB3 := hide (HB2.out.trans (hb3.mono HB2.out.size)); have hg3 := Nat.lt_of_lt_of_le hg2 hb3.size
    clear ho3 hb3 hk3 hx0 HX HR2 HB2
    go_wp2_with fail
    refine (conj_eq (.slice ak C ck) k R s _ HK3.out HCC.out).mono ?_
    rintro e w4 ⟨vb, rfl, ho4, hb4⟩
    have hx0 := below_cell hb4 hg3 HX3.out
    have HX4 := hide hx0; have HR4 := hide (inRow_below HR3.out hb4); have HK4 := hide (inRow_below HK3.out hb4); have HS4 := hide (inRow_own ho4); have HB4 := hide (HB3.out.trans (hb4.mono HB3.out.size)); have hg4 := Nat.lt_of_lt_of_le hg3 hb4.size
    clear ho4 hb4 HX3 HR3 HK3 HB3
    go_wp2_with fail
    refine (stair_eq vr r C m _ HR4.out HST.out).mono ?_
    rintro e w5 ⟨vs, rfl, ho5, hb5⟩
    have HX5 := hide (below_cell hb5 hg4 HX4.out); have HR5 := hide (inRow_below HR4.out hb5); have HK5 := hide (inRow_below HK4.out hb5); have HS5 := hide (inRow_below HS4.out hb5); have HM5 := hide (inMat_own ho5); have HB5 := hide (HB4.out.trans (hb5.mono HB4.out.size))
    clear ho5 hb5 hx0 HX4 HR4 HK4 HS4 HB4
    have hx0 := HX5.out
    have HS := hide (show cjS w g g0 C c0 vr (.slice ak C ck) vb vs r k s m w5 from ⟨HX5.out, HR5.out, HK5.out, HS5.out, HM5.out, HB5.out⟩)
    have HLR2 : Hid (r.length ≤ 1048576) := hide (by rw [HLR.out]; omega)
    clear HX5 HR5 HK5 HS5 HM5 HB5
    go_wp2_with fail
    refine (total_eq (.slice ak C ck) k t _ HS.out.2.2.1 HSK.out HTT.out).mono ?_
    rintro e w6 ⟨rfl, hb⟩
    replace HS := hide (cj_step HS.out hb)
    clear hx0
    clear hb
    go_wp2_with fail
    refine (total_eq vr r t _ HS.out.2.1 HSR.out HTR.out).mono ?_
    rintro e w7 ⟨rfl, hb⟩
    replace HS := hide (cj_step HS.out hb)
    clear hb
    go_wp2_with fail
    refine (sorted_eq vr r s _ HS.out.2.1 HLR2.out HSO.out).mono ?_
    rintro e w8 ⟨u8, rfl, ho, hb⟩
    replace HS := hide (cj_step HS.out hb)
    have HU := hide (inRow_own ho)
    clear hb ho
    go_wp2_with fail
    refine (same_yes vb _ s _ HS.out.2.2.2.1 HU.out).mono ?_
    rintro e w9 ⟨rfl, hb⟩
    replace HS := hide (cj_step HS.out hb)
    clear HU
    clear hb
    go_wp2_with fail
    refine (isStair_eq vs m _ HS.out.2.2.2.2.1 HIS.out).mono ?_
    rintro e w10 ⟨rfl, hb⟩
    replace HS := hide (cj_step HS.out hb)
    clear hb
    go_wp2_with fail
    refine (rows_eq vs R C q r _ (by rw [HQ.out]; exact HS.out.2.2.2.2.1) HIQ.out HQR.out).mono ?_
    rintro e w11 ⟨u11, rfl, ho, hb⟩
    replace HS := hide (cj_step HS.out hb)
    have HU := hide (inRow_own ho)
    clear hb ho
    go_wp2_with fail
    refine (same_yes _ vr r _ HU.out HS.out.2.1).mono ?_
    rintro e w12 ⟨rfl, hb⟩
    replace HS := hide (cj_step HS.out hb)
    clear HU
    clear hb
    go_wp2_with fail
    refine (cols_eq vs R C q k _ (by rw [HQ.out]; exact HS.out.2.2.2.2.1) HIQ.out HQK.out).mono ?_
    rintro e w13 ⟨u13, rfl, ho, hb⟩
    replace HS := hide (cj_step HS.out hb)
    have HU := hide (inRow_own ho)
    clear hb ho
    go_wp2_with fail
    refine (same_yes _ (.slice ak C ck) k _ HU.out HS.out.2.2.1).mono ?_
    rintro e w14 ⟨rfl, hb⟩
    replace HS := hide (cj_step HS.out hb)
    clear HU
    clear hb
    go_wp2_with fail
    refine (unique_eq vs m _ HS.out.2.2.2.2.1 HUN.out).mono ?_
    rintro e w15 ⟨rfl, hb⟩
    replace HS := hide (cj_step HS.out hb)
    clear hb
    go_wp2
    go_ret
    exact ⟨rfl, HS.out.2.2.2.2.2⟩
end Go.Proofs.Ytcliiefedmiokaa
