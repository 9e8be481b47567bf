/-
  Texts of this claim, one behind the other: Subs, LawsBL, LawsB, SpecE, Stair, LawsStair.
-/
import Derived.Test.YtecfigjkcpbggaaPackD
import Derived.Test.YtecfigjkcpbggaaPackC
/-
  slices.Clone at integers; sumsWithout of the program; slices with their capacity.
-/
namespace Go.Proofs.Ytecfigjkcpbggaa
open Go.RowKit

theorem clone_any (v : Value) (r : List Int) (w : World) (hin : InRow w v r) (hn : r.length ≤ 2000000) :
    Calls Try.prog 65 #[v] w (IntsRes r w) := by
  obtain ⟨a, c, rfl, hm, hp⟩ := hin
  by_cases h0 : r.length = 0
  · obtain rfl : r = [] := List.eq_nil_of_length_eq_zero h0
    cases a with
    | none =>
      refine (Try.slices_Clone_int_nil 0 c w).mono ?_
      rintro e w' ⟨rfl, rfl⟩
      exact intsRes_nil (Below.refl _ _)
    | some x =>
      refine (Try.slices_Clone_int_zero x c w).mono ?_
      rintro e w' ⟨v', rfl, ho, -, hb⟩
      exact ⟨v', rfl, ho, hb⟩
  · obtain ⟨g, o, rfl, -, hc⟩ := hp.resolve_left h0
    refine (Try.slices_Clone_int g o r.length c r w (Nat.le_refl _) (by omega) (fun j hj => ?_)).mono ?_
    · rw [hc j hj, List.getD_eq_getElem?_getD, List.getElem?_eq_getElem hj]; rfl
    rintro e w' ⟨v', rfl, ho, -, hb⟩
    rw [List.take_length] at ho
    exact ⟨v', rfl, ho, hb⟩
/-- What has been left behind k cells of the row. -/
def subF (c row : List Int) (k x : Nat) : Int := c.getD x 0 - if x < k then row.getD x 0 else 0
theorem subF_zero (c row : List Int) : tabL c.length (subF c row 0) = c := by
  rw [show tabL c.length (subF c row 0) = tabL c.length (fun x => c.getD x 0) from tabL_congr fun i _ => by rw [subF, if_neg (Nat.not_lt_zero _)]; simp]
  exact tabL_self c
theorem subF_all (c row : List Int) (k : Nat) (h : c.length ≤ k) : tabL c.length (subF c row k) = subL c row :=
  tabL_congr fun i hi => by rw [subF, if_pos (by omega)]
set_option maxHeartbeats 1000000 in
theorem sumsWithout_any (vc vr : Value) (c row : List Int) (w : World) (hc : InRow w vc c) (hr : InRow w vr row) (hl : row.length = c.length) (hn : c.length ≤ 5) (hM : ∀ x, x < c.length → -1000 ≤ c.getD x 0 ∧ c.getD x 0 ≤ 1000) (hR : ∀ x, x < c.length → -1000 ≤ row.getD x 0 ∧ row.getD x 0 ≤ 1000) :
    Calls Try.prog 53 #[vc, vr] w (IntsRes (subL c row) w) := by
  have HCL := hide (clone_any vc c w hc (by omega))
  have HM := hide hM; have HRR := hide hR
  obtain ⟨a, ca, rfl, hm, hp⟩ := hr
  unfold maxLen at hm
  have HP := hide fun h : row.length ≠ 0 => hp.resolve_left h
  have HZ := hide (subF_zero c row); have HA := hide (subF_all c row)
  have HX : Hid (∀ x, (h : x < row.length) → row.getD x 0 = row[x]) := hide fun x h => by rw [List.getD_eq_getElem?_getD, List.getElem?_eq_getElem h]; rfl
  rw [hl] at hm ⊢
  have HLL : Hid (row.length = c.length) := hide hl
  obtain ⟨C, hC⟩ : ∃ C, C = c.length := ⟨_, rfl⟩
  have HC := hide hC
  rw [← hC] at HZ HA hm hn HM HRR HLL ⊢
  clear hc hM hR hp hC hl
  go_enter Try.func53, Try.ntmps53
  go_wp2_with fail
  refine HCL.out.mono ?_
  rintro e w1 ⟨v1, rfl, ho, hb⟩
  rw [← HC.out] at ho
  obtain ⟨xa, xc, rfl⟩ := own_slice ho
  have HO := hide ho; have HB := hide hb
  clear ho hb
  go_wp2
  go_loopw [12] (fun i w' => ∃ k : Nat, k ≤ C ∧ i = .int .i64 k ∧ w'.ownsRow w.heap.size 3 1 (.slice xa C xc) C (ints (tabL C (subF c row k))) ∧ Below w.heap.size w w') (fun i _ => C - (intOf i).toNat)
  case atStart => exact ⟨0, Nat.zero_le _, rfl, by rw [HZ.out]; exact HO.out, HB.out⟩
  case round =>
    clear HO HB
    obtain ⟨k, hk, rfl, hown, hb⟩ := hrel
    have HO := hide hown; have HB := hide hb
    clear hb
    by_cases hlt : k < C
    · have hkr : k < row.length := by rw [HLL.out]; exact hlt
      obtain ⟨g, o, rfl, hg, hcell⟩ := HP.out (by omega)
      obtain ⟨g1, c1, he, hb1, -, -, -, -, -⟩ := own_some hown (by omega)
      cases he
      have hx := below_cell HB.out hg (hcell k hkr)
      rw [← HX.out k hkr] at hx
      have hc1 := cell_held HO.out hlt
      rw [tabL_held hlt, subF, if_neg (Nat.lt_irrefl k), Int.sub_zero] at hc1
      have hf := HO.out.frozenAt k
      have hm1 := HM.out k hlt
      have hm2 := HRR.out k hlt
      have HS := HO.out.stored k (.int .i64 (c.getD k 0 - row.getD k 0))
      rw [ints_set, tabL_set] at HS
      rw [show (tabL C fun t => if t = k then c.getD k 0 - row.getD k 0 else subF c row k t) = tabL C (subF c row (k + 1)) from tabL_congr fun i _ => by
        unfold subF
        by_cases e : i = k
        · subst e; rw [if_pos rfl, if_pos (Nat.lt_succ_self _)]
        · rw [if_neg e]
          by_cases e' : i < k
          · rw [if_pos e', if_pos (by omega)]
          · rw [if_neg e', if_neg (by omega)]] at HS
      have HS := hide HS
      obtain ⟨x1, hx1⟩ : ∃ x1, x1 = c.getD k 0 := ⟨_, rfl⟩
      obtain ⟨x2, hx2⟩ : ∃ x2, x2 = row.getD k 0 := ⟨_, rfl⟩
      rw [← hx1] at hc1 hm1 HS
      rw [← hx2] at hx hm2 HS
      obtain ⟨hm11, hm12⟩ := hm1
      obtain ⟨hm21, hm22⟩ := hm2
      clear hx1 hx2 hown hcell
      go_wp2
      go_roundw
      case rel => exact ⟨k + 1, by omega, by go_num, HS.out.1, HB.out.setCell hb1 _⟩
      case measure => simp [intOf]; omega
    · obtain rfl : k = C := by omega
      have HF := hide (HA.out k (Nat.le_refl _))
      rw [HF.out] at HO
      clear hown
      go_wp2
      go_ret
      exact ⟨_, rfl, by rw [subL_len, ← HC.out]; exact HO.out, HB.out⟩

/-- The slice reads as r, and its capacity is no less than its length. -/
def RowC (w : World) (v : Value) (r : List Int) : Prop := InRow w v r ∧ ∃ a c, v = .slice a r.length c ∧ r.length ≤ c ∧ c ≤ maxLen
theorem rowC_below {w w' : World} {v : Value} {r : List Int} (h : RowC w v r) (hb : Below w.heap.size w w') : RowC w' v r := ⟨inRow_below h.1 hb, h.2⟩
theorem rowC_own {w : World} {base : Nat} {v : Value} {r : List Int} (h : w.ownsRow base 3 1 v r.length (ints r)) : RowC w v r := by
  refine ⟨inRow_own h, ?_⟩
  rcases h.2 with ⟨rfl, h0⟩ | ⟨g, cap, cur, rfl, hbg, hg, hc, hm, _⟩
  · exact ⟨none, 0, by rw [h0], by omega, Nat.zero_le _⟩
  · exact ⟨_, _, rfl, hc, hm⟩
theorem rowC_tail {w : World} {g o n c : Nat} {x : Int} {r : List Int} (h : RowC w (.slice (some ⟨g, o, none⟩) n c) (x :: r)) : RowC w (.slice (if c = 1 then some ⟨g, o, none⟩ else some ⟨g, o + 1, none⟩) (n - 1) (c - 1)) r := by
  obtain ⟨⟨a, c', he, hm, hp⟩, a2, c2, he2, hl, hmx⟩ := h
  cases he; cases he2
  simp only [List.length_cons, Nat.add_sub_cancel] at hl hm ⊢
  refine ⟨⟨_, _, rfl, by omega, ?_⟩, _, _, rfl, by omega, by omega⟩
  obtain ⟨g', o', he', hg, hc⟩ := hp.resolve_left (by simp)
  cases he'
  by_cases h0 : r.length = 0
  · exact .inl h0
  · rw [if_neg (by omega)]
    refine .inr ⟨g, o + 1, rfl, hg, fun i hi => ?_⟩
    have := hc (i + 1) (by simp; omega)
    rw [List.getElem_cons_succ] at this
    rw [← this, show o + (i + 1) = o + 1 + i by omega]
end Go.Proofs.Ytecfigjkcpbggaa
/-
  The exact laws on BuildImage and LeastImage, walked.
-/
namespace Go.Proofs.Ytecfigjkcpbggaa
open Go.RowKit
set_option linter.unusedVariables false

set_option maxRecDepth 100000 in
set_option maxHeartbeats 2000000 in
theorem lawBuildImage_gen (a0 : Option Addr) (n0 c0 : Nat) (r0 : List Int) (a1 : Option Addr) (n1 c1 : Nat) (r1 : List Int) (w : World) (hin0 : InRow w (.slice a0 n0 c0) r0) (hin1 : InRow w (.slice a1 n1 c1) r1) (rows : List (List Int)) (b : Bool) (hrows : rows.length + cellsM rows ≤ 1000000)
    (hs : ∀ (v0 : Value) (v1 : Value) (w : World), RowC w v0 r0 → RowC w v1 r1 → Calls Try.prog 8 #[v0, v1] w (MatRes2 rows b w))
    (hi : ∀ (v0 : Value) (v1 : Value) (w : World), RowC w v0 r0 → RowC w v1 r1 → Calls Try.prog 10 #[v0, v1] w (MatRes2 rows b w)) :
    Calls Try.prog 3 #[.slice a0 n0 c0, .slice a1 n1 c1] w fun e w' => e = .returned (.bool true) ∧ Below w.heap.size w w' := by
  have HI0 := hide hin0
  obtain ⟨a', c', he, hm0, -⟩ := hin0
  cases he
  unfold maxLen at hm0
  have HI1 := hide hin1
  obtain ⟨a', c', he, hm1, -⟩ := hin1
  cases he
  unfold maxLen at hm1
  by_cases hr0 : 1048576 < r0.length
  · clear hs hi
    obtain ⟨R0, hR0⟩ : ∃ R0, R0 = r0.length := ⟨_, rfl⟩
    obtain ⟨R1, hR1⟩ : ∃ R1, R1 = r1.length := ⟨_, rfl⟩
    rw [← hR0] at HI0 hm0 hr0 ⊢
    rw [← hR1] at HI1 hm1 ⊢
    clear hR0 hR1
    go_enter Try.func3, Try.ntmps3
    go_wp2
    go_ret
    exact ⟨rfl, Below.refl _ _⟩
  · by_cases hr1 : 1048576 < r1.length
    · clear hs hi
      obtain ⟨R0, hR0⟩ : ∃ R0, R0 = r0.length := ⟨_, rfl⟩
      obtain ⟨R1, hR1⟩ : ∃ R1, R1 = r1.length := ⟨_, rfl⟩
      rw [← hR0] at HI0 hm0 hr0 ⊢
      rw [← hR1] at HI1 hm1 hr1 ⊢
      clear hR0 hR1
      go_enter Try.func3, Try.ntmps3
      go_wp2
      go_ret
      exact ⟨rfl, Below.refl _ _⟩
    · have HS := hide hs; have HM := hide hi
      have HR0 : Hid (r0.length ≤ 2000000) := hide (by omega)
      have HR1 : Hid (r1.length ≤ 2000000) := hide (by omega)
      have hbb : (b != b) = false := by cases b <;> rfl
      clear hs hi
      go_enter Try.func3, Try.ntmps3
      go_wp2_with fail
      refine (toIntS_any _ r0 _ HR0.out HI0.out).mono ?_
      rintro e w1 ⟨p0, rfl, ho, hb⟩
      have P0L := hide (fun k e => ho.lt k e); have P0_1 := hide ho; have HB1 := hide (hb); have s1 := hb.size; clear ho hb
      go_wp2_with fail
      refine (toIntS_any _ r1 _ HR1.out (inRow_below HI1.out HB1.out)).mono ?_
      rintro e w2 ⟨p1, rfl, ho, hb⟩
      have P0_2 := hide (own_below P0_1.out hb); have P1L := hide (fun k e => ho.lt k e); have P1_2 := hide ho; have HB2 := hide (HB1.out.trans (hb.mono HB1.out.size)); have s2 := hb.size; clear ho hb
      go_wp2_with fail
      refine (HS.out p0 p1 _ (rowC_own P0_2.out) (rowC_own P1_2.out)).mono ?_
      rintro e w3 ⟨u, rfl, ho, hb⟩
      have U_3 := hide ho; have HB3 := hide (HB2.out.trans (hb.mono HB2.out.size)); have s3 := hb.size; clear ho hb
      go_wp2_with fail
      refine (toIntS_any _ r0 _ HR0.out (inRow_below HI0.out HB3.out)).mono ?_
      rintro e w4 ⟨x0, rfl, ho, hb⟩
      have U_4 := hide (ownMat_below U_3.out hb); have X0L := hide (fun k e => ho.lt k e); have X0_4 := hide ho; have HB4 := hide (HB3.out.trans (hb.mono HB3.out.size)); have s4 := hb.size; clear ho hb
      go_wp2_with fail
      refine (toIntS_any _ r1 _ HR1.out (inRow_below HI1.out HB4.out)).mono ?_
      rintro e w5 ⟨x1, rfl, ho, hb⟩
      have U_5 := hide (ownMat_below U_4.out hb); have X0_5 := hide (own_below X0_4.out hb); have X1L := hide (fun k e => ho.lt k e); have X1_5 := hide ho; have HB5 := hide (HB4.out.trans (hb.mono HB4.out.size)); have s5 := hb.size; clear ho hb
      go_wp2_with fail
      refine (HM.out x0 x1 _ (rowC_own X0_5.out) (rowC_own X1_5.out)).mono ?_
      rintro e w6 ⟨g, rfl, ho, hb⟩
      have U_6 := hide (ownMat_below U_5.out hb); have X0_6 := hide (own_below X0_5.out hb); have X1_6 := hide (own_below X1_5.out hb); have G_6 := hide ho; have HB6 := hide (HB5.out.trans (hb.mono HB5.out.size)); have s6 := hb.size; clear ho hb
      go_wp2_with fail
      refine (eqIntSS_same g u rows _ (inMat_own G_6.out) (inMat_own U_6.out)).mono ?_
      rintro e w7 ⟨rfl, hb⟩
      have U_7 := hide (ownMat_below U_6.out hb); have X0_7 := hide (own_below X0_6.out hb); have X1_7 := hide (own_below X1_6.out hb); have G_7 := hide (ownMat_below G_6.out hb); have HB7 := hide (HB6.out.trans (hb.mono HB6.out.size)); have s7 := hb.size; clear hb
      go_wp2_with fail
      refine (toIntS_any _ r0 _ HR0.out (inRow_below HI0.out HB7.out)).mono ?_
      rintro e w8 ⟨z0, rfl, ho, hb⟩
      have U_8 := hide (ownMat_below U_7.out hb); have X0_8 := hide (own_below X0_7.out hb); have X1_8 := hide (own_below X1_7.out hb); have G_8 := hide (ownMat_below G_7.out hb); have Z0L := hide (fun k e => ho.lt k e); have Z0_8 := hide ho; have HB8 := hide (HB7.out.trans (hb.mono HB7.out.size)); have s8 := hb.size; clear ho hb
      go_wp2_with fail
      refine (eqIntS_same x0 z0 r0 _ (inRow_own X0_8.out) (inRow_own Z0_8.out)).mono ?_
      rintro e w9 ⟨rfl, hb⟩
      have U_9 := hide (ownMat_below U_8.out hb); have X0_9 := hide (own_below X0_8.out hb); have X1_9 := hide (own_below X1_8.out hb); have G_9 := hide (ownMat_below G_8.out hb); have HB9 := hide (HB8.out.trans (hb.mono HB8.out.size)); have s9 := hb.size; clear hb
      go_wp2_with fail
      refine (toIntS_any _ r1 _ HR1.out (inRow_below HI1.out HB9.out)).mono ?_
      rintro e w10 ⟨z1, rfl, ho, hb⟩
      have U_10 := hide (ownMat_below U_9.out hb); have X0_10 := hide (own_below X0_9.out hb); have X1_10 := hide (own_below X1_9.out hb); have G_10 := hide (ownMat_below G_9.out hb); have Z1L := hide (fun k e => ho.lt k e); have Z1_10 := hide ho; have HB10 := hide (HB9.out.trans (hb.mono HB9.out.size)); have s10 := hb.size; clear ho hb
      go_wp2_with fail
      refine (eqIntS_same x1 z1 r1 _ (inRow_own X1_10.out) (inRow_own Z1_10.out)).mono ?_
      rintro e w11 ⟨rfl, hb⟩
      have U_11 := hide (ownMat_below U_10.out hb); have X0_11 := hide (own_below X0_10.out hb); have X1_11 := hide (own_below X1_10.out hb); have G_11 := hide (ownMat_below G_10.out hb); have HB11 := hide (HB10.out.trans (hb.mono HB10.out.size)); have s11 := hb.size; clear hb
      go_wp2_with fail
      refine (markIntS_any r0.length 1 x0 _ _ _ (by have := HR0.out; omega) (by omega) X0_11.out).mono ?_
      rintro e w12 ⟨rfl, -, hg⟩; have hwi := within_grown (lo := w3.heap.size) (hi := w4.heap.size) hg (fun k e => X0L.out k e); clear hg
      have U_12 := hide (ownMat_within U_11.out hwi (by omega)); have X1_12 := hide (own_within X1_11.out hwi (fun k e => by have h1 := X1L.out k e; omega)); have G_12 := hide (ownMat_within G_11.out hwi (by omega)); have HB12 := hide (HB11.out.trans (below_within hwi (by omega) HB11.out.size)); have s12 := hwi.size; clear hwi
      go_wp2_with fail
      refine (markIntS_any r1.length (1 + r0.length) x1 _ _ _ (by have := HR1.out; omega) (by have := HR0.out; omega) X1_12.out).mono ?_
      rintro e w13 ⟨rfl, -, hg⟩; have hwi := within_grown (lo := w4.heap.size) (hi := w5.heap.size) hg (fun k e => X1L.out k e); clear hg
      have U_13 := hide (ownMat_within U_12.out hwi (by omega)); have G_13 := hide (ownMat_within G_12.out hwi (by omega)); have HB13 := hide (HB12.out.trans (below_within hwi (by omega) HB12.out.size)); have s13 := hwi.size; clear hwi
      go_wp2_with fail
      refine (eqIntSS_same g u rows _ (inMat_own G_13.out) (inMat_own U_13.out)).mono ?_
      rintro e w14 ⟨rfl, hb⟩
      have U_14 := hide (ownMat_below U_13.out hb); have G_14 := hide (ownMat_below G_13.out hb); have HB14 := hide (HB13.out.trans (hb.mono HB13.out.size)); have s14 := hb.size; clear hb
      go_wp2_with fail
      refine (markIntSS_any rows 1 _ _ g _ (by omega) (by omega) G_14.out).mono ?_
      rintro e w15 ⟨rfl, ho, hwi⟩
      have U_15 := hide (ownMat_within U_14.out hwi (by omega)); have HB15 := hide (HB14.out.trans (below_within hwi (by omega) HB14.out.size)); have s15 := hwi.size; clear hwi
      have M_15 := hide (inMat_own ho); clear ho
      go_wp2_with fail
      refine (heldIntSS_any rows 1 g _ (by omega) (by omega) M_15.out).mono ?_
      rintro e w16 ⟨rfl, hb⟩
      have U_16 := hide (ownMat_below U_15.out hb); have M_16 := hide (inMat_below M_15.out hb); have HB16 := hide (HB15.out.trans (hb.mono HB15.out.size)); have s16 := hb.size; clear hb
      go_wp2_with fail
      refine (toIntS_any _ r0 _ HR0.out (inRow_below HI0.out HB16.out)).mono ?_
      rintro e w17 ⟨y0, rfl, ho, hb⟩
      have U_17 := hide (ownMat_below U_16.out hb); have M_17 := hide (inMat_below M_16.out hb); have Y0L := hide (fun k e => ho.lt k e); have Y0_17 := hide ho; have HB17 := hide (HB16.out.trans (hb.mono HB16.out.size)); have s17 := hb.size; clear ho hb
      go_wp2_with fail
      refine (toIntS_any _ r1 _ HR1.out (inRow_below HI1.out HB17.out)).mono ?_
      rintro e w18 ⟨y1, rfl, ho, hb⟩
      have U_18 := hide (ownMat_below U_17.out hb); have M_18 := hide (inMat_below M_17.out hb); have Y0_18 := hide (own_below Y0_17.out hb); have Y1L := hide (fun k e => ho.lt k e); have Y1_18 := hide ho; have HB18 := hide (HB17.out.trans (hb.mono HB17.out.size)); have s18 := hb.size; clear ho hb
      go_wp2_with fail
      refine (HM.out y0 y1 _ (rowC_own Y0_18.out) (rowC_own Y1_18.out)).mono ?_
      rintro e w19 ⟨h, rfl, ho, hb⟩
      have U_19 := hide (ownMat_below U_18.out hb); have M_19 := hide (inMat_below M_18.out hb); have H_19 := hide ho; have HB19 := hide (HB18.out.trans (hb.mono HB18.out.size)); have s19 := hb.size; clear ho hb
      go_wp2_with fail
      refine (eqIntSS_same h u rows _ (inMat_own H_19.out) (inMat_own U_19.out)).mono ?_
      rintro e w20 ⟨rfl, hb⟩
      have U_20 := hide (ownMat_below U_19.out hb); have M_20 := hide (inMat_below M_19.out hb); have H_20 := hide (ownMat_below H_19.out hb); have HB20 := hide (HB19.out.trans (hb.mono HB19.out.size)); have s20 := hb.size; clear hb
      go_wp2_with fail
      refine (heldIntSS_any rows 1 g _ (by omega) (by omega) M_20.out).mono ?_
      rintro e w21 ⟨rfl, hb⟩
      have M_21 := hide (inMat_below M_20.out hb); have HB21 := hide (HB20.out.trans (hb.mono HB20.out.size)); have s21 := hb.size; clear hb
      go_wp2
      go_ret
      exact ⟨rfl, HB21.out⟩

set_option maxRecDepth 100000 in
set_option maxHeartbeats 2000000 in
theorem lawLeastImage_gen (a0 : Option Addr) (n0 c0 : Nat) (r0 : List Int) (a1 : Option Addr) (n1 c1 : Nat) (r1 : List Int) (w : World) (hin0 : InRow w (.slice a0 n0 c0) r0) (hin1 : InRow w (.slice a1 n1 c1) r1) (rows : List (List Int)) (b : Bool) (hrows : rows.length + cellsM rows ≤ 1000000)
    (hs : ∀ (v0 : Value) (v1 : Value) (w : World), RowC w v0 r0 → RowC w v1 r1 → Calls Try.prog 16 #[v0, v1] w (MatRes2 rows b w))
    (hi : ∀ (v0 : Value) (v1 : Value) (w : World), RowC w v0 r0 → RowC w v1 r1 → Calls Try.prog 17 #[v0, v1] w (MatRes2 rows b w)) :
    Calls Try.prog 4 #[.slice a0 n0 c0, .slice a1 n1 c1] w fun e w' => e = .returned (.bool true) ∧ Below w.heap.size w w' := by
  have HI0 := hide hin0
  obtain ⟨a', c', he, hm0, -⟩ := hin0
  cases he
  unfold maxLen at hm0
  have HI1 := hide hin1
  obtain ⟨a', c', he, hm1, -⟩ := hin1
  cases he
  unfold maxLen at hm1
  by_cases hr0 : 1048576 < r0.length
  · clear hs hi
    obtain ⟨R0, hR0⟩ : ∃ R0, R0 = r0.length := ⟨_, rfl⟩
    obtain ⟨R1, hR1⟩ : ∃ R1, R1 = r1.length := ⟨_, rfl⟩
    rw [← hR0] at HI0 hm0 hr0 ⊢
    rw [← hR1] at HI1 hm1 ⊢
    clear hR0 hR1
    go_enter Try.func4, Try.ntmps4
    go_wp2
    go_ret
    exact ⟨rfl, Below.refl _ _⟩
  · by_cases hr1 : 1048576 < r1.length
    · clear hs hi
      obtain ⟨R0, hR0⟩ : ∃ R0, R0 = r0.length := ⟨_, rfl⟩
      obtain ⟨R1, hR1⟩ : ∃ R1, R1 = r1.length := ⟨_, rfl⟩
      rw [← hR0] at HI0 hm0 hr0 ⊢
      rw [← hR1] at HI1 hm1 hr1 ⊢
      clear hR0 hR1
      go_enter Try.func4, Try.ntmps4
      go_wp2
      go_ret
      exact ⟨rfl, Below.refl _ _⟩
    · have HS := hide hs; have HM := hide hi
      have HR0 : Hid (r0.length ≤ 2000000) := hide (by omega)
      have HR1 : Hid (r1.length ≤ 2000000) := hide (by omega)
      have hbb : (b != b) = false := by cases b <;> rfl
      clear hs hi
      go_enter Try.func4, Try.ntmps4
      go_wp2_with fail
      refine (toIntS_any _ r0 _ HR0.out HI0.out).mono ?_
      rintro e w1 ⟨p0, rfl, ho, hb⟩
      have P0L := hide (fun k e => ho.lt k e); have P0_1 := hide ho; have HB1 := hide (hb); have s1 := hb.size; clear ho hb
      go_wp2_with fail
      refine (toIntS_any _ r1 _ HR1.out (inRow_below HI1.out HB1.out)).mono ?_
      rintro e w2 ⟨p1, rfl, ho, hb⟩
      have P0_2 := hide (own_below P0_1.out hb); have P1L := hide (fun k e => ho.lt k e); have P1_2 := hide ho; have HB2 := hide (HB1.out.trans (hb.mono HB1.out.size)); have s2 := hb.size; clear ho hb
      go_wp2_with fail
      refine (HS.out p0 p1 _ (rowC_own P0_2.out) (rowC_own P1_2.out)).mono ?_
      rintro e w3 ⟨u, rfl, ho, hb⟩
      have U_3 := hide ho; have HB3 := hide (HB2.out.trans (hb.mono HB2.out.size)); have s3 := hb.size; clear ho hb
      go_wp2_with fail
      refine (toIntS_any _ r0 _ HR0.out (inRow_below HI0.out HB3.out)).mono ?_
      rintro e w4 ⟨x0, rfl, ho, hb⟩
      have U_4 := hide (ownMat_below U_3.out hb); have X0L := hide (fun k e => ho.lt k e); have X0_4 := hide ho; have HB4 := hide (HB3.out.trans (hb.mono HB3.out.size)); have s4 := hb.size; clear ho hb
      go_wp2_with fail
      refine (toIntS_any _ r1 _ HR1.out (inRow_below HI1.out HB4.out)).mono ?_
      rintro e w5 ⟨x1, rfl, ho, hb⟩
      have U_5 := hide (ownMat_below U_4.out hb); have X0_5 := hide (own_below X0_4.out hb); have X1L := hide (fun k e => ho.lt k e); have X1_5 := hide ho; have HB5 := hide (HB4.out.trans (hb.mono HB4.out.size)); have s5 := hb.size; clear ho hb
      go_wp2_with fail
      refine (HM.out x0 x1 _ (rowC_own X0_5.out) (rowC_own X1_5.out)).mono ?_
      rintro e w6 ⟨g, rfl, ho, hb⟩
      have U_6 := hide (ownMat_below U_5.out hb); have X0_6 := hide (own_below X0_5.out hb); have X1_6 := hide (own_below X1_5.out hb); have G_6 := hide ho; have HB6 := hide (HB5.out.trans (hb.mono HB5.out.size)); have s6 := hb.size; clear ho hb
      go_wp2_with fail
      refine (eqIntSS_same g u rows _ (inMat_own G_6.out) (inMat_own U_6.out)).mono ?_
      rintro e w7 ⟨rfl, hb⟩
      have U_7 := hide (ownMat_below U_6.out hb); have X0_7 := hide (own_below X0_6.out hb); have X1_7 := hide (own_below X1_6.out hb); have G_7 := hide (ownMat_below G_6.out hb); have HB7 := hide (HB6.out.trans (hb.mono HB6.out.size)); have s7 := hb.size; clear hb
      go_wp2_with fail
      refine (toIntS_any _ r0 _ HR0.out (inRow_below HI0.out HB7.out)).mono ?_
      rintro e w8 ⟨z0, rfl, ho, hb⟩
      have U_8 := hide (ownMat_below U_7.out hb); have X0_8 := hide (own_below X0_7.out hb); have X1_8 := hide (own_below X1_7.out hb); have G_8 := hide (ownMat_below G_7.out hb); have Z0L := hide (fun k e => ho.lt k e); have Z0_8 := hide ho; have HB8 := hide (HB7.out.trans (hb.mono HB7.out.size)); have s8 := hb.size; clear ho hb
      go_wp2_with fail
      refine (eqIntS_same x0 z0 r0 _ (inRow_own X0_8.out) (inRow_own Z0_8.out)).mono ?_
      rintro e w9 ⟨rfl, hb⟩
      have U_9 := hide (ownMat_below U_8.out hb); have X0_9 := hide (own_below X0_8.out hb); have X1_9 := hide (own_below X1_8.out hb); have G_9 := hide (ownMat_below G_8.out hb); have HB9 := hide (HB8.out.trans (hb.mono HB8.out.size)); have s9 := hb.size; clear hb
      go_wp2_with fail
      refine (toIntS_any _ r1 _ HR1.out (inRow_below HI1.out HB9.out)).mono ?_
      rintro e w10 ⟨z1, rfl, ho, hb⟩
      have U_10 := hide (ownMat_below U_9.out hb); have X0_10 := hide (own_below X0_9.out hb); have X1_10 := hide (own_below X1_9.out hb); have G_10 := hide (ownMat_below G_9.out hb); have Z1L := hide (fun k e => ho.lt k e); have Z1_10 := hide ho; have HB10 := hide (HB9.out.trans (hb.mono HB9.out.size)); have s10 := hb.size; clear ho hb
      go_wp2_with fail
      refine (eqIntS_same x1 z1 r1 _ (inRow_own X1_10.out) (inRow_own Z1_10.out)).mono ?_
      rintro e w11 ⟨rfl, hb⟩
      have U_11 := hide (ownMat_below U_10.out hb); have X0_11 := hide (own_below X0_10.out hb); have X1_11 := hide (own_below X1_10.out hb); have G_11 := hide (ownMat_below G_10.out hb); have HB11 := hide (HB10.out.trans (hb.mono HB10.out.size)); have s11 := hb.size; clear hb
      go_wp2_with fail
      refine (markIntS_any r0.length 1 x0 _ _ _ (by have := HR0.out; omega) (by omega) X0_11.out).mono ?_
      rintro e w12 ⟨rfl, -, hg⟩; have hwi := within_grown (lo := w3.heap.size) (hi := w4.heap.size) hg (fun k e => X0L.out k e); clear hg
      have U_12 := hide (ownMat_within U_11.out hwi (by omega)); have X1_12 := hide (own_within X1_11.out hwi (fun k e => by have h1 := X1L.out k e; omega)); have G_12 := hide (ownMat_within G_11.out hwi (by omega)); have HB12 := hide (HB11.out.trans (below_within hwi (by omega) HB11.out.size)); have s12 := hwi.size; clear hwi
      go_wp2_with fail
      refine (markIntS_any r1.length (1 + r0.length) x1 _ _ _ (by have := HR1.out; omega) (by have := HR0.out; omega) X1_12.out).mono ?_
      rintro e w13 ⟨rfl, -, hg⟩; have hwi := within_grown (lo := w4.heap.size) (hi := w5.heap.size) hg (fun k e => X1L.out k e); clear hg
      have U_13 := hide (ownMat_within U_12.out hwi (by omega)); have G_13 := hide (ownMat_within G_12.out hwi (by omega)); have HB13 := hide (HB12.out.trans (below_within hwi (by omega) HB12.out.size)); have s13 := hwi.size; clear hwi
      go_wp2_with fail
      refine (eqIntSS_same g u rows _ (inMat_own G_13.out) (inMat_own U_13.out)).mono ?_
      rintro e w14 ⟨rfl, hb⟩
      have U_14 := hide (ownMat_below U_13.out hb); have G_14 := hide (ownMat_below G_13.out hb); have HB14 := hide (HB13.out.trans (hb.mono HB13.out.size)); have s14 := hb.size; clear hb
      go_wp2_with fail
      refine (markIntSS_any rows 1 _ _ g _ (by omega) (by omega) G_14.out).mono ?_
      rintro e w15 ⟨rfl, ho, hwi⟩
      have U_15 := hide (ownMat_within U_14.out hwi (by omega)); have HB15 := hide (HB14.out.trans (below_within hwi (by omega) HB14.out.size)); have s15 := hwi.size; clear hwi
      have M_15 := hide (inMat_own ho); clear ho
      go_wp2_with fail
      refine (heldIntSS_any rows 1 g _ (by omega) (by omega) M_15.out).mono ?_
      rintro e w16 ⟨rfl, hb⟩
      have U_16 := hide (ownMat_below U_15.out hb); have M_16 := hide (inMat_below M_15.out hb); have HB16 := hide (HB15.out.trans (hb.mono HB15.out.size)); have s16 := hb.size; clear hb
      go_wp2_with fail
      refine (toIntS_any _ r0 _ HR0.out (inRow_below HI0.out HB16.out)).mono ?_
      rintro e w17 ⟨y0, rfl, ho, hb⟩
      have U_17 := hide (ownMat_below U_16.out hb); have M_17 := hide (inMat_below M_16.out hb); have Y0L := hide (fun k e => ho.lt k e); have Y0_17 := hide ho; have HB17 := hide (HB16.out.trans (hb.mono HB16.out.size)); have s17 := hb.size; clear ho hb
      go_wp2_with fail
      refine (toIntS_any _ r1 _ HR1.out (inRow_below HI1.out HB17.out)).mono ?_
      rintro e w18 ⟨y1, rfl, ho, hb⟩
      have U_18 := hide (ownMat_below U_17.out hb); have M_18 := hide (inMat_below M_17.out hb); have Y0_18 := hide (own_below Y0_17.out hb); have Y1L := hide (fun k e => ho.lt k e); have Y1_18 := hide ho; have HB18 := hide (HB17.out.trans (hb.mono HB17.out.size)); have s18 := hb.size; clear ho hb
      go_wp2_with fail
      refine (HM.out y0 y1 _ (rowC_own Y0_18.out) (rowC_own Y1_18.out)).mono ?_
      rintro e w19 ⟨h, rfl, ho, hb⟩
      have U_19 := hide (ownMat_below U_18.out hb); have M_19 := hide (inMat_below M_18.out hb); have H_19 := hide ho; have HB19 := hide (HB18.out.trans (hb.mono HB18.out.size)); have s19 := hb.size; clear ho hb
      go_wp2_with fail
      refine (eqIntSS_same h u rows _ (inMat_own H_19.out) (inMat_own U_19.out)).mono ?_
      rintro e w20 ⟨rfl, hb⟩
      have U_20 := hide (ownMat_below U_19.out hb); have M_20 := hide (inMat_below M_19.out hb); have H_20 := hide (ownMat_below H_19.out hb); have HB20 := hide (HB19.out.trans (hb.mono HB19.out.size)); have s20 := hb.size; clear hb
      go_wp2_with fail
      refine (heldIntSS_any rows 1 g _ (by omega) (by omega) M_20.out).mono ?_
      rintro e w21 ⟨rfl, hb⟩
      have M_21 := hide (inMat_below M_20.out hb); have HB21 := hide (HB20.out.trans (hb.mono HB20.out.size)); have s21 := hb.size; clear hb
      go_wp2
      go_ret
      exact ⟨rfl, HB21.out⟩
end Go.Proofs.Ytecfigjkcpbggaa
/-
  The exact laws that answer an image out of sums, walked.
-/
namespace Go.Proofs.Ytecfigjkcpbggaa
open Go.RowKit
set_option linter.unusedVariables false

set_option maxRecDepth 100000 in
set_option maxHeartbeats 2000000 in
theorem lawStaircaseOf_gen (a0 : Option Addr) (n0 c0 : Nat) (r0 : List Int) (m1 : Int) (w : World) (hin0 : InRow w (.slice a0 n0 c0) r0) (rows : List (List Int)) (hrows : rows.length + cellsM rows ≤ 1000000)
    (hs : ∀ (v0 : Value) (w : World), InRow w v0 r0 → Calls Try.prog 24 #[v0, .int .i64 m1] w (MatRes rows w))
    (hi : ∀ (v0 : Value) (w : World), InRow w v0 r0 → Calls Try.prog 25 #[v0, .int .i64 m1] w (MatRes rows w)) :
    Calls Try.prog 7 #[.slice a0 n0 c0, .int .i64 m1] w fun e w' => e = .returned (.bool true) ∧ Below w.heap.size w w' := by
  have HI0 := hide hin0
  obtain ⟨a', c', he, hm0, -⟩ := hin0
  cases he
  unfold maxLen at hm0
  by_cases hr0 : 1048576 < r0.length
  · clear hs hi
    obtain ⟨R0, hR0⟩ : ∃ R0, R0 = r0.length := ⟨_, rfl⟩
    rw [← hR0] at HI0 hm0 hr0 ⊢
    clear hR0
    go_enter Try.func7, Try.ntmps7
    go_wp2
    go_ret
    exact ⟨rfl, Below.refl _ _⟩
  · have HS := hide hs; have HM := hide hi
    have HR0 : Hid (r0.length ≤ 2000000) := hide (by omega)
    clear hs hi
    go_enter Try.func7, Try.ntmps7
    go_wp2_with fail
    refine (toIntS_any _ r0 _ HR0.out HI0.out).mono ?_
    rintro e w1 ⟨p0, rfl, ho, hb⟩
    have P0L := hide (fun k e => ho.lt k e); have P0_1 := hide ho; have HB1 := hide (hb); have s1 := hb.size; clear ho hb
    go_wp2_with fail
    refine (HS.out p0 _ (inRow_own P0_1.out)).mono ?_
    rintro e w2 ⟨u, rfl, ho, hb⟩
    have U_2 := hide ho; have HB2 := hide (HB1.out.trans (hb.mono HB1.out.size)); have s2 := hb.size; clear ho hb
    go_wp2_with fail
    refine (toIntS_any _ r0 _ HR0.out (inRow_below HI0.out HB2.out)).mono ?_
    rintro e w3 ⟨x0, rfl, ho, hb⟩
    have U_3 := hide (ownMat_below U_2.out hb); have X0L := hide (fun k e => ho.lt k e); have X0_3 := hide ho; have HB3 := hide (HB2.out.trans (hb.mono HB2.out.size)); have s3 := hb.size; clear ho hb
    go_wp2_with fail
    refine (HM.out x0 _ (inRow_own X0_3.out)).mono ?_
    rintro e w4 ⟨g, rfl, ho, hb⟩
    have U_4 := hide (ownMat_below U_3.out hb); have X0_4 := hide (own_below X0_3.out hb); have G_4 := hide ho; have HB4 := hide (HB3.out.trans (hb.mono HB3.out.size)); have s4 := hb.size; clear ho hb
    go_wp2_with fail
    refine (eqIntSS_same g u rows _ (inMat_own G_4.out) (inMat_own U_4.out)).mono ?_
    rintro e w5 ⟨rfl, hb⟩
    have U_5 := hide (ownMat_below U_4.out hb); have X0_5 := hide (own_below X0_4.out hb); have G_5 := hide (ownMat_below G_4.out hb); have HB5 := hide (HB4.out.trans (hb.mono HB4.out.size)); have s5 := hb.size; clear hb
    go_wp2_with fail
    refine (toIntS_any _ r0 _ HR0.out (inRow_below HI0.out HB5.out)).mono ?_
    rintro e w6 ⟨z0, rfl, ho, hb⟩
    have U_6 := hide (ownMat_below U_5.out hb); have X0_6 := hide (own_below X0_5.out hb); have G_6 := hide (ownMat_below G_5.out hb); have Z0L := hide (fun k e => ho.lt k e); have Z0_6 := hide ho; have HB6 := hide (HB5.out.trans (hb.mono HB5.out.size)); have s6 := hb.size; clear ho hb
    go_wp2_with fail
    refine (eqIntS_same x0 z0 r0 _ (inRow_own X0_6.out) (inRow_own Z0_6.out)).mono ?_
    rintro e w7 ⟨rfl, hb⟩
    have U_7 := hide (ownMat_below U_6.out hb); have X0_7 := hide (own_below X0_6.out hb); have G_7 := hide (ownMat_below G_6.out hb); have HB7 := hide (HB6.out.trans (hb.mono HB6.out.size)); have s7 := hb.size; clear hb
    go_wp2_with fail
    refine (markIntS_any r0.length 1 x0 _ _ _ (by have := HR0.out; omega) (by omega) X0_7.out).mono ?_
    rintro e w8 ⟨rfl, -, hg⟩; have hwi := within_grown (lo := w2.heap.size) (hi := w3.heap.size) hg (fun k e => X0L.out k e); clear hg
    have U_8 := hide (ownMat_within U_7.out hwi (by omega)); have G_8 := hide (ownMat_within G_7.out hwi (by omega)); have HB8 := hide (HB7.out.trans (below_within hwi (by omega) HB7.out.size)); have s8 := hwi.size; clear hwi
    go_wp2_with fail
    refine (eqIntSS_same g u rows _ (inMat_own G_8.out) (inMat_own U_8.out)).mono ?_
    rintro e w9 ⟨rfl, hb⟩
    have U_9 := hide (ownMat_below U_8.out hb); have G_9 := hide (ownMat_below G_8.out hb); have HB9 := hide (HB8.out.trans (hb.mono HB8.out.size)); have s9 := hb.size; clear hb
    go_wp2_with fail
    refine (markIntSS_any rows 1 _ _ g _ (by omega) (by omega) G_9.out).mono ?_
    rintro e w10 ⟨rfl, ho, hwi⟩
    have U_10 := hide (ownMat_within U_9.out hwi (by omega)); have HB10 := hide (HB9.out.trans (below_within hwi (by omega) HB9.out.size)); have s10 := hwi.size; clear hwi
    have M_10 := hide (inMat_own ho); clear ho
    go_wp2_with fail
    refine (heldIntSS_any rows 1 g _ (by omega) (by omega) M_10.out).mono ?_
    rintro e w11 ⟨rfl, hb⟩
    have U_11 := hide (ownMat_below U_10.out hb); have M_11 := hide (inMat_below M_10.out hb); have HB11 := hide (HB10.out.trans (hb.mono HB10.out.size)); have s11 := hb.size; clear hb
    go_wp2_with fail
    refine (toIntS_any _ r0 _ HR0.out (inRow_below HI0.out HB11.out)).mono ?_
    rintro e w12 ⟨y0, rfl, ho, hb⟩
    have U_12 := hide (ownMat_below U_11.out hb); have M_12 := hide (inMat_below M_11.out hb); have Y0L := hide (fun k e => ho.lt k e); have Y0_12 := hide ho; have HB12 := hide (HB11.out.trans (hb.mono HB11.out.size)); have s12 := hb.size; clear ho hb
    go_wp2_with fail
    refine (HM.out y0 _ (inRow_own Y0_12.out)).mono ?_
    rintro e w13 ⟨h, rfl, ho, hb⟩
    have U_13 := hide (ownMat_below U_12.out hb); have M_13 := hide (inMat_below M_12.out hb); have H_13 := hide ho; have HB13 := hide (HB12.out.trans (hb.mono HB12.out.size)); have s13 := hb.size; clear ho hb
    go_wp2_with fail
    refine (eqIntSS_same h u rows _ (inMat_own H_13.out) (inMat_own U_13.out)).mono ?_
    rintro e w14 ⟨rfl, hb⟩
    have U_14 := hide (ownMat_below U_13.out hb); have M_14 := hide (inMat_below M_13.out hb); have H_14 := hide (ownMat_below H_13.out hb); have HB14 := hide (HB13.out.trans (hb.mono HB13.out.size)); have s14 := hb.size; clear hb
    go_wp2_with fail
    refine (heldIntSS_any rows 1 g _ (by omega) (by omega) M_14.out).mono ?_
    rintro e w15 ⟨rfl, hb⟩
    have M_15 := hide (inMat_below M_14.out hb); have HB15 := hide (HB14.out.trans (hb.mono HB14.out.size)); have s15 := hb.size; clear hb
    go_wp2
    go_ret
    exact ⟨rfl, HB15.out⟩
end Go.Proofs.Ytecfigjkcpbggaa
/-
  l02Empty of the model.
-/
namespace Go.Proofs.Ytecfigjkcpbggaa
open Go.RowKit

set_option maxHeartbeats 1000000 in
theorem l02Empty_any (R C : Nat) (w : World) (hR : R ≤ 5) (hC : C ≤ 5) :
    Calls Try.prog 45 #[.int .i64 R, .int .i64 C] w (MatRes (mkM R C zeroM) w) := by
  have HZ : Hid (ints (rowF C (zeroM 0)) = List.replicate C (.int .i64 0)) := hide (by
    apply List.ext_getElem
    · simp [ints, rowF]
    · intro i h1 h2; simp [ints, rowF, zeroM])
  go_enter Try.func45, Try.ntmps45
  go_wp2
  go_loopw [5, 6] (fun o i w' => ∃ (y : Nat) (v : Value), y ≤ R ∧ i = .int .i64 y ∧ v = o ∧ OwnMat w' w.heap.size w'.heap.size v (mkM y C zeroM) ∧ Below w.heap.size w w') (fun _ i _ => R - (intOf i).toNat)
  case atStart => exact ⟨0, _, by omega, rfl, rfl, ⟨[], World.ownsRow_made (base := w.heap.size) w #[] 0 (Nat.le_refl _) (Nat.zero_le _) rfl, (fun k e => by simp [Value.ownBlock] at e; subst e; simp), (fun i h => absurd h (Nat.not_lt_zero _)), fun i j _ h => absurd h (Nat.not_lt_zero _)⟩, (Below.refl _ _).alloc (Nat.le_refl _) _⟩
  case round =>
    obtain ⟨y, v, hy, rfl, rfl, hown, hb⟩ := hrel
    have HO := hide hown; have HB := hide hb
    clear hown hb
    by_cases hlt : y < R
    · have hyI : (y : Int) < R := by omega
      have hsz := HB.out.size
      go_wp2_with (first | (at_make; refine wpList_new wr.heap.size C (.int .i64 0) rfl _ _ rfl Try.underlying22 Try.infoInt rfl (by decide) rfl rfl (by omega) (Nat.le_refl _) ?_; intro w1 hown1 hb1 hg1; have O1 := hide (ownMat_below HO.out hb1); have HU : Hid (w1.ownsRow wr.heap.size 3 1 (.slice (some ⟨wr.heap.size, 0, none⟩) C C) (rowF C (zeroM y)).length (ints (rowF C (zeroM y)))) := hide (by rw [rowF_len, show ints (rowF C (zeroM y)) = List.replicate C (.int .i64 0) from HZ.out]; exact hown1); have HB1 := hide (HB.out.trans (hb1.mono hsz)); have hs1 := hb1.size; clear hown1 hb1 hg1; obtain ⟨vs, hv, hvh, hvr, hva⟩ := O1.out; have hvl := mkM_len y C zeroM; rw [hvl] at hv; have HV := hide hv; have HVR := hide hvr; have HVA := hide hva; clear hv hvh hvr hva hvl) | (at_builtin; refine wpList_push HV.out (.slice (some ⟨wr.heap.size, 0, none⟩) C C) (.slice none 0 0) rfl _ _ rfl Try.underlying23 Try.infoInts rfl (by decide) rfl rfl rfl (by omega) (by omega) ?_; intro v' w6 hown1 hb1 hg1))
      go_roundw
      case rel =>
        have hs6 := hb1.size
        have hp := ownMat_push (r := rowF C (zeroM y)) (hi' := w6.heap.size) HVR.out HVA.out (by rw [mkM_len]; exact HV.out) (by rw [rowF_len]; have := HU.out; rw [rowF_len] at this; exact this) hsz (by omega) (by omega) hg1 (by rw [mkM_len]; exact hown1) (fun k e => (hown1.lt k e).2)
        rw [← mkM_succ] at hp
        exact ⟨y + 1, _, by omega, by go_num, rfl, hp, HB1.out.trans (hb1.mono (by omega))⟩
      case measure => simp [intOf]; omega
    · obtain rfl : y = R := by omega
      go_wp2
      go_ret
      exact ⟨_, rfl, HO.out, HB.out⟩

end Go.Proofs.Ytecfigjkcpbggaa
/-
  StaircaseOf, of the model and of the program.
-/
namespace Go.Proofs.Ytecfigjkcpbggaa
open Go.RowKit

/-- The row that begins with s black cells. -/
def begF (s : Int) (x : Nat) : Int := if (x : Int) < s then 1 else 0
def stairF (r : List Int) (y : Nat) : Nat → Int := begF (r.getD y 0)
/-- What StaircaseOf returns. -/
def stairRes (r : List Int) (n : Int) : List (List Int) := if conjOk r n = true then mkM r.length n.toNat (stairF r) else []
theorem conj_nil_iff (r : List Int) (n : Int) : conjRes r n = [] ↔ conjOk r n = false := by
  unfold conjRes
  cases h : conjOk r n with
  | true =>
    rw [if_pos rfl]
    have h1 : 1 ≤ n := by unfold conjOk at h; simp only [Bool.and_eq_true, decide_eq_true_eq] at h; exact h.1.1
    constructor
    · intro e; have := congrArg List.length e; rw [conjL, tabL_len] at this; simp at this; omega
    · intro e; cases e
  | false => rw [if_neg (by decide)]; simp
theorem conjOk_cells {r : List Int} {n : Int} (h : conjOk r n = true) : (1 ≤ n ∧ n ≤ 5) ∧ r.length ≤ 5 ∧ ∀ y, y < r.length → 0 ≤ r.getD y 0 ∧ r.getD y 0 ≤ n := by
  unfold conjOk at h
  simp only [Bool.and_eq_true, decide_eq_true_eq, Bool.not_eq_true'] at h
  obtain ⟨h1, h2, h3⟩ := h
  refine ⟨h1, h2, fun y hy => ?_⟩
  rw [List.getD_eq_getElem?_getD, List.getElem?_eq_getElem hy, Option.getD_some]
  rw [List.any_eq_false] at h3
  have := h3 _ (List.getElem_mem hy)
  simp only [badB, Bool.or_eq_true, decide_eq_true_eq, not_or] at this
  omega

set_option maxHeartbeats 400000 in
theorem begin_any (s : Int) (C : Nat) (w : World) (h0 : 0 ≤ s) (h1 : s ≤ C) (hC : C ≤ 5) :
    Calls Try.prog 47 #[.int .i64 s, .int .i64 C] w (IntsRes (tabL C (begF s)) w) := by
  go_enter Try.func47, Try.ntmps47
  go_wp2_with (at_make; refine wpList_new w.heap.size C (.int .i64 0) rfl _ _ rfl Try.underlying22 Try.infoInt rfl (by decide) rfl rfl (by omega) (Nat.le_refl _) ?_; intro w1 hown1 hb1 hg1)
  have HO := hide hown1; have HB := hide hb1
  clear hown1 hb1 hg1
  go_wp2
  go_loopw [10] (fun i w' => ∃ k : Nat, (k : Int) ≤ s ∧ i = .int .i64 k ∧ w'.ownsRow w.heap.size 3 1 (.slice (some ⟨w.heap.size, 0, none⟩) C C) C (ints (tabL C (begF k))) ∧ Below w.heap.size w w') (fun i _ => (s - intOf i).toNat)
  case atStart => exact ⟨0, h0, rfl, by rw [tabL_zero] at HO; rw [show tabL C (begF ((0 : Nat) : Int)) = tabL C (fun _ => 0) from tabL_congr fun i _ => by rw [begF, if_neg (by omega)]]; exact HO.out, HB.out⟩
  case round =>
    clear HO HB
    obtain ⟨k, hk, rfl, hown, hb⟩ := hrel
    have HO := hide hown; have HB := hide hb
    clear hown hb
    by_cases hlt : (k : Int) < s
    · have hkC : k < C := by omega
      have hc1 := cell_held HO.out hkC
      rw [tabL_held hkC, begF, if_neg (by omega)] at hc1
      have hf := HO.out.frozenAt k
      have HS := HO.out.stored k (.int .i64 1)
      rw [ints_set, tabL_set] at HS
      have e2 : (tabL C fun t => if t = k then 1 else begF k t) = tabL C (begF ((k + 1 : Nat) : Int)) := tabL_congr fun i _ => by
        unfold begF
        by_cases e : i = k
        · subst e; rw [if_pos rfl, if_pos (by omega)]
        · rw [if_neg e]
          by_cases e' : (i : Int) < (k : Int)
          · rw [if_pos e', if_pos (by omega)]
          · rw [if_neg e', if_neg (by omega)]
      rw [e2] at HS
      have HS := hide HS
      clear e2
      go_wp2
      go_roundw
      case rel => exact ⟨k + 1, by omega, by go_num, HS.out.1, HB.out.setCell (Nat.le_refl _) _⟩
      case measure => simp [intOf]; omega
    · have e3 : (k : Int) = s := by omega
      rw [e3] at HO
      go_wp2
      go_ret
      exact ⟨_, rfl, by rw [tabL_len]; exact HO.out, HB.out⟩

theorem intsNil_nil {w w' : World} {e : Ending} (h : IntsNil [] w e w') : e = .returned (.slice none 0 0) ∧ Below w.heap.size w w' := by
  obtain ⟨⟨u, -, -, hb⟩, hn⟩ := h
  exact ⟨hn rfl, hb⟩
theorem intsNil_some {l : List Int} {w w' : World} {e : Ending} (h : IntsNil l w e w') (hl : l ≠ []) : ∃ g n c, e = .returned (.slice (some ⟨g, 0, none⟩) n c) ∧ Below w.heap.size w w' := by
  obtain ⟨⟨u, rfl, ho, hb⟩, -⟩ := h
  obtain ⟨gu, cu, rfl, -⟩ := own_some ho (List.length_pos_iff.2 hl)
  exact ⟨_, _, _, rfl, hb⟩
set_option maxHeartbeats 400000 in
theorem implStair_no (v : Value) (r : List Int) (n : Int) (w : World) (hin : InRow w v r) (h : conjOk r n = false) :
    Calls Try.prog 25 #[v, .int .i64 n] w (MatRes [] w) := by
  have HI := hide hin
  have HE := hide ((conj_nil_iff r n).2 h)
  obtain ⟨a, c, rfl, hm, -⟩ := hin
  unfold maxLen at hm
  obtain ⟨R, hRR⟩ : ∃ R, R = r.length := ⟨_, rfl⟩
  rw [← hRR] at HI hm ⊢
  clear h hRR
  have heqn := fun (w : World) (a : Option Addr) (n c : Nat) => Lib.run_eql_slice_nil (P := Try.prog) w 22 3 a n c 0 0 Try.underlying22
  go_enter Try.func25, Try.ntmps25
  go_wp2_with ((with_reducible refine (implConj_nil _ r n _ HI.out).mono ?_); rw [HE.out]; intro e w1 hi; obtain ⟨rfl, hb⟩ := intsNil_nil hi; clear hi; have HB := hide hb; clear hb)
  go_ret
  exact matRes_nil HB.out
set_option maxHeartbeats 1000000 in
theorem implStair_yes (v : Value) (r : List Int) (C : Nat) (w : World) (hin : InRow w v r) (h : conjOk r C = true) :
    Calls Try.prog 25 #[v, .int .i64 C] w (MatRes (mkM r.length C (stairF r)) w) := by
  have HI := hide hin
  obtain ⟨hC, hR, hx⟩ := conjOk_cells h
  have HX := hide hx
  have HE : Hid (conjRes r C ≠ []) := hide (by rw [Ne, conj_nil_iff, h]; decide)
  obtain ⟨a, c, rfl, hm, hp⟩ := hin
  unfold maxLen at hm
  have HP := hide fun h : r.length ≠ 0 => hp.resolve_left h
  obtain ⟨R, hRR⟩ : ∃ R, R = r.length := ⟨_, rfl⟩
  have HR := hide hRR
  rw [← hRR] at HI hm hR ⊢
  obtain ⟨hC1, hC2⟩ := hC
  clear hp hRR hx h
  have heqn := fun (w : World) (a : Option Addr) (n c : Nat) => Lib.run_eql_slice_nil (P := Try.prog) w 22 3 a n c 0 0 Try.underlying22
  go_enter Try.func25, Try.ntmps25
  go_wp2_with ((with_reducible refine (implConj_nil _ r C _ HI.out).mono ?_); intro e w1 hi; obtain ⟨gu, nu, cu, rfl, hb⟩ := intsNil_some hi HE.out; clear hi; have HB := hide hb; clear hb)
  go_loopw [5, 14] (fun o i w' => ∃ (y : Nat) (u : Value), y ≤ R ∧ i = .int .i64 y ∧ u = o ∧ OwnMat w' w.heap.size w'.heap.size u (mkM y C (stairF r)) ∧ Below w.heap.size w w') (fun _ i _ => R - (intOf i).toNat)
  case atStart => exact ⟨0, _, by omega, rfl, rfl, ownMat_nil _ _ _, HB.out⟩
  case round =>
    clear HB
    obtain ⟨y, u, hy, rfl, rfl, hown, hb⟩ := hrel
    have HO := hide hown; have HB := hide hb
    clear hown hb
    by_cases hlt : y < R
    · have hyI : (y : Int) < R := by omega
      have hsz := HB.out.size
      have hy' : y < r.length := by rw [← HR.out]; exact hlt
      obtain ⟨g, o, rfl, hg, hc⟩ := HP.out (by omega)
      have hxc := below_cell HB.out hg (hc y hy')
      have hxr := HX.out y hy'
      have HST : Hid (stairF r y = begF r[y]) := hide (by rw [stairF, List.getD_eq_getElem?_getD, List.getElem?_eq_getElem hy', Option.getD_some])
      rw [List.getD_eq_getElem?_getD, List.getElem?_eq_getElem hy', Option.getD_some] at hxr
      obtain ⟨s, hs⟩ : ∃ s, s = r[y] := ⟨_, rfl⟩
      rw [← hs] at hxc hxr HST
      obtain ⟨hs0, hs1⟩ := hxr
      clear hs hc
      go_wp2_with (first | ((with_reducible refine (begin_any s C _ hs0 hs1 (by omega)).mono ?_); rintro e w2 ⟨u2, rfl, hu2, hb2⟩; rw [tabL_len] at hu2; obtain ⟨ua, uc, rfl⟩ := own_slice hu2; have HU := hide hu2; have O2 := hide (ownMat_below HO.out hb2); have B2 := hide (HB.out.trans (hb2.mono hsz)); have hs2 := hb2.size; clear hu2 hb2; obtain ⟨vs, hv, hvh, hvr, hva⟩ := O2.out; have hvl := mkM_len y C (stairF r); rw [hvl] at hv; have HV := hide hv; have HVR := hide hvr; have HVA := hide hva; clear hv hvh hvr hva hvl) | (at_builtin; refine wpList_push HV.out (.slice ua C uc) (.slice none 0 0) rfl _ _ rfl Try.underlying23 Try.infoInts rfl (by decide) rfl rfl rfl (by omega) (by omega) ?_; intro v' w6 hown1 hb1 hg1))
      go_roundw
      case rel =>
        have hs6 := hb1.size
        have hp := ownMat_push (r := rowF C (stairF r y)) (hi' := w6.heap.size) HVR.out HVA.out (by rw [mkM_len]; exact HV.out) (by rw [rowF_len, HST.out]; exact HU.out) hsz (by omega) (by omega) hg1 (by rw [mkM_len]; exact hown1) (fun k e => (hown1.lt k e).2)
        rw [← mkM_succ] at hp
        exact ⟨y + 1, _, by omega, by go_num, rfl, hp, B2.out.trans (hb1.mono (by omega))⟩
      case measure => simp [intOf]; omega
    · obtain rfl : y = R := by omega
      go_wp2
      go_ret
      exact ⟨_, rfl, HO.out, HB.out⟩
theorem implStair_any (v : Value) (r : List Int) (n : Int) (w : World) (hin : InRow w v r) :
    Calls Try.prog 25 #[v, .int .i64 n] w (MatRes (stairRes r n) w) := by
  unfold stairRes
  cases h : conjOk r n with
  | true =>
    obtain ⟨C, rfl⟩ : ∃ C : Nat, n = C := ⟨n.toNat, by have := (conjOk_cells h).1; omega⟩
    rw [if_pos rfl]; exact implStair_yes v r C w hin h
  | false => rw [if_neg (by decide)]; exact implStair_no v r n w hin h

set_option maxHeartbeats 400000 in
theorem specStair_no (v : Value) (r : List Int) (n : Int) (w : World) (hin : InRow w v r) (h : conjOk r n = false) :
    Calls Try.prog 24 #[v, .int .i64 n] w (MatRes [] w) := by
  have HI := hide hin
  have HE := hide ((conj_nil_iff r n).2 h)
  obtain ⟨a, c, rfl, hm, -⟩ := hin
  unfold maxLen at hm
  obtain ⟨R, hRR⟩ : ∃ R, R = r.length := ⟨_, rfl⟩
  rw [← hRR] at HI hm ⊢
  clear h hRR
  go_enter Try.func24, Try.ntmps24
  go_wp2_with ((with_reducible refine (specConj_any _ r n _ HI.out).mono ?_); rw [HE.out]; rintro e w1 ⟨u, rfl, ho, hb⟩; obtain ⟨ua, uc, rfl⟩ := own_slice ho; have HB := hide hb; clear ho hb)
  go_ret
  exact matRes_nil HB.out
set_option maxHeartbeats 400000 in
theorem specStair_zero (v : Value) (n : Int) (w : World) (hin : InRow w v []) :
    Calls Try.prog 24 #[v, .int .i64 n] w (MatRes [] w) := by
  have HI := hide hin
  obtain ⟨a, c, rfl, -, -⟩ := hin
  simp only [List.length_nil] at HI ⊢
  obtain ⟨L, hL⟩ : ∃ L, L = conjRes [] n := ⟨_, rfl⟩
  have HL := hide hL
  have hl : L.length ≤ 5 := by
    rw [hL]; unfold conjRes
    cases h : conjOk [] n with
    | true => rw [if_pos rfl, conjL, tabL_len]; have := (conjOk_cells h).1; omega
    | false => rw [if_neg (by decide)]; simp
  clear hL
  go_enter Try.func24, Try.ntmps24
  obtain ⟨n0, hn0⟩ : ∃ n0, n0 = L.length := ⟨_, rfl⟩
  rw [← hn0] at hl
  have HN0 := hide hn0
  clear hn0
  by_cases h0 : n0 = 0
  · have q1 : ((n0 : Int) == 0) = true := by simp; omega
    go_wp2_with ((with_reducible refine (specConj_any _ [] n _ HI.out).mono ?_); rw [← HL.out]; rintro e w1 ⟨u, rfl, ho, hb⟩; rw [← HN0.out] at ho; obtain ⟨ua, uc, rfl⟩ := own_slice ho; have HB := hide hb; clear ho hb)
    go_ret
    exact matRes_nil HB.out
  · have q1 : ((n0 : Int) == 0) = false := by simp; omega
    go_wp2_with ((with_reducible refine (specConj_any _ [] n _ HI.out).mono ?_); rw [← HL.out]; rintro e w1 ⟨u, rfl, ho, hb⟩; rw [← HN0.out] at ho; obtain ⟨ua, uc, rfl⟩ := own_slice ho; have HB := hide hb; clear ho hb)
    go_ret
    exact matRes_nil HB.out
set_option maxHeartbeats 2000000 in
theorem specStair_yes (v : Value) (r : List Int) (C : Nat) (w : World) (hin : InRow w v r) (h : conjOk r C = true) (hr0 : 0 < r.length) :
    Calls Try.prog 24 #[v, .int .i64 C] w (MatRes (mkM r.length C (stairF r)) w) := by
  have HI := hide hin
  obtain ⟨hC, hR, hx⟩ := conjOk_cells h
  have HX := hide hx
  have HEE : Hid (conjRes r C = conjL r C) := hide (by rw [conjRes, if_pos h]; rfl)
  obtain ⟨a, c, rfl, hm, hp⟩ := hin
  unfold maxLen at hm
  obtain ⟨g, o, rfl, hg, hc⟩ := hp.resolve_left (by omega)
  have HG := hide hg; have HCC := hide hc
  obtain ⟨R, hRR⟩ : ∃ R, R = r.length := ⟨_, rfl⟩
  have HR := hide hRR
  rw [← hRR] at HI hm hR hr0 ⊢
  obtain ⟨hC1, hC2⟩ := hC
  have q1 : ((C : Int) == 0) = false := by simp; omega
  have q2 : ((R : Int) == 0) = false := by simp; omega
  clear hp hRR hx h hc hg
  go_enter Try.func24, Try.ntmps24
  go_wp2_with (first | ((with_reducible refine (specConj_any _ r C _ HI.out).mono ?_); rw [HEE.out]; rintro e w1 ⟨u, rfl, ho, hb⟩; rw [conjL, tabL_len] at ho; obtain ⟨ua, uc, rfl⟩ := own_slice ho; have HB := hide hb; clear ho hb) | ((with_reducible refine (l02Empty_any R C _ hR (by omega)).mono ?_); rintro e w2 ⟨u, rfl, ho, hb⟩; have HB2 := hide (HB.out.trans (hb.mono HB.out.size)); have HO := hide (ownMat_mono ho HB.out.size (Nat.le_refl _)); clear ho hb))
  obtain ⟨gm, cm, rfl⟩ := ownMat_some HO.out (by rw [mkM_len]; omega)
  rw [mkM_len] at *
  go_wp2
  go_loopw [25] (fun i w' => ∃ y : Nat, y ≤ R ∧ i = .int .i64 y ∧ OwnMat w' w.heap.size w'.heap.size (.slice (some ⟨gm, 0, none⟩) R cm) (mkM R C fun a b => if a < y then stairF r a b else 0) ∧ Below w.heap.size w w') (fun i _ => R - (intOf i).toNat)
  case atStart =>
    refine ⟨0, by omega, rfl, ?_, HB2.out⟩
    rw [show mkM R C (fun a b => if a < 0 then stairF r a b else 0) = mkM R C zeroM from mkM_congr fun a b _ _ => by rw [if_neg (Nat.not_lt_zero _)]; rfl]
    exact HO.out
  case round =>
    clear HO HB HB2
    obtain ⟨y, hy, rfl, hown, hb⟩ := hrel
    have HO := hide hown; have HB := hide hb
    clear hown hb
    by_cases hlt : y < R
    · have hyI : (y : Int) < R := by omega
      have hy' : y < r.length := by rw [← HR.out]; exact hlt
      have hxc := below_cell HB.out HG.out (HCC.out y hy')
      have hxr := HX.out y hy'
      have HST : Hid (stairF r y = begF r[y]) := hide (by rw [stairF, List.getD_eq_getElem?_getD, List.getElem?_eq_getElem hy', Option.getD_some])
      rw [List.getD_eq_getElem?_getD, List.getElem?_eq_getElem hy', Option.getD_some] at hxr
      obtain ⟨s, hs⟩ : ∃ s, s = r[y] := ⟨_, rfl⟩
      rw [← hs] at hxc hxr HST
      obtain ⟨hs0, hs1⟩ := hxr
      clear hs
      go_wp2
      go_loopw [8] (fun i w' => ∃ x : Nat, (x : Int) ≤ s ∧ i = .int .i64 x ∧ OwnMat w' w.heap.size w'.heap.size (.slice (some ⟨gm, 0, none⟩) R cm) (mkM R C fun a b => if a < y then stairF r a b else if a = y then begF x b else 0) ∧ Below w.heap.size w w') (fun i _ => (s - intOf i).toNat)
      case atStart =>
        refine ⟨0, hs0, rfl, ?_, HB.out⟩
        rw [show mkM R C (fun a b => if a < y then stairF r a b else if a = y then begF ((0 : Nat) : Int) b else 0) = mkM R C (fun a b => if a < y then stairF r a b else 0) from mkM_congr fun a b _ _ => by
          by_cases e : a < y
          · rw [if_pos e, if_pos e]
          · rw [if_neg e, if_neg e]; unfold begF; rw [if_neg (show ¬ ((b : Int) < ((0 : Nat) : Int)) by omega)]; simp]
        exact HO.out
      case round =>
        clear HO HB
        obtain ⟨x, hx, rfl, hown, hb⟩ := hrel
        have HO := hide hown; have HB := hide hb
        clear hown hb
        by_cases hltx : (x : Int) < s
        · have hxC : x < C := by omega
          obtain ⟨gr, cr, hrow, hcl, hfr, hlo, hgh, hset⟩ := ownMat_cell HO.out y x hlt hxC
          have hset := hset 1
          rw [show (mkM R C fun a b => if a = y ∧ b = x then 1 else if a < y then stairF r a b else if a = y then begF (x : Int) b else 0) = mkM R C fun a b => if a < y then stairF r a b else if a = y then begF ((x + 1 : Nat) : Int) b else 0 from mkM_congr fun a b _ _ => by
            by_cases e : a < y
            · rw [if_pos e, if_pos e, if_neg (by omega)]
            · rw [if_neg e, if_neg e]
              by_cases ea : a = y
              · rw [if_pos ea, if_pos ea]
                unfold begF
                by_cases eb : b = x
                · rw [if_pos ⟨ea, eb⟩, if_pos (by omega)]
                · rw [if_neg (fun h => eb h.2)]
                  by_cases e' : (b : Int) < (x : Int)
                  · rw [if_pos e', if_pos (by omega)]
                  · rw [if_neg e', if_neg (by omega)]
              · rw [if_neg ea, if_neg ea, if_neg (fun h => ea h.1)]] at hset
          have HSET := hide hset
          clear hset
          go_wp2
          go_roundw
          case rel => exact ⟨x + 1, by omega, by go_num, ownMat_mono HSET.out (Nat.le_refl _) (by simp [World.setCell]), HB.out.setCell hlo _⟩
          case measure => simp [intOf]; omega
        · have e3 : (x : Int) = s := by omega
          rw [e3] at HO
          have HO2 : Hid (OwnMat wr w.heap.size wr.heap.size (.slice (some ⟨gm, 0, none⟩) R cm) (mkM R C fun a b => if a < y + 1 then stairF r a b else 0)) := hide (by
            rw [show (mkM R C fun a b => if a < y + 1 then stairF r a b else 0) = mkM R C fun a b => if a < y then stairF r a b else if a = y then begF s b else 0 from mkM_congr fun a b _ _ => by
              by_cases e : a < y
              · rw [if_pos e, if_pos (by omega)]
              · rw [if_neg e]
                by_cases ea : a = y
                · rw [if_pos (show a < y + 1 by omega), if_pos ea, ea, HST.out]
                · rw [if_neg ea, if_neg (by omega)]]
            exact HO.out)
          go_wp2
          go_roundw
          case rel => exact ⟨y + 1, by omega, by go_num, HO2.out, HB.out⟩
          case measure => simp [intOf]; omega
    · obtain rfl : y = R := by omega
      go_wp2
      go_ret
      refine ⟨_, rfl, ?_, HB.out⟩
      rw [show mkM y C (stairF r) = mkM y C (fun a b => if a < y then stairF r a b else 0) from mkM_congr fun a b ha _ => by rw [if_pos ha]]
      exact HO.out
theorem specStair_any (v : Value) (r : List Int) (n : Int) (w : World) (hin : InRow w v r) :
    Calls Try.prog 24 #[v, .int .i64 n] w (MatRes (stairRes r n) w) := by
  unfold stairRes
  cases h : conjOk r n with
  | true =>
    obtain ⟨C, rfl⟩ : ∃ C : Nat, n = C := ⟨n.toNat, by have := (conjOk_cells h).1; omega⟩
    rw [if_pos rfl]
    by_cases h0 : 0 < r.length
    · exact specStair_yes v r C w hin h h0
    · obtain rfl : r = [] := List.eq_nil_of_length_eq_zero (by omega)
      exact specStair_zero v C w hin
  | false => rw [if_neg (by decide)]; exact specStair_no v r n w hin h
end Go.Proofs.Ytecfigjkcpbggaa
/-
  The exact law on StaircaseOf, out of the contracts.
-/
namespace Go.Proofs.Ytecfigjkcpbggaa
open Go.RowKit
set_option linter.unusedVariables false

theorem cells_small : ∀ (m : List (List Int)), (∀ r ∈ m, r.length ≤ 5) → cellsM m ≤ 5 * m.length
  | [], _ => by simp [cellsM]
  | r :: m, h => by
    have h1 := cells_small m fun q hq => h q (List.mem_cons_of_mem _ hq)
    have h2 := h r List.mem_cons_self
    simp only [cellsM, List.map_cons, List.sum_cons, List.length_cons] at h1 ⊢
    omega
theorem rows_small {m : List (List Int)} (h1 : m.length ≤ 5) (h2 : ∀ r ∈ m, r.length ≤ 5) : m.length + cellsM m ≤ 1000000 := by
  have := cells_small m h2
  omega
theorem lawStaircaseOf_walk (a : Option Addr) (n c : Nat) (r : List Int) (m : Int) (w : World) (hin : InRow w (.slice a n c) r) (_hm : (Lit.int .i64 m).wf = true) :
    Calls Try.prog 7 #[.slice a n c, .int .i64 m] w fun e w' => e = .returned (.bool true) ∧ Below w.heap.size w w' := by
  refine lawStaircaseOf_gen a n c r m w hin (stairRes r m) ?_ (fun v w hv => specStair_any v r m w hv) (fun v w hv => implStair_any v r m w hv)
  unfold stairRes
  cases h : conjOk r m with
  | true =>
    obtain ⟨h1, h2, -⟩ := conjOk_cells h
    rw [if_pos rfl]
    refine rows_small (by rw [mkM_len]; exact h2) fun q hq => ?_
    simp only [mkM, List.mem_map] at hq
    obtain ⟨y, -, rfl⟩ := hq
    rw [rowF_len]; omega
  | false => rw [if_neg (by decide)]; decide
end Go.Proofs.Ytecfigjkcpbggaa
