/-
  Texts of this claim, one behind the other: FindS, LawsFp.
-/
import Derived.Test.YtldbgkmgmhlbiaaPackF
import Derived.Test.YtldbgkmgmhlbiaaPackB
import Derived.Test.YtldbgkmgmhlbiaaPackC
/-
  FindPrices of the model.
-/
namespace Go.Proofs.Ytldbgkmgmhlbiaa
open Go.RowKit

theorem two_below {w w' : World} {lo gr gc R C cr cc : Nat} {D : Nat → Int} (h : Two w lo gr gc R C cr cc D) (hb : Below w.heap.size w w') : Two w' lo gr gc R C cr cc D := ⟨own_below h.row hb, own_below h.col hb⟩
theorem rowF_snoc (n : Nat) (F : Nat → Int) : rowF (n + 1) F = rowF n F ++ [F n] := by simp [rowF, List.range_succ]
set_option maxRecDepth 100000 in
set_option maxHeartbeats 4000000 in
theorem specFind_any (vk vm : Value) (k m : List (List Int)) (w : World) (hk : InMat w vk k) (hm : InMat w vm m) :
    Calls Try.prog 24 #[vk, vm] w (FpRes (fpA k m) (fpC k m) (fpB k m) w) := by
  have HWO := hide (specWeightOf_any vk vm k m w hk hm)
  cases h : wtOfB k m with
  | false =>
    rw [h] at HWO
    have HP : fpP k m = none := by rw [fpP, h]; rfl
    have HA : Hid (fpA k m = []) := hide (by rw [fpA, HP])
    have HC : Hid (fpC k m = []) := hide (by rw [fpC, HP])
    have HB : Hid (fpB k m = false) := hide (by rw [fpB, HP]; rfl)
    rw [HA.out, HC.out, HB.out]
    obtain ⟨x, hx⟩ : ∃ x, x = wtOf k m := ⟨_, rfl⟩
    rw [← hx] at HWO
    obtain ⟨ak, ck, rfl, -, -⟩ := hk
    obtain ⟨am, cm, rfl, -, -⟩ := hm
    generalize k.length = n1 at *
    generalize m.length = n2 at *
    clear hx h HP HA HC HB
    go_enter Try.func24, Try.ntmps24
    go_wp2_with (go_at_call 13; refine HWO.out.mono ?_; rintro e w1 ⟨rfl, rfl⟩)
    refine bodyPost_ret (results_tmp3 rfl _ _ _) rfl ⟨.slice none 0 0, .slice none 0 0, rfl, World.ownsRow_nil _ _ _ _, World.ownsRow_nil _ _ _ _, .inl rfl, Below.refl _ _⟩
  | true =>
    rw [h] at HWO
    have hok : okB m = true := by unfold wtOfB at h; rw [Bool.and_eq_true] at h; exact h.1
    obtain ⟨R, C, f, rfl, hI⟩ := ok_img hok
    have hR1 := hI.r1; have hC1 := hI.c1; have hR := hI.r2; have hC := hI.c2
    have hsz : sizeB k R C (-100) 100 = true := by
      have h' := h
      unfold wtOfB at h'
      rw [Bool.and_eq_true, mkM_len, width_mkM hR1] at h'
      exact wtB_nat h'.2
    obtain ⟨hkm, hWt⟩ := sizeB_wt hsz
    have HPP := hide (fpP_mk h hR1)
    obtain ⟨x, hx⟩ : ∃ x, x = wtOf k (mkM R C f) := ⟨_, rfl⟩
    rw [← hx] at HWO
    have hk2 := hk
    rw [hkm] at hk2
    obtain ⟨g, hg⟩ : ∃ g, g = cellM k := ⟨_, rfl⟩
    rw [← hg] at hk2 hWt HPP
    have HRX := hide fun (gr gc cr cc j : Nat) (w1 : World) (h1 : Below w.heap.size w w1) (h2 : Two w1 w.heap.size gr gc R C cr cc (roundsD (allE R C g f R) j)) (h3 : gr ≠ gc) (h4 : 2500 * j ≤ 90000) =>
      relax_any vk vm R C gr gc cr cc (2500 * j) g f (roundsD (allE R C g f R) j) w w1 h1 hk2 hm hI hWt h2 h3 (fun v hv => ⟨roundsD_low (fun e he => (allE_in hWt e he).1) (by rw [allE_len]; exact Nat.le_trans (Nat.mul_le_mul hR hC) (by decide)) j v hv, roundsD_le _ j v⟩) h4
    have HMORE := hide (show bell (allE R C g f R) (R + C + 1) (fun _ => 0) = bell (allE R C g f R) (R + C) (fun _ => 0) from bell_more (by omega) (fun e he => ⟨(allE_in hWt e he).1.1, (allE_in hWt e he).1.2.1⟩) (fun e he => (allE_in hWt e he).2))
    have HLW := hide fun (j v : Nat) (hv : v < R + C) => (show -((2500 * j : Nat) : Int) ≤ roundsD (allE R C g f R) j v ∧ roundsD (allE R C g f R) j v ≤ 0 from ⟨roundsD_low (fun e he => (allE_in hWt e he).1) (by rw [allE_len]; exact Nat.le_trans (Nat.mul_le_mul hR hC) (by decide)) j v hv, roundsD_le _ j v⟩)
    obtain ⟨E, hE⟩ : ∃ E, E = allE R C g f R := ⟨_, rfl⟩
    rw [← hE] at HPP HRX HMORE HLW
    obtain ⟨ga, oa, ca, hvk, hga, hca⟩ := inMat_img hk2 (by omega) (by omega)
    obtain ⟨gb, ob, cb, hvm, hgb, hcb⟩ := inMat_img hm (by omega) (by omega)
    subst hvk hvm
    obtain ⟨g0, o0, c0, hx0, -⟩ := hcb 0 (by omega)
    rw [Nat.add_zero] at hx0
    have HX := hide fun w' (hw : Below w.heap.size w w') => below_cell hw hgb hx0
    clear hx hg h hE hkm hsz hok hk hk2 hm hca hcb hWt hI
    go_enter Try.func24, Try.ntmps24
    go_wp2_with (first | (go_at_call 13; refine HWO.out.mono ?_; rintro e w1 ⟨rfl, rfl⟩) | (at_make; with_reducible refine wpList_new w.heap.size R (.int .i64 0) rfl (.tmp 24) (.tmp 24) rfl Try.underlying29 Try.infoInt rfl (by decide) rfl rfl (by omega) (Nat.le_refl _) ?_; intro w1 hown1 hb1 hg1; have hx1 := HX.out _ hb1; have hz1 := hb1.size) | (at_make; refine wpList_new w.heap.size C (.int .i64 0) rfl (.tmp 29) (.tmp 29) rfl Try.underlying29 Try.infoInt rfl (by decide) rfl rfl (by omega) hz1 ?_; intro w2 hown2 hb2 hg2))
    have HT := hide (show Two w2 w.heap.size w.heap.size w1.heap.size R C R C (roundsD E 0) from by
      refine ⟨?_, ?_⟩
      · have := ownA_grown hown1 hg2 (fun k hk => by cases hk)
        rw [rowF_zeros] at this
        exact this
      · rw [rowF_zeros] at hown2; exact hown2)
    have HNE := hide (show w.heap.size ≠ w1.heap.size by have := (hown1.lt w.heap.size rfl).2; omega)
    have HB2 := hide (hb1.trans hb2)
    obtain ⟨gr, hgr⟩ : ∃ gr, gr = w.heap.size := ⟨_, rfl⟩
    obtain ⟨gc, hgc⟩ : ∃ gc, gc = w1.heap.size := ⟨_, rfl⟩
    have HGR := hide (show w.heap.size ≤ gr ∧ w.heap.size ≤ gc from ⟨by omega, by omega⟩)
    have HT' : Hid (Two w2 w.heap.size gr gc R C R C (roundsD E 0)) := hide (by rw [hgr, hgc]; exact HT.out)
    have HNE' : Hid (gr ≠ gc) := hide (by rw [hgr, hgc]; exact HNE.out)
    rw [← hgr, ← hgc]
    clear hown1 hb1 hg1 hown2 hb2 hg2 HT HNE hgr hgc hx0 hx1 hz1
    go_wp2
    go_loopw [11] (fun i w' => ∃ j : Nat, j ≤ R + C + 1 ∧ i = .int .i64 j ∧ Two w' w.heap.size gr gc R C R C (roundsD E j) ∧ Below w.heap.size w w' ∧ bell E (R + C + 1) (fun _ => 0) = bell E (R + C + 1 - j) (roundsD E j)) (fun i _ => R + C + 1 - (intOf i).toNat)
    case atStart => exact ⟨0, Nat.zero_le _, rfl, HT'.out, HB2.out, rfl⟩
    case round =>
      clear HT' HB2
      obtain ⟨j, hj, rfl, ht, hb, hbell⟩ := hrel
      have HT := hide ht; have HB := hide hb; have HBE := hide hbell
      have hx0 := HX.out _ hb
      clear ht hb hbell
      by_cases hlt : j < R + C + 1
      · have hltI : (j : Int) ≤ (R : Int) + C := by omega
        have HRL := hide (HRX.out gr gc R C j wr HB.out HT.out HNE'.out (by omega))
        obtain ⟨fl, hfl⟩ : ∃ fl, fl = (rxs E (roundsD E j, false)).2 := ⟨_, rfl⟩
        have HFL := hide hfl
        rw [← hfl] at HRL
        clear hfl
        go_wp2_with fail
        refine HRL.out.mono ?_
        rintro e5 w5 ⟨rfl, ht5, hb5⟩
        have HT5 := hide (show Two w5 w.heap.size gr gc R C R C (roundsD E (j + 1)) from ht5)
        have HB5 := hide hb5
        clear ht5 hb5
        cases fl with
        | true =>
          have HBE2 := hide (show bell E (R + C + 1) (fun _ => 0) = bell E (R + C + 1 - (j + 1)) (roundsD E (j + 1)) by
            rw [HBE.out, show R + C + 1 - j = (R + C + 1 - (j + 1)) + 1 by omega, bell_step HFL.out.symm]; rfl)
          go_wp2
          go_roundw
          case rel => exact ⟨j + 1, by omega, by go_num, HT5.out, HB5.out, HBE2.out⟩
          case measure => simp [intOf]; omega
        | false =>
          have HBE2 := hide (show fpP k (mkM R C f) = some (roundsD E (j + 1)) by
            rw [HPP.out, ← HMORE.out, HBE.out, show R + C + 1 - j = (R + C + 1 - (j + 1)) + 1 by omega, bell_stop HFL.out.symm]; rfl)
          have HA := hide (show fpA k (mkM R C f) = rowF R (fun y => -(roundsD E (j + 1) y)) by
            unfold fpA; rw [HBE2.out, mkM_len])
          have HCC := hide (show fpC k (mkM R C f) = rowF C (fun x => roundsD E (j + 1) (R + x)) by
            unfold fpC; rw [HBE2.out, mkM_len, width_mkM hR1])
          have HBB := hide (show fpB k (mkM R C f) = true by unfold fpB; rw [HBE2.out]; rfl)
          have HLJ := hide fun v hv => HLW.out (j + 1) v hv
          obtain ⟨D, hD⟩ : ∃ D, D = roundsD E (j + 1) := ⟨_, rfl⟩
          rw [← hD] at HT5 HA HCC HLJ
          have HJ5 := hide (show 2500 * (j + 1) ≤ 90000 by omega)
          clear hD HBE2 HBE HFL HRL HRX HLW HMORE HPP
          go_wp2
          have HO6 := hide (show (w5.alloc (.cells #[] 3)).ownsRow w5.heap.size 3 1 (.slice (some ⟨w5.heap.size, 0, none⟩) 0 0) 0 (ints (rowF 0 fun y => -(D y))) from
            ⟨rfl, .inr ⟨w5.heap.size, 0, #[], rfl, Nat.le_refl _, heap_alloc_new w5 _, Nat.le_refl _, by unfold maxLen; omega, rfl, rfl⟩⟩)
          have HB6 := hide (show Below w5.heap.size w5 (w5.alloc (.cells #[] 3)) from (Below.refl _ _).alloc (Nat.le_refl _) _)
          go_loopw [12, 51] (fun s i w' => ∃ y : Nat, y ≤ R ∧ i = .int .i64 y ∧ w'.ownsRow w5.heap.size 3 1 s y (ints (rowF y fun t => -(D t))) ∧ Below w5.heap.size w5 w') (fun _ i _ => R - (intOf i).toNat)
          case atStart => exact ⟨0, Nat.zero_le _, rfl, HO6.out, HB6.out⟩
          case round =>
            clear HO6 HB6
            obtain ⟨y, hy, rfl, ho, hb⟩ := hrel
            obtain ⟨av, cv, rfl⟩ := own_slice ho
            have HO := hide ho; have HBY := hide hb
            have hsz := hb.size
            clear ho hb
            by_cases hly : y < R
            · have hlyI : (y : Int) < R := by omega
              have hz := (two_cells (two_below HT5.out HBY.out)).1 y hly
              obtain ⟨l1, l2⟩ := HLJ.out y (by omega)
              have hj5 := HJ5.out
              have HSN := hide (rowF_snoc y fun t => -(D t))
              obtain ⟨dy, hdy⟩ : ∃ dy, dy = D y := ⟨_, rfl⟩
              simp only [← hdy] at hz l1 l2 HSN
              have HE : Hid (ints (rowF (y + 1) fun t => -(D t)) = ints (rowF y fun t => -(D t)) ++ [.int .i64 (-dy)]) := hide (by rw [HSN.out]; simp [ints])
              clear hdy HSN
              go_wp2_with (at_builtin; refine wpList_push HO.out (.int .i64 (-dy)) (.int .i64 0) rfl _ _ rfl Try.underlying29 Try.infoInt rfl (by decide) rfl rfl rfl (by omega) hsz ?_; intro v' w6 hown1 hb1 hg1)
              go_roundw
              case rel => exact ⟨y + 1, by omega, by go_num, by rw [HE.out]; exact hown1, HBY.out.trans hb1⟩
              case measure => simp [intOf]; omega
            · obtain rfl : y = R := by omega
              go_wp2
              refine bodyPost_ret (results_tmp3 rfl _ _ _) rfl ?_
              rw [HA.out, HCC.out, HBB.out]
              have hT9 := two_below HT5.out HBY.out
              refine ⟨.slice av y cv, .slice (some ⟨gc, 0, none⟩) C C, rfl, ?_, ?_, ?_, HB5.out.trans (HBY.out.mono HB5.out.size)⟩
              · rw [rowF_len]; exact own_base HO.out HB5.out.size
              · rw [rowF_len]; exact hT9.col
              · cases hob : (Value.slice av y cv).ownBlock with
                | none => exact .inl rfl
                | some b =>
                  refine .inr fun e => ?_
                  have l1 := (HO.out.lt b hob).1
                  have l2 := (HT5.out.col.lt gc rfl).2
                  have e2 : b = gc := by simpa [Value.ownBlock] using e
                  omega
      · have hjn : j = R + C + 1 := by omega
        have HBE2 : fpP k (mkM R C f) = none := by rw [HPP.out, ← HMORE.out, HBE.out, hjn, Nat.sub_self]; rfl
        have HA := hide (show fpA k (mkM R C f) = [] by rw [fpA, HBE2])
        have HCC := hide (show fpC k (mkM R C f) = [] by rw [fpC, HBE2])
        have HBB := hide (show fpB k (mkM R C f) = false by rw [fpB, HBE2]; rfl)
        clear HBE2
        subst hjn
        go_wp2
        refine bodyPost_ret (results_tmp3 rfl _ _ _) rfl ?_
        rw [HA.out, HCC.out, HBB.out]
        exact ⟨.slice none 0 0, .slice none 0 0, rfl, World.ownsRow_nil _ _ _ _, World.ownsRow_nil _ _ _ _, .inl rfl, HB.out⟩
end Go.Proofs.Ytldbgkmgmhlbiaa
/-
  The exact law on FindPrices, walked.
-/
namespace Go.Proofs.Ytldbgkmgmhlbiaa
open Go.RowKit
set_option linter.unusedVariables false

theorem sep_symm {a b : Option Nat} (h : a = none ∨ a ≠ b) : b = none ∨ b ≠ a := by
  cases b with
  | none => exact .inl rfl
  | some k =>
    rcases h with h | h
    · rw [h]; exact .inr (by simp)
    · exact .inr (Ne.symm h)

set_option maxRecDepth 100000 in
set_option maxHeartbeats 4000000 in
theorem lawFindPrices_gen (a0 : Option Addr) (n0 c0 : Nat) (m0 : List (List Int)) (a1 : Option Addr) (n1 c1 : Nat) (m1 : List (List Int)) (w : World) (hin0 : InMat w (.slice a0 n0 c0) m0) (hin1 : InMat w (.slice a1 n1 c1) m1) (r_0 : List Int) (r_1 : List Int) (b_2 : Bool) (hres0 : r_0.length ≤ 1000000) (hres1 : r_1.length ≤ 1000000)
    (hs : ∀ (v0 v1 : Value) (w : World), InMat w v0 m0 → InMat w v1 m1 → Calls Try.prog 24 #[v0, v1] w (fun e w' => ∃ u0 u1, e = .returned (.tuple #[u0, u1, .bool b_2]) ∧ w'.ownsRow w.heap.size 3 1 u0 r_0.length (ints r_0) ∧ w'.ownsRow w.heap.size 3 1 u1 r_1.length (ints r_1) ∧ (u0.ownBlock = none ∨ u0.ownBlock ≠ u1.ownBlock) ∧ Below w.heap.size w w'))
    (hi : ∀ (v0 v1 : Value) (w : World), InMat w v0 m0 → InMat w v1 m1 → Calls Try.prog 25 #[v0, v1] w (fun e w' => ∃ u0 u1, e = .returned (.tuple #[u0, u1, .bool b_2]) ∧ w'.ownsRow w.heap.size 3 1 u0 r_0.length (ints r_0) ∧ w'.ownsRow w.heap.size 3 1 u1 r_1.length (ints r_1) ∧ (u0.ownBlock = none ∨ u0.ownBlock ≠ u1.ownBlock) ∧ Below w.heap.size w w')) :
    Calls Try.prog 7 #[.slice a0 n0 c0, .slice a1 n1 c1] w fun e w' => e = .returned (.bool true) ∧ Below w.heap.size w w' := by
  have HI0 := hide hin0
  obtain ⟨a', c', he, hm0, -⟩ := hin0
  cases he
  unfold maxLen at hm0
  have HI1 := hide hin1
  obtain ⟨a', c', he, hm1, -⟩ := hin1
  cases he
  unfold maxLen at hm1
  have hbb2 : (b_2 != b_2) = false := by cases b_2 <;> rfl
  go_enter Try.func7, Try.ntmps7
  go_wp2_with fail
  refine (szIntSS_any _ m0 (1048576) _ (by omega) HI0.out).mono ?_
  rintro e w1 ⟨q0, rfl, hq0, hb⟩
  have HB1 := hide (hb)
  have s1 := hb.size
  clear hb
  rcases hq0 with rfl | ⟨hsz0, rfl⟩
  · go_wp2
    go_ret
    exact ⟨rfl, HB1.out⟩
  · skip
    have HZ0 : Hid (m0.length + cellsM m0 ≤ 1048576) := hide (by omega)
    go_wp2_with fail
    refine (szIntSS_any _ m1 (1048576 - m0.length - cellsM m0) _ (by omega) (inMat_below HI1.out HB1.out)).mono ?_
    rintro e w2 ⟨q1, rfl, hq1, hb⟩
    have HB2 := hide (HB1.out.trans (hb.mono HB1.out.size))
    have s2 := hb.size
    clear hb
    rcases hq1 with rfl | ⟨hsz1, rfl⟩
    · go_wp2
      go_ret
      exact ⟨rfl, HB2.out⟩
    · skip
      have HZ1 : Hid (m1.length + cellsM m1 ≤ 1048576) := hide (by omega)
      have HS := hide (hs); have HM := hide (hi)
      clear hs hi
      go_wp2_with fail
      refine (toIntSS_any _ m0 _ (by have := HZ0.out; omega) (inMat_below HI0.out HB2.out)).mono ?_
      rintro e w3 ⟨p0, rfl, ho, hb⟩
      have P0_3 := hide (ho)
      have HB3 := hide (HB2.out.trans (hb.mono HB2.out.size))
      have s3 := hb.size
      clear ho hb
      go_wp2_with fail
      refine (toIntSS_any _ m1 _ (by have := HZ1.out; omega) (inMat_below HI1.out HB3.out)).mono ?_
      rintro e w4 ⟨p1, rfl, ho, hb⟩
      have P0_4 := hide (ownMat_below P0_3.out hb)
      have P1_4 := hide (ho)
      have HB4 := hide (HB3.out.trans (hb.mono HB3.out.size))
      have s4 := hb.size
      clear ho hb
      go_wp2_with fail
      refine (HS.out p0 p1 _ (inMat_own P0_4.out) (inMat_own P1_4.out)).mono ?_
      rintro e w5 ⟨u0, u1, rfl, ho0, ho1, hsep, hb⟩
      have U0L := hide (fun k e => (ho0).lt k e)
      have U0_5 := hide (ho0)
      have U1L := hide (fun k e => (ho1).lt k e)
      have U1_5 := hide (ho1)
      have HB5 := hide (HB4.out.trans (hb.mono HB4.out.size))
      have s5 := hb.size
      clear ho0 ho1 hsep hb
      go_wp2_with fail
      refine (toIntSS_any _ m0 _ (by have := HZ0.out; omega) (inMat_below HI0.out HB5.out)).mono ?_
      rintro e w6 ⟨x0, rfl, ho, hb⟩
      have U0_6 := hide (own_below U0_5.out hb)
      have U1_6 := hide (own_below U1_5.out hb)
      have X0_6 := hide (ho)
      have HB6 := hide (HB5.out.trans (hb.mono HB5.out.size))
      have s6 := hb.size
      clear ho hb
      go_wp2_with fail
      refine (toIntSS_any _ m1 _ (by have := HZ1.out; omega) (inMat_below HI1.out HB6.out)).mono ?_
      rintro e w7 ⟨x1, rfl, ho, hb⟩
      have U0_7 := hide (own_below U0_6.out hb)
      have U1_7 := hide (own_below U1_6.out hb)
      have X0_7 := hide (ownMat_below X0_6.out hb)
      have X1_7 := hide (ho)
      have HB7 := hide (HB6.out.trans (hb.mono HB6.out.size))
      have s7 := hb.size
      clear ho hb
      go_wp2_with fail
      refine (HM.out x0 x1 _ (inMat_own X0_7.out) (inMat_own X1_7.out)).mono ?_
      rintro e w8 ⟨g0, g1, rfl, ho0, ho1, hsep, hb⟩
      have SEP := hide hsep
      have U0_8 := hide (own_below U0_7.out hb)
      have U1_8 := hide (own_below U1_7.out hb)
      have X0_8 := hide (ownMat_below X0_7.out hb)
      have X1_8 := hide (ownMat_below X1_7.out hb)
      have G0L := hide (fun k e => (ho0).lt k e)
      have G0_8 := hide (ho0)
      have G1L := hide (fun k e => (ho1).lt k e)
      have G1_8 := hide (ho1)
      have HB8 := hide (HB7.out.trans (hb.mono HB7.out.size))
      have s8 := hb.size
      clear ho0 ho1 hsep hb
      go_wp2_with fail
      refine (eqIntS_same g0 u0 r_0 _ (inRow_own G0_8.out) (inRow_own U0_8.out)).mono ?_
      rintro e w9 ⟨rfl, hb⟩
      have U0_9 := hide (own_below U0_8.out hb)
      have U1_9 := hide (own_below U1_8.out hb)
      have X0_9 := hide (ownMat_below X0_8.out hb)
      have X1_9 := hide (ownMat_below X1_8.out hb)
      have G0_9 := hide (own_below G0_8.out hb)
      have G1_9 := hide (own_below G1_8.out hb)
      have HB9 := hide (HB8.out.trans (hb.mono HB8.out.size))
      have s9 := hb.size
      clear hb
      go_wp2_with fail
      refine (eqIntS_same g1 u1 r_1 _ (inRow_own G1_9.out) (inRow_own U1_9.out)).mono ?_
      rintro e w10 ⟨rfl, hb⟩
      have U0_10 := hide (own_below U0_9.out hb)
      have U1_10 := hide (own_below U1_9.out hb)
      have X0_10 := hide (ownMat_below X0_9.out hb)
      have X1_10 := hide (ownMat_below X1_9.out hb)
      have G0_10 := hide (own_below G0_9.out hb)
      have G1_10 := hide (own_below G1_9.out hb)
      have HB10 := hide (HB9.out.trans (hb.mono HB9.out.size))
      have s10 := hb.size
      clear hb
      go_wp2_with fail
      refine (toIntSS_any _ m0 _ (by have := HZ0.out; omega) (inMat_below HI0.out HB10.out)).mono ?_
      rintro e w11 ⟨z0, rfl, ho, hb⟩
      have U0_11 := hide (own_below U0_10.out hb)
      have U1_11 := hide (own_below U1_10.out hb)
      have X0_11 := hide (ownMat_below X0_10.out hb)
      have X1_11 := hide (ownMat_below X1_10.out hb)
      have G0_11 := hide (own_below G0_10.out hb)
      have G1_11 := hide (own_below G1_10.out hb)
      have Z0_11 := hide (ho)
      have HB11 := hide (HB10.out.trans (hb.mono HB10.out.size))
      have s11 := hb.size
      clear ho hb
      go_wp2_with fail
      refine (eqIntSS_same x0 z0 m0 _ (inMat_own X0_11.out) (inMat_own Z0_11.out)).mono ?_
      rintro e w12 ⟨rfl, hb⟩
      have U0_12 := hide (own_below U0_11.out hb)
      have U1_12 := hide (own_below U1_11.out hb)
      have X0_12 := hide (ownMat_below X0_11.out hb)
      have X1_12 := hide (ownMat_below X1_11.out hb)
      have G0_12 := hide (own_below G0_11.out hb)
      have G1_12 := hide (own_below G1_11.out hb)
      have HB12 := hide (HB11.out.trans (hb.mono HB11.out.size))
      have s12 := hb.size
      clear hb
      go_wp2_with fail
      refine (toIntSS_any _ m1 _ (by have := HZ1.out; omega) (inMat_below HI1.out HB12.out)).mono ?_
      rintro e w13 ⟨z1, rfl, ho, hb⟩
      have U0_13 := hide (own_below U0_12.out hb)
      have U1_13 := hide (own_below U1_12.out hb)
      have X0_13 := hide (ownMat_below X0_12.out hb)
      have X1_13 := hide (ownMat_below X1_12.out hb)
      have G0_13 := hide (own_below G0_12.out hb)
      have G1_13 := hide (own_below G1_12.out hb)
      have Z1_13 := hide (ho)
      have HB13 := hide (HB12.out.trans (hb.mono HB12.out.size))
      have s13 := hb.size
      clear ho hb
      go_wp2_with fail
      refine (eqIntSS_same x1 z1 m1 _ (inMat_own X1_13.out) (inMat_own Z1_13.out)).mono ?_
      rintro e w14 ⟨rfl, hb⟩
      have U0_14 := hide (own_below U0_13.out hb)
      have U1_14 := hide (own_below U1_13.out hb)
      have X0_14 := hide (ownMat_below X0_13.out hb)
      have X1_14 := hide (ownMat_below X1_13.out hb)
      have G0_14 := hide (own_below G0_13.out hb)
      have G1_14 := hide (own_below G1_13.out hb)
      have HB14 := hide (HB13.out.trans (hb.mono HB13.out.size))
      have s14 := hb.size
      clear hb
      go_wp2_with fail
      refine (markIntSS_any m0 1 _ _ x0 _ (by have := HZ0.out; omega) (by omega) X0_14.out).mono ?_
      rintro e w15 ⟨rfl, -, hwi⟩
      have U0_15 := hide (own_within U0_14.out hwi (fun k e => by have h1 := U0L.out k e; omega))
      have U1_15 := hide (own_within U1_14.out hwi (fun k e => by have h1 := U1L.out k e; omega))
      have X1_15 := hide (ownMat_within X1_14.out hwi (by omega))
      have G0_15 := hide (own_within G0_14.out hwi (fun k e => by have h1 := G0L.out k e; omega))
      have G1_15 := hide (own_within G1_14.out hwi (fun k e => by have h1 := G1L.out k e; omega))
      have HB15 := hide (HB14.out.trans (below_within hwi (by omega) HB14.out.size))
      have s15 := hwi.size
      clear hwi
      go_wp2_with fail
      refine (markIntSS_any m1 (1 + cellsM m0) _ _ x1 _ (by have := HZ1.out; omega) (by have := HZ0.out; omega) X1_15.out).mono ?_
      rintro e w16 ⟨rfl, -, hwi⟩
      have U0_16 := hide (own_within U0_15.out hwi (fun k e => by have h1 := U0L.out k e; omega))
      have U1_16 := hide (own_within U1_15.out hwi (fun k e => by have h1 := U1L.out k e; omega))
      have G0_16 := hide (own_within G0_15.out hwi (fun k e => by have h1 := G0L.out k e; omega))
      have G1_16 := hide (own_within G1_15.out hwi (fun k e => by have h1 := G1L.out k e; omega))
      have HB16 := hide (HB15.out.trans (below_within hwi (by omega) HB15.out.size))
      have s16 := hwi.size
      clear hwi
      go_wp2_with fail
      refine (eqIntS_same g0 u0 r_0 _ (inRow_own G0_16.out) (inRow_own U0_16.out)).mono ?_
      rintro e w17 ⟨rfl, hb⟩
      have U0_17 := hide (own_below U0_16.out hb)
      have U1_17 := hide (own_below U1_16.out hb)
      have G0_17 := hide (own_below G0_16.out hb)
      have G1_17 := hide (own_below G1_16.out hb)
      have HB17 := hide (HB16.out.trans (hb.mono HB16.out.size))
      have s17 := hb.size
      clear hb
      go_wp2_with fail
      refine (eqIntS_same g1 u1 r_1 _ (inRow_own G1_17.out) (inRow_own U1_17.out)).mono ?_
      rintro e w18 ⟨rfl, hb⟩
      have U0_18 := hide (own_below U0_17.out hb)
      have U1_18 := hide (own_below U1_17.out hb)
      have G0_18 := hide (own_below G0_17.out hb)
      have G1_18 := hide (own_below G1_17.out hb)
      have HB18 := hide (HB17.out.trans (hb.mono HB17.out.size))
      have s18 := hb.size
      clear hb
      go_wp2_with fail
      refine (markIntS_any r_0.length 1 g0 _ _ _ (by omega) (by omega) G0_18.out).mono ?_
      rintro e w19 ⟨rfl, ho, hg⟩
      have hwi := within_grown (lo := w7.heap.size) (hi := w8.heap.size) hg (fun k e => G0L.out k e)
      have U0_19 := hide (own_within U0_18.out hwi (fun k e => by have h1 := U0L.out k e; omega))
      have U1_19 := hide (own_within U1_18.out hwi (fun k e => by have h1 := U1L.out k e; omega))
      have G1_19 := hide (G1_18.out.kept hg (sep_symm SEP.out))
      have HB19 := hide (HB18.out.trans (below_within hwi (by omega) HB18.out.size))
      have s19 := hwi.size
      clear hwi
      have M0_19 := hide ho; have M0L := G0L; clear ho hg
      go_wp2_with fail
      refine (markIntS_any r_1.length (1 + r_0.length) g1 _ _ _ (by omega) (by omega) G1_19.out).mono ?_
      rintro e w20 ⟨rfl, ho, hg⟩
      have hwi := within_grown (lo := w7.heap.size) (hi := w8.heap.size) hg (fun k e => G1L.out k e)
      have U0_20 := hide (own_within U0_19.out hwi (fun k e => by have h1 := U0L.out k e; omega))
      have U1_20 := hide (own_within U1_19.out hwi (fun k e => by have h1 := U1L.out k e; omega))
      have M0_20 := hide (M0_19.out.kept hg (SEP.out))
      have HB20 := hide (HB19.out.trans (below_within hwi (by omega) HB19.out.size))
      have s20 := hwi.size
      clear hwi
      have M1_20 := hide ho; have M1L := G1L; clear ho hg
      go_wp2_with fail
      refine (heldIntS_any r_0.length 1 g0 _ (by omega) (by omega) (by have hm := inRow_own (r := markR r_0.length 1) (by rw [markR_len]; exact M0_20.out); exact hm)).mono ?_
      rintro e w21 ⟨rfl, hb⟩
      have U0_21 := hide (own_below U0_20.out hb)
      have U1_21 := hide (own_below U1_20.out hb)
      have M0_21 := hide (own_below M0_20.out hb)
      have M1_21 := hide (own_below M1_20.out hb)
      have HB21 := hide (HB20.out.trans (hb.mono HB20.out.size))
      have s21 := hb.size
      clear hb
      go_wp2_with fail
      refine (heldIntS_any r_1.length (1 + r_0.length) g1 _ (by omega) (by omega) (by have hm := inRow_own (r := markR r_1.length (1 + r_0.length)) (by rw [markR_len]; exact M1_21.out); exact hm)).mono ?_
      rintro e w22 ⟨rfl, hb⟩
      have U0_22 := hide (own_below U0_21.out hb)
      have U1_22 := hide (own_below U1_21.out hb)
      have M0_22 := hide (own_below M0_21.out hb)
      have M1_22 := hide (own_below M1_21.out hb)
      have HB22 := hide (HB21.out.trans (hb.mono HB21.out.size))
      have s22 := hb.size
      clear hb
      go_wp2_with fail
      refine (toIntSS_any _ m0 _ (by have := HZ0.out; omega) (inMat_below HI0.out HB22.out)).mono ?_
      rintro e w23 ⟨y0, rfl, ho, hb⟩
      have U0_23 := hide (own_below U0_22.out hb)
      have U1_23 := hide (own_below U1_22.out hb)
      have M0_23 := hide (own_below M0_22.out hb)
      have M1_23 := hide (own_below M1_22.out hb)
      have Y0_23 := hide (ho)
      have HB23 := hide (HB22.out.trans (hb.mono HB22.out.size))
      have s23 := hb.size
      clear ho hb
      go_wp2_with fail
      refine (toIntSS_any _ m1 _ (by have := HZ1.out; omega) (inMat_below HI1.out HB23.out)).mono ?_
      rintro e w24 ⟨y1, rfl, ho, hb⟩
      have U0_24 := hide (own_below U0_23.out hb)
      have U1_24 := hide (own_below U1_23.out hb)
      have M0_24 := hide (own_below M0_23.out hb)
      have M1_24 := hide (own_below M1_23.out hb)
      have Y0_24 := hide (ownMat_below Y0_23.out hb)
      have Y1_24 := hide (ho)
      have HB24 := hide (HB23.out.trans (hb.mono HB23.out.size))
      have s24 := hb.size
      clear ho hb
      go_wp2_with fail
      refine (HM.out y0 y1 _ (inMat_own Y0_24.out) (inMat_own Y1_24.out)).mono ?_
      rintro e w25 ⟨h0, h1, rfl, ho0, ho1, hsep, hb⟩
      have U0_25 := hide (own_below U0_24.out hb)
      have U1_25 := hide (own_below U1_24.out hb)
      have M0_25 := hide (own_below M0_24.out hb)
      have M1_25 := hide (own_below M1_24.out hb)
      have H0L := hide (fun k e => (ho0).lt k e)
      have H0_25 := hide (ho0)
      have H1L := hide (fun k e => (ho1).lt k e)
      have H1_25 := hide (ho1)
      have HB25 := hide (HB24.out.trans (hb.mono HB24.out.size))
      have s25 := hb.size
      clear ho0 ho1 hsep hb
      go_wp2_with fail
      refine (eqIntS_same h0 u0 r_0 _ (inRow_own H0_25.out) (inRow_own U0_25.out)).mono ?_
      rintro e w26 ⟨rfl, hb⟩
      have U0_26 := hide (own_below U0_25.out hb)
      have U1_26 := hide (own_below U1_25.out hb)
      have M0_26 := hide (own_below M0_25.out hb)
      have M1_26 := hide (own_below M1_25.out hb)
      have H0_26 := hide (own_below H0_25.out hb)
      have H1_26 := hide (own_below H1_25.out hb)
      have HB26 := hide (HB25.out.trans (hb.mono HB25.out.size))
      have s26 := hb.size
      clear hb
      go_wp2_with fail
      refine (eqIntS_same h1 u1 r_1 _ (inRow_own H1_26.out) (inRow_own U1_26.out)).mono ?_
      rintro e w27 ⟨rfl, hb⟩
      have U0_27 := hide (own_below U0_26.out hb)
      have U1_27 := hide (own_below U1_26.out hb)
      have M0_27 := hide (own_below M0_26.out hb)
      have M1_27 := hide (own_below M1_26.out hb)
      have H0_27 := hide (own_below H0_26.out hb)
      have H1_27 := hide (own_below H1_26.out hb)
      have HB27 := hide (HB26.out.trans (hb.mono HB26.out.size))
      have s27 := hb.size
      clear hb
      go_wp2_with fail
      refine (heldIntS_any r_0.length 1 g0 _ (by omega) (by omega) (by have hm := inRow_own (r := markR r_0.length 1) (by rw [markR_len]; exact M0_27.out); exact hm)).mono ?_
      rintro e w28 ⟨rfl, hb⟩
      have M0_28 := hide (own_below M0_27.out hb)
      have M1_28 := hide (own_below M1_27.out hb)
      have HB28 := hide (HB27.out.trans (hb.mono HB27.out.size))
      have s28 := hb.size
      clear hb
      go_wp2_with fail
      refine (heldIntS_any r_1.length (1 + r_0.length) g1 _ (by omega) (by omega) (by have hm := inRow_own (r := markR r_1.length (1 + r_0.length)) (by rw [markR_len]; exact M1_28.out); exact hm)).mono ?_
      rintro e w29 ⟨rfl, hb⟩
      have M0_29 := hide (own_below M0_28.out hb)
      have M1_29 := hide (own_below M1_28.out hb)
      have HB29 := hide (HB28.out.trans (hb.mono HB28.out.size))
      have s29 := hb.size
      clear hb
      go_wp2
      go_ret
      exact ⟨rfl, HB29.out⟩

theorem fpA_len (k m : List (List Int)) : (fpA k m).length ≤ 1000000 ∧ (fpC k m).length ≤ 1000000 := by
  unfold fpA fpC fpP
  cases h : wtOfB k m with
  | false => rw [if_neg (by decide)]; simp
  | true =>
    have hok : okB m = true := by unfold wtOfB at h; rw [Bool.and_eq_true] at h; exact h.1
    obtain ⟨R, C, f, rfl, hI⟩ := ok_img hok
    have hR := hI.r2; have hC := hI.c2
    rw [if_pos rfl, mkM_len, width_mkM hI.r1]
    constructor
    · split
      · simp
      · rw [rowF_len]; omega
    · split
      · simp
      · rw [rowF_len]; omega
theorem lawFindPrices_walk (a0 : Option Addr) (n0 c0 : Nat) (m0 : List (List Int)) (a1 : Option Addr) (n1 c1 : Nat) (m1 : List (List Int)) (w : World) (hin0 : InMat w (.slice a0 n0 c0) m0) (hin1 : InMat w (.slice a1 n1 c1) m1) :
    Calls Try.prog 7 #[.slice a0 n0 c0, .slice a1 n1 c1] w fun e w' => e = .returned (.bool true) ∧ Below w.heap.size w w' :=
  lawFindPrices_gen a0 n0 c0 m0 a1 n1 c1 m1 w hin0 hin1 (fpA m0 m1) (fpC m0 m1) (fpB m0 m1) (fpA_len m0 m1).1 (fpA_len m0 m1).2 (fun v0 v1 w h0 h1 => specFind_any v0 v1 m0 m1 w h0 h1) (fun v0 v1 w h0 h1 => implFind_any v0 v1 m0 m1 w h0 h1)
end Go.Proofs.Ytldbgkmgmhlbiaa
