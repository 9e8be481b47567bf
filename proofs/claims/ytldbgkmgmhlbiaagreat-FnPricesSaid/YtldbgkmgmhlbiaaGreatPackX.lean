/-
  Texts of this claim, one behind the other: PrL.
-/
import Derived.Test.YtldbgkmgmhlbiaaGreatPackR
import Derived.Test.YtldbgkmgmhlbiaaGreatPackU
import Derived.Test.YtldbgkmgmhlbiaaGreatPackW
import Derived.Test.YtldbgkmgmhlbiaaGreatPackN
/-
  The law FnPrices, walked.
-/
namespace Go.Proofs.YtldbgkmgmhlbiaaGreat
open Go.RowKit
set_option linter.unusedVariables false

def CellAt (w : World) (b o : Nat) (v : Value) : Prop := b < w.heap.size ∧ w.cell? ⟨b, o, none⟩ = some v
theorem cellAt_below {w w' : World} {b o : Nat} {v : Value} (h : CellAt w b o v) (hb : Below w.heap.size w w') : CellAt w' b o v := ⟨Nat.lt_of_lt_of_le h.1 hb.size, below_cell hb h.1 h.2⟩
theorem heavy_yes (va vb vk : Value) (r c : List Int) (k q : List (List Int)) (n : Int) (w : World) (ha : RowC w va r) (hb : RowC w vb c) (hk : InMat w vk k) (h1 : heavB r c k = true) (h2 : heavP r c k = (q, n)) :
    Calls Tryz.prog 15 #[va, vb, vk] w (PickRes q n true w) := by
  have := implHeaviest_any va vb vk r c k w ha hb hk
  rw [h1, h2] at this; exact this
theorem weight_yes (vk vm : Value) (k m : List (List Int)) (n : Int) (w : World) (hk : InMat w vk k) (hm : InMat w vm m) (h1 : wtOfB k m = true) (h2 : wtOf k m = n) :
    Calls Tryz.prog 16 #[vk, vm] w fun e w' => e = .returned (.tuple #[.int .i64 n, .bool true]) ∧ Below w.heap.size w w' := by
  have := implWeightOf_any vk vm k m w hk hm
  rw [h1, h2] at this; exact this
theorem wtok_yes (v : Value) (k : List (List Int)) (R C : Int) (w : World) (hin : InMat w v k) (h : wtB k R C = true) :
    Calls Tryz.prog 17 #[v, .int .i64 R, .int .i64 C] w fun e w' => e = .returned (.bool true) ∧ Below w.heap.size w w' := by
  have := implWeightOk_any v k R C w hin
  rw [h] at this; exact this
theorem find_as (vk vm : Value) (k m : List (List Int)) (b : Bool) (w : World) (hk : InMat w vk k) (hm : InMat w vm m) (h : fpB k m = b) :
    Calls Tryz.prog 18 #[vk, vm] w (FpRes (fpA k m) (fpC k m) b w) := by
  have := implFind_any vk vm k m w hk hm
  rw [h] at this; exact this
theorem prices_as (vk vm va vb : Value) (k m : List (List Int)) (a b : List Int) (t : Bool) (w : World) (hk : InMat w vk k) (hm : InMat w vm m) (ha : InRow w va a) (hb : InRow w vb b) (h : prOkB k m a b = t) :
    Calls Tryz.prog 19 #[vk, vm, va, vb] w fun e w' => e = .returned (.bool t) ∧ Below w.heap.size w w' := by
  have := implPricesOk_any vk vm va vb k m a b w hk hm ha hb
  rw [h] at this; exact this
set_option maxRecDepth 100000 in
set_option maxHeartbeats 8000000 in
theorem lawPrices_walk (a : Option Addr) (n c : Nat) (w : World) (hin : InBytes w w.heap.size a n) :
    Calls Tryz.prog 4 #[.slice a n c] w fun e w' => e = .returned (.bool true) ∧ Below w.heap.size w w' := by
  have hmax := hin.1
  unfold maxLen at hmax
  by_cases hbig : 1048576 < n
  · go_enter Tryz.func4, Tryz.ntmps4
    clear hin
    go_wp2
    go_ret
    exact ⟨rfl, Below.refl _ _⟩
  · have HIN := hide hin
    clear hin
    go_enter Tryz.func4, Tryz.ntmps4
    have HB := hide (Below.refl w.heap.size w)
    go_wp2_with fail
    refine (makePair_any n c a _ HIN.out).mono ?_
    rintro e w1 ⟨v, u, R, C, f, g, rfl, hI, hJ, hsf, hR4, hC4, hv, hu, hb⟩
    have hs1 := hb.size
    replace HB := hide (HB.out.trans (hb.mono HB.out.size))
    have HM := hide (hv)
    have HG := hide (hu)
    clear hb
    have HI := hide hI; have HJ := hide hJ; have HSF := hide hsf
    have hR := hI.r2; have hR1 := hI.r1; have hC := hI.c2; have hC1 := hI.c1
    have HEI := hide (show InBytes w1 w.heap.size a n from inBytes_below HIN.out HB.out)
    obtain ⟨ua, uc, rfl⟩ : ∃ a c, u = .slice a R c := by obtain ⟨a, c, rfl, -⟩ := HG.out; rw [mkM_len]; exact ⟨a, c, rfl⟩
    obtain ⟨mg, mo, mc, rfl, hmg, hmcell⟩ := inMat_img HM.out (by omega) (by omega)
    have HMG := hide hmg
    obtain ⟨g0, o0, c0, hx0, -⟩ := hmcell 0 (by omega)
    rw [Nat.add_zero] at hx0
    have HCELL := hide (show CellAt w1 mg mo (.slice (some ⟨g0, o0, none⟩) C c0) from ⟨hmg, hx0⟩)
    clear hI hJ hsf hv hu hmg hmcell hR4 hC4
    go_wp2_with fail
    refine (makeWeights_any n c a 30 R C _ _ HEI.out (by omega) (by omega) ⟨hR1, hR⟩ ⟨hC1, hC⟩).mono ?_
    rintro e w2 ⟨kv, kk, rfl, hkl, hkr, hk, hb⟩
    have hs2 := hb.size
    replace HM := hide (inMat_below HM.out hb)
    replace HG := hide (inMat_below HG.out hb)
    replace HCELL := hide (cellAt_below HCELL.out hb)
    replace HB := hide (HB.out.trans (hb.mono HB.out.size))
    have HK := hide (hk)
    clear hb
    have hsz := rowsW_mk hkr hkl
    obtain ⟨ka, kc, rfl⟩ : ∃ a c, kv = .slice a R c := by obtain ⟨a, c, rfl, -⟩ := HK.out; rw [hkl]; exact ⟨a, c, rfl⟩
    obtain ⟨q, N, hhb, hhp, hQ, hsb, hwq, hwf, hwg, hfq, hff, hpf⟩ := price_facts HI.out HJ.out HSF.out hsz
    have HHB := hide hhb; have HHP := hide hhp; have HQ := hide hQ; have HSB := hide hsb; have HWQ := hide hwq; have HFQ := hide hfq; have HFF := hide hff; have HPF := hide hpf
    have HPQ := hide (find_fits hsz hQ hfq)
    have HFP := hide fun (h : fpB kk (mkM R C f) = true) => find_fits hsz HI.out h
    have HW1 := hide (wtOf_mk hsz HI.out).1; have HW2 := hide (wtOf_mk hsz HJ.out).1; have HW3 := hide (wtOf_mk hsz hQ).1
    have HWB := hide (show wtB kk R C = true by rw [wtB, Int.toNat_natCast, Int.toNat_natCast, hsz, sizeOk, decide_eq_true (by omega), decide_eq_true (by omega)]; rfl)
    obtain ⟨vf, hvf⟩ : ∃ vf, vf = wtOf kk (mkM R C f) := ⟨_, rfl⟩
    obtain ⟨ug, hug⟩ : ∃ ug, ug = wtOf kk (mkM R C g) := ⟨_, rfl⟩
    have HVF := hide hvf.symm; have HUG := hide hug.symm
    rw [← hvf] at hwf HFF HPF
    rw [← hug] at hwg
    clear hk hkl hkr hsz hhb hhp hQ hsb hwq hfq hff hpf hvf hug HEI hx0
    go_wp2_with fail
    refine (implRowSums_yes (.slice (some ⟨mg, mo, none⟩) R mc) R C f _ HM.out HI.out).mono ?_
    rintro e w3 ⟨rv1, rfl, ho, hb⟩
    have hs3 := hb.size
    replace HM := hide (inMat_below HM.out hb)
    replace HG := hide (inMat_below HG.out hb)
    replace HCELL := hide (cellAt_below HCELL.out hb)
    replace HK := hide (inMat_below HK.out hb)
    replace HB := hide (HB.out.trans (hb.mono HB.out.size))
    have HR1 := hide (rowC_own ho)
    clear hb
    clear ho
    go_wp2_with fail
    refine (implColSums_yes (.slice (some ⟨mg, mo, none⟩) R mc) R C f _ HM.out HI.out).mono ?_
    rintro e w4 ⟨cv1, rfl, ho, hb⟩
    have hs4 := hb.size
    replace HM := hide (inMat_below HM.out hb)
    replace HG := hide (inMat_below HG.out hb)
    replace HCELL := hide (cellAt_below HCELL.out hb)
    replace HK := hide (inMat_below HK.out hb)
    replace HR1 := hide (rowC_below HR1.out hb)
    replace HB := hide (HB.out.trans (hb.mono HB.out.size))
    have HC1 := hide (rowC_own ho)
    clear hb
    clear ho
    go_wp2_with fail
    refine (heavy_yes rv1 cv1 (.slice ka R kc) _ _ _ _ _ _ HR1.out HC1.out HK.out HHB.out HHP.out).mono ?_
    rintro e w5 ⟨xv, rfl, ho, hb⟩
    have hs5 := hb.size
    replace HM := hide (inMat_below HM.out hb)
    replace HG := hide (inMat_below HG.out hb)
    replace HCELL := hide (cellAt_below HCELL.out hb)
    replace HK := hide (inMat_below HK.out hb)
    replace HR1 := hide (rowC_below HR1.out hb)
    replace HC1 := hide (rowC_below HC1.out hb)
    replace HB := hide (HB.out.trans (hb.mono HB.out.size))
    have HXM := hide (inMat_own ho)
    clear hb
    clear ho
    obtain ⟨xa, xc, rfl⟩ : ∃ a c, xv = .slice a R c := by obtain ⟨a, c, rfl, -⟩ := HXM.out; rw [mkM_len]; exact ⟨a, c, rfl⟩
    clear HR1
    clear HC1
    go_wp2_with fail
    refine (weight_yes (.slice ka R kc) (.slice (some ⟨mg, mo, none⟩) R mc) _ _ _ _ HK.out HM.out HW1.out HVF.out).mono ?_
    rintro e w6 ⟨rfl, hb⟩
    have hs6 := hb.size
    replace HM := hide (inMat_below HM.out hb)
    replace HG := hide (inMat_below HG.out hb)
    replace HCELL := hide (cellAt_below HCELL.out hb)
    replace HK := hide (inMat_below HK.out hb)
    replace HXM := hide (inMat_below HXM.out hb)
    replace HB := hide (HB.out.trans (hb.mono HB.out.size))
    clear hb
    go_wp2_with fail
    refine (weight_yes (.slice ka R kc) (.slice ua R uc) _ _ _ _ HK.out HG.out HW2.out HUG.out).mono ?_
    rintro e w7 ⟨rfl, hb⟩
    have hs7 := hb.size
    replace HM := hide (inMat_below HM.out hb)
    replace HG := hide (inMat_below HG.out hb)
    replace HCELL := hide (cellAt_below HCELL.out hb)
    replace HK := hide (inMat_below HK.out hb)
    replace HXM := hide (inMat_below HXM.out hb)
    replace HB := hide (HB.out.trans (hb.mono HB.out.size))
    clear hb
    go_wp2_with fail
    refine (weight_yes (.slice ka R kc) (.slice xa R xc) _ _ _ _ HK.out HXM.out HW3.out HWQ.out).mono ?_
    rintro e w8 ⟨rfl, hb⟩
    have hs8 := hb.size
    replace HM := hide (inMat_below HM.out hb)
    replace HG := hide (inMat_below HG.out hb)
    replace HCELL := hide (cellAt_below HCELL.out hb)
    replace HK := hide (inMat_below HK.out hb)
    replace HXM := hide (inMat_below HXM.out hb)
    replace HB := hide (HB.out.trans (hb.mono HB.out.size))
    clear hb
    have hx0 := HCELL.out.2
    go_wp2_with fail
    refine (wtok_yes (.slice ka R kc) kk R C _ HK.out HWB.out).mono ?_
    rintro e w9 ⟨rfl, hb⟩
    have hs9 := hb.size
    replace HM := hide (inMat_below HM.out hb)
    replace HG := hide (inMat_below HG.out hb)
    replace HCELL := hide (cellAt_below HCELL.out hb)
    replace HK := hide (inMat_below HK.out hb)
    replace HXM := hide (inMat_below HXM.out hb)
    replace HB := hide (HB.out.trans (hb.mono HB.out.size))
    clear hb
    clear hx0
    go_wp2_with fail
    refine (same_okI (.slice xa R xc) (.slice (some ⟨mg, mo, none⟩) R mc) _ _ _ HXM.out HM.out HSB.out).mono ?_
    rintro e w10 ⟨rfl, hb⟩
    have hs10 := hb.size
    replace HM := hide (inMat_below HM.out hb)
    replace HG := hide (inMat_below HG.out hb)
    replace HCELL := hide (cellAt_below HCELL.out hb)
    replace HK := hide (inMat_below HK.out hb)
    replace HXM := hide (inMat_below HXM.out hb)
    replace HB := hide (HB.out.trans (hb.mono HB.out.size))
    clear hb
    go_wp2_with fail
    refine (find_as (.slice ka R kc) (.slice xa R xc) _ _ true _ HK.out HXM.out HFQ.out).mono ?_
    rintro e w11 ⟨pv, qv, rfl, hp0, hp1, -, hb⟩
    have hs11 := hb.size
    replace HM := hide (inMat_below HM.out hb)
    replace HG := hide (inMat_below HG.out hb)
    replace HCELL := hide (cellAt_below HCELL.out hb)
    replace HK := hide (inMat_below HK.out hb)
    replace HXM := hide (inMat_below HXM.out hb)
    replace HB := hide (HB.out.trans (hb.mono HB.out.size))
    have HP0 := hide (inRow_own hp0)
    have HP1 := hide (inRow_own hp1)
    clear hb
    obtain ⟨pa, pc, rfl⟩ := own_slice hp0
    obtain ⟨qa, qc, rfl⟩ := own_slice hp1
    obtain ⟨pn, hpn⟩ : ∃ pn, pn = (fpA kk (mkM R C q)).length := ⟨_, rfl⟩
    obtain ⟨qn, hqn⟩ : ∃ qn, qn = (fpC kk (mkM R C q)).length := ⟨_, rfl⟩
    rw [← hpn] at HP0 ⊢
    rw [← hqn] at HP1 ⊢
    clear hp0 hp1 hpn hqn
    go_wp2_with fail
    refine (prices_as (.slice ka R kc) (.slice xa R xc) (.slice pa pn pc) (.slice qa qn qc) _ _ _ _ true _ HK.out HXM.out HP0.out HP1.out HPQ.out).mono ?_
    rintro e w12 ⟨rfl, hb⟩
    have hs12 := hb.size
    replace HM := hide (inMat_below HM.out hb)
    replace HG := hide (inMat_below HG.out hb)
    replace HCELL := hide (cellAt_below HCELL.out hb)
    replace HK := hide (inMat_below HK.out hb)
    replace HXM := hide (inMat_below HXM.out hb)
    replace HP0 := hide (inRow_below HP0.out hb)
    replace HP1 := hide (inRow_below HP1.out hb)
    replace HB := hide (HB.out.trans (hb.mono HB.out.size))
    clear hb
    by_cases hvn : vf = N
    · have HFB := hide (show fpB kk (mkM R C f) = true by rw [HFF.out, decide_eq_true hvn])
      have HPB := hide (show prOkB kk (mkM R C f) (fpA kk (mkM R C q)) (fpC kk (mkM R C q)) = true by rw [HPF.out, decide_eq_true hvn])
      subst hvn
      have hbe : (vf == vf) = true := beq_self_eq_true vf
      go_wp2_with fail
      refine (find_as (.slice ka R kc) (.slice (some ⟨mg, mo, none⟩) R mc) _ _ true _ HK.out HM.out HFB.out).mono ?_
      rintro e w13 ⟨sv, tv, rfl, hp0, hp1, -, hb⟩
      have hs13 := hb.size
      replace HM := hide (inMat_below HM.out hb)
      replace HG := hide (inMat_below HG.out hb)
      replace HCELL := hide (cellAt_below HCELL.out hb)
      replace HK := hide (inMat_below HK.out hb)
      replace HXM := hide (inMat_below HXM.out hb)
      replace HP0 := hide (inRow_below HP0.out hb)
      replace HP1 := hide (inRow_below HP1.out hb)
      replace HB := hide (HB.out.trans (hb.mono HB.out.size))
      have HS0 := hide (inRow_own hp0)
      have HS1 := hide (inRow_own hp1)
      clear hb
      obtain ⟨sa, sc, rfl⟩ := own_slice hp0
      obtain ⟨ta, tc, rfl⟩ := own_slice hp1
      obtain ⟨sn, hsn⟩ : ∃ sn, sn = (fpA kk (mkM R C f)).length := ⟨_, rfl⟩
      obtain ⟨tn, htn⟩ : ∃ tn, tn = (fpC kk (mkM R C f)).length := ⟨_, rfl⟩
      rw [← hsn] at HS0 ⊢
      rw [← htn] at HS1 ⊢
      clear hp0 hp1 hsn htn
      go_wp2_with fail
      refine (prices_as (.slice ka R kc) (.slice (some ⟨mg, mo, none⟩) R mc) (.slice sa sn sc) (.slice ta tn tc) _ _ _ _ true _ HK.out HM.out HS0.out HS1.out (HFP.out HFB.out)).mono ?_
      rintro e w14 ⟨rfl, hb⟩
      have hs14 := hb.size
      replace HM := hide (inMat_below HM.out hb)
      replace HG := hide (inMat_below HG.out hb)
      replace HCELL := hide (cellAt_below HCELL.out hb)
      replace HK := hide (inMat_below HK.out hb)
      replace HXM := hide (inMat_below HXM.out hb)
      replace HP0 := hide (inRow_below HP0.out hb)
      replace HP1 := hide (inRow_below HP1.out hb)
      replace HS0 := hide (inRow_below HS0.out hb)
      replace HS1 := hide (inRow_below HS1.out hb)
      replace HB := hide (HB.out.trans (hb.mono HB.out.size))
      clear hb
      go_wp2_with fail
      refine (prices_as (.slice ka R kc) (.slice (some ⟨mg, mo, none⟩) R mc) (.slice pa pn pc) (.slice qa qn qc) _ _ _ _ true _ HK.out HM.out HP0.out HP1.out HPB.out).mono ?_
      rintro e w15 ⟨rfl, hb⟩
      have hs15 := hb.size
      replace HM := hide (inMat_below HM.out hb)
      replace HG := hide (inMat_below HG.out hb)
      replace HCELL := hide (cellAt_below HCELL.out hb)
      replace HK := hide (inMat_below HK.out hb)
      replace HXM := hide (inMat_below HXM.out hb)
      replace HP0 := hide (inRow_below HP0.out hb)
      replace HP1 := hide (inRow_below HP1.out hb)
      replace HS0 := hide (inRow_below HS0.out hb)
      replace HS1 := hide (inRow_below HS1.out hb)
      replace HB := hide (HB.out.trans (hb.mono HB.out.size))
      clear hb
      go_wp2
      go_ret
      exact ⟨rfl, HB.out⟩
    · have HFB := hide (show fpB kk (mkM R C f) = false by rw [HFF.out, decide_eq_false hvn])
      have HPB := hide (show prOkB kk (mkM R C f) (fpA kk (mkM R C q)) (fpC kk (mkM R C q)) = false by rw [HPF.out, decide_eq_false hvn])
      have hbe : (vf == N) = false := beq_eq_false_iff_ne.2 hvn
      clear hvn
      go_wp2_with fail
      refine (find_as (.slice ka R kc) (.slice (some ⟨mg, mo, none⟩) R mc) _ _ false _ HK.out HM.out HFB.out).mono ?_
      rintro e w13 ⟨sv, tv, rfl, hp0, hp1, -, hb⟩
      have hs13 := hb.size
      replace HM := hide (inMat_below HM.out hb)
      replace HG := hide (inMat_below HG.out hb)
      replace HCELL := hide (cellAt_below HCELL.out hb)
      replace HK := hide (inMat_below HK.out hb)
      replace HXM := hide (inMat_below HXM.out hb)
      replace HP0 := hide (inRow_below HP0.out hb)
      replace HP1 := hide (inRow_below HP1.out hb)
      replace HB := hide (HB.out.trans (hb.mono HB.out.size))
      have HS0 := hide (inRow_own hp0)
      have HS1 := hide (inRow_own hp1)
      clear hb
      obtain ⟨sa, sc, rfl⟩ := own_slice hp0
      obtain ⟨ta, tc, rfl⟩ := own_slice hp1
      obtain ⟨sn, hsn⟩ : ∃ sn, sn = (fpA kk (mkM R C f)).length := ⟨_, rfl⟩
      obtain ⟨tn, htn⟩ : ∃ tn, tn = (fpC kk (mkM R C f)).length := ⟨_, rfl⟩
      rw [← hsn] at HS0 ⊢
      rw [← htn] at HS1 ⊢
      clear hp0 hp1 hsn htn
      go_wp2_with fail
      refine (prices_as (.slice ka R kc) (.slice (some ⟨mg, mo, none⟩) R mc) (.slice pa pn pc) (.slice qa qn qc) _ _ _ _ false _ HK.out HM.out HP0.out HP1.out HPB.out).mono ?_
      rintro e w14 ⟨rfl, hb⟩
      have hs14 := hb.size
      replace HM := hide (inMat_below HM.out hb)
      replace HG := hide (inMat_below HG.out hb)
      replace HCELL := hide (cellAt_below HCELL.out hb)
      replace HK := hide (inMat_below HK.out hb)
      replace HXM := hide (inMat_below HXM.out hb)
      replace HP0 := hide (inRow_below HP0.out hb)
      replace HP1 := hide (inRow_below HP1.out hb)
      replace HS0 := hide (inRow_below HS0.out hb)
      replace HS1 := hide (inRow_below HS1.out hb)
      replace HB := hide (HB.out.trans (hb.mono HB.out.size))
      clear hb
      go_wp2
      go_ret
      exact ⟨rfl, HB.out⟩
end Go.Proofs.YtldbgkmgmhlbiaaGreat
