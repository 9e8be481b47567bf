/-
  Texts of this claim, one behind the other: Pair, PrL.
-/
import Derived.Test.YtcliiefedmiokaaGreatPackS
import Derived.Test.YtcliiefedmiokaaGreatPackU
import Derived.Test.YtcliiefedmiokaaGreatPackP
import Derived.Test.YtcliiefedmiokaaGreatPackQ
import Derived.Test.YtcliiefedmiokaaGreatPackM
/-
  MakePair: two images that switches join.
-/
namespace Go.Proofs.YtcliiefedmiokaaGreat
open Go.RowKit
set_option maxRecDepth 100000

theorem small_num : ((List.range 625).filter fun i => decide (i / 125 ≤ 3 ∧ i / 25 % 5 ≤ 3 ∧ i / 5 % 5 ≤ 3 ∧ i % 5 ≤ 3)).length = 256 := by decide +kernel
theorem len_mono {α : Type} {p q : α → Bool} (h : ∀ x, p x = true → q x = true) : ∀ l : List α, (l.filter p).length ≤ (l.filter q).length
  | [] => Nat.le_refl _
  | x :: l => by
    have := len_mono h l
    cases hp : p x with
    | false =>
      cases hq : q x with
      | false => simpa [List.filter_cons, hp, hq] using this
      | true => simp only [List.filter_cons, hp, hq, if_true, List.length_cons, Bool.false_eq_true, if_false]; omega
    | true => simp only [List.filter_cons, hp, h x hp, if_true, List.length_cons]; omega
theorem sws_small {R C : Nat} {f : Nat → Nat → Int} (hI : Img R C f) (hR : R ≤ 4) (hC : C ≤ 4) : (swsM (mkM R C f)).length ≤ 256 := by
  unfold swsM upS
  rw [List.length_map, ← small_num]
  refine len_mono (fun i h => ?_) _
  obtain ⟨h1, h2, h3, h4⟩ := swB_dec hI h
  rw [decide_eq_true_eq]
  omega
theorem sameF_flipF {R C : Nat} {f g : Nat → Nat → Int} {s : Sw} (hI : Img R C g) (h : SameF R C f g) (hs : swF R C g s = true) : SameF R C f (flipF g s) := by
  obtain ⟨a, b, c, d, rfl, h4⟩ := swF_iff.1 hs
  exact sameF_trans h (sameF_symm (sameF_flip h4 hI))
/-- What MakePair answers. -/
def PairRes (w : World) (e : Ending) (w' : World) : Prop :=
  ∃ (v u : Value) (R C : Nat) (f g : Nat → Nat → Int), e = .returned (.tuple #[v, u]) ∧ Img R C f ∧ Img R C g ∧ SameF R C f g ∧ R ≤ 4 ∧ C ≤ 4 ∧ InMat w' v (mkM R C f) ∧ InMat w' u (mkM R C g) ∧ Below w.heap.size w w'
theorem ownSws_cur {w w' : World} {lo B : Nat} {v : Value} {l : List Sw} (h : OwnSws w lo v l) (hg : w.grownBy w' (some B)) (hB : B < lo) : OwnSws w' lo v l :=
  ownA_grown h hg fun k hk e => by cases hk; have := (h.lt _ e).1; omega
set_option maxHeartbeats 2000000 in
theorem makePair_any (n c : Nat) (a : Option Addr) (w : World) (hin : InBytes w w.heap.size a n) :
    Calls Tryz.prog 22 #[.slice a n c] w (PairRes w) := by
  have HI := hide hin
  clear hin
  go_enter Tryz.func22, Tryz.ntmps22
  go_wp2_with fail
  refine (l01New_big n c a _ _ HI.out).mono ?_
  rintro e w1 ⟨rfl, hc, hb, hlt⟩
  obtain ⟨B, hB⟩ : ∃ B, w.heap.size = B := ⟨_, rfl⟩
  rw [hB] at hc hb hlt HI ⊢
  have HC := hide hc; have HB := hide hb; have HI1 := hide (inBytes_below HI.out hb)
  have HW := hide hB
  clear hc hb hB HI
  go_wp2_with fail
  refine (l02Draw_most B n a 4 _ B (by omega) (by omega) HC.out HI1.out (Nat.le_refl _)).mono ?_
  rintro e w2 ⟨v, R, C, f, rfl, him, ⟨hR, hC⟩, ho, hc, hb⟩
  have hsz := hb.size
  have HC2 := hide hc; have HB2 := hide (HB.out.trans hb); have HI2 := hide (inBytes_below HI1.out hb); have HIM := hide him
  have HV := hide (ownMat_mono ho (show B + 1 ≤ w1.heap.size from hlt) (Nat.le_refl _))
  clear hc hb ho HC HB HI1
  go_wp2_with fail
  refine (l02Copy_any v R C f _ (inMat_own HV.out) HIM.out).mono ?_
  rintro e w3 ⟨u, rfl, hu, hb⟩
  have hsz3 := hb.size
  have HC3 := hide (curAt_below HC2.out hb); have HB3 := hide (HB2.out.trans (hb.mono (by omega))); have HI3 := hide (inBytes_below HI2.out (hb.mono HI2.out.2.1))
  have HV3 := hide (ownMat_mono (ownMat_below HV.out hb) (Nat.le_refl _) hsz3)
  have HU := hide (ownMat_mono hu (show B + 1 ≤ w2.heap.size by omega) (Nat.le_refl _))
  clear hu hb HC2 HB2 HI2 HV
  go_wp2_with fail
  refine (l01Below_any B n a 6 _ B (by omega) (by omega) HC3.out HI3.out (Nat.le_refl _)).mono ?_
  rintro e w4 ⟨x, hx0, hx1, rfl, hc, hg⟩
  obtain ⟨k0, rfl⟩ : ∃ k : Nat, x = k := ⟨x.toNat, by omega⟩
  have hk0 : k0 ≤ 5 := by omega
  have hz4 := hg.size
  have HC4 := hide hc; have HI4 := hide (inBytes_grown HI3.out hg (Nat.le_refl _))
  have HV4 := hide (ownMat_mono (ownMat_cur HV3.out hg (Nat.lt_succ_self _)) (Nat.le_refl _) hz4); have HU4 := hide (ownMat_mono (ownMat_cur HU.out hg (Nat.lt_succ_self _)) (Nat.le_refl _) hz4)
  have HB4 := hide (HB3.out.trans (grown_below hg (fun k hk => by cases hk; exact Nat.le_refl _) (by omega)))
  have HSF : Hid (SameF R C f f) := hide ⟨fun _ _ => rfl, fun _ _ => rfl⟩
  have hB4 : B < w4.heap.size := by omega
  clear hc hg hx0 hx1 HC3 HI3 HV3 HU HB3
  go_wp2
  go_loopw [6, 7] (fun y t w' => ∃ (k : Nat) (g : Nat → Nat → Int) (u : Value), k ≤ 5 ∧ t = .int .i64 k ∧ u = y ∧ Img R C g ∧ SameF R C f g ∧ B < w'.heap.size ∧ OwnMat w' (B + 1) w'.heap.size u (mkM R C g) ∧ OwnMat w' (B + 1) w'.heap.size v (mkM R C f) ∧ CurAt w' B a n ∧ InBytes w' B a n ∧ Below B w w') (fun _ t _ => (intOf t).toNat)
  case atStart => exact ⟨k0, f, _, hk0, rfl, rfl, HIM.out, HSF.out, hB4, HU4.out, HV4.out, HC4.out, HI4.out, HB4.out⟩
  case round =>
    clear HC4 HI4 HV4 HU4 HB4 HSF hB4 hk0 hz4 hsz hsz3 hlt
    obtain ⟨k, g, u, hk, rfl, rfl, hig, hsf, hlt, ho, hv, hc, hi, hb⟩ := hrel
    have HIG := hide hig; have HSF := hide hsf; have HU := hide ho; have HV := hide hv; have HC := hide hc; have HI := hide hi; have HB := hide hb
    clear hig hsf ho hv hc hi hb
    cases k with
    | zero =>
      go_wp2
      go_ret2
      exact ⟨_, _, R, C, f, g, rfl, HIM.out, HIG.out, HSF.out, hR, hC, inMat_own HV.out, inMat_own HU.out, by rw [HW.out]; exact HB.out⟩
    | succ k =>
      have hkI : (0 : Int) < (k : Int) + 1 := by omega
      go_wp2_with fail
      refine (specSwitches_node _ _ (inMat_own HU.out) ⟨g, rfl, HIG.out⟩).mono ?_
      rintro e w6 ⟨sv, rfl, hsv, hb⟩
      have hz6 := hb.size
      obtain ⟨asl, cs, rfl⟩ := ownA_slice hsv
      have HU6 := hide (ownMat_mono (ownMat_below HU.out hb) (Nat.le_refl _) hz6); have HV6 := hide (ownMat_mono (ownMat_below HV.out hb) (Nat.le_refl _) hz6); have HC6 := hide (curAt_below HC.out hb); have HI6 := hide (inBytes_below HI.out (hb.mono HI.out.2.1)); have HB6 := hide (HB.out.trans (hb.mono (by omega)))
      have HSV := hide (ownSws_base hsv (show B + 1 ≤ wr.heap.size from hlt))
      have HSM := hide (sws_small HIG.out hR hC)
      have HAT := hide fun j (h : j < (swsM (mkM R C g)).length) => sws_at ⟨g, rfl, HIG.out⟩ h
      obtain ⟨S, hS⟩ : ∃ S, S = swsM (mkM R C g) := ⟨_, rfl⟩
      rw [← hS] at HSV HSM HAT ⊢
      obtain ⟨N, hN⟩ : ∃ N, N = S.length := ⟨_, rfl⟩
      have HN := hide hN
      rw [← hN] at HSM HAT HSV ⊢
      have hN256 := HSM.out
      clear hsv hb HC HI HU HV HB HSM hS hN
      cases N with
      | zero =>
        go_wp2
        go_roundw
        case rel => exact ⟨k, g, u, by omega, by go_num, rfl, HIG.out, HSF.out, by omega, HU6.out, HV6.out, HC6.out, HI6.out, HB6.out⟩
        case measure => simp [intOf]
      | succ N =>
        have hNI : (0 : Int) < (N : Int) + 1 := by omega
        obtain ⟨gs, cs2, e, -, hgs, -⟩ := ownA_some HSV.out (by rw [← HN.out]; omega)
        injection e with e1 e2 e3
        subst e1
        clear e2 e3
        go_wp2_with fail
        refine (l01Below_any B n a ((N + 1 : Nat) : Int) _ B (by omega) (by omega) HC6.out HI6.out (Nat.le_refl _)).mono ?_
        rintro e w7 ⟨x, hx0, hx1, rfl, hc, hg⟩
        obtain ⟨j, rfl⟩ : ∃ j : Nat, x = j := ⟨x.toNat, by omega⟩
        have hj : j < N + 1 := by omega
        have hjI : (j : Int) < (N : Int) + 1 := by omega
        have hz7 := hg.size
        have HSB := hide (HAT.out j hj)
        have hsc := sws_cell (ownSws_cur HSV.out hg (Nat.lt_succ_self _)) j (by rw [← HN.out]; exact hj)
        obtain ⟨s, hs⟩ : ∃ s, s = S.getD j zeroSw := ⟨_, rfl⟩
        rw [← hs] at HSB hsc
        have HU7 := hide (ownMat_mono (ownMat_cur HU6.out hg (Nat.lt_succ_self _)) (Nat.le_refl _) hz7); have HV7 := hide (ownMat_mono (ownMat_cur HV6.out hg (Nat.lt_succ_self _)) (Nat.le_refl _) hz7)
        have HC7 := hide hc; have HI7 := hide (inBytes_grown HI6.out hg (Nat.le_refl _)); have HB7 := hide (HB6.out.trans (grown_below hg (fun k hk => by cases hk; exact Nat.le_refl _) (by omega)))
        clear hc hg hx0 hx1 hs HU6 HV6 HC6 HI6 HB6 HAT HSV
        go_wp2_with (with_reducible refine wpList_loadSwC hsc 33 rfl rfl _ rfl rfl ?_)
        refine (specApply_node _ _ (inMat_own HU7.out) ⟨g, rfl, HIG.out⟩ HSB.out).mono ?_
        rintro e w8 ⟨y, rfl, hy, hb⟩
        have hz8 := hb.size
        have hsb := HSB.out
        rw [swB_mk HIG.out] at hsb
        rw [flipM_mk HIG.out] at hy
        have HY := hide (ownMat_mono hy (show B + 1 ≤ w7.heap.size by omega) (Nat.le_refl _)); have HFS := hide hsb
        have HV8 := hide (ownMat_mono (ownMat_below HV7.out hb) (Nat.le_refl _) hz8); have HC8 := hide (curAt_below HC7.out hb); have HI8 := hide (inBytes_below HI7.out (hb.mono HI7.out.2.1)); have HB8 := hide (HB7.out.trans (hb.mono (by omega)))
        clear hy hb hsb hsc
        go_wp2
        go_roundw
        case rel => exact ⟨k, flipF g s, y, by omega, by go_num, rfl, flipF_img HIG.out s, sameF_flipF HIG.out HSF.out HFS.out, by omega, HY.out, HV8.out, HC8.out, HI8.out, HB8.out⟩
        case measure => simp [intOf]
end Go.Proofs.YtcliiefedmiokaaGreat
/-
  The law FnPrices, walked.
-/
namespace Go.Proofs.YtcliiefedmiokaaGreat
open Go.RowKit
set_option linter.unusedVariables false

def CellAt (w : World) (b o : Nat) (v : Value) : Prop := b < w.heap.size ∧ w.cell? ⟨b, o, none⟩ = some v
theorem cellAt_below {w w' : World} {b o : Nat} {v : Value} (h : CellAt w b o v) (hb : Below w.heap.size w w') : CellAt w' b o v := ⟨Nat.lt_of_lt_of_le h.1 hb.size, below_cell hb h.1 h.2⟩
theorem heavy_yes (va vb vk : Value) (r c : List Int) (k q : List (List Int)) (n : Int) (w : World) (ha : RowC w va r) (hb : RowC w vb c) (hk : InMat w vk k) (h1 : heavB r c k = true) (h2 : heavP r c k = (q, n)) :
    Calls Tryz.prog 28 #[va, vb, vk] w (PickRes q n true w) := by
  have := implHeaviest_any va vb vk r c k w ha hb hk
  rw [h1, h2] at this; exact this
theorem weight_yes (vk vm : Value) (k m : List (List Int)) (n : Int) (w : World) (hk : InMat w vk k) (hm : InMat w vm m) (h1 : wtOfB k m = true) (h2 : wtOf k m = n) :
    Calls Tryz.prog 29 #[vk, vm] w fun e w' => e = .returned (.tuple #[.int .i64 n, .bool true]) ∧ Below w.heap.size w w' := by
  have := implWeightOf_any vk vm k m w hk hm
  rw [h1, h2] at this; exact this
theorem wtok_yes (v : Value) (k : List (List Int)) (R C : Int) (w : World) (hin : InMat w v k) (h : wtB k R C = true) :
    Calls Tryz.prog 30 #[v, .int .i64 R, .int .i64 C] w fun e w' => e = .returned (.bool true) ∧ Below w.heap.size w w' := by
  have := implWeightOk_any v k R C w hin
  rw [h] at this; exact this
theorem find_as (vk vm : Value) (k m : List (List Int)) (b : Bool) (w : World) (hk : InMat w vk k) (hm : InMat w vm m) (h : fpB k m = b) :
    Calls Tryz.prog 31 #[vk, vm] w (FpRes (fpA k m) (fpC k m) b w) := by
  have := implFind_any vk vm k m w hk hm
  rw [h] at this; exact this
theorem prices_as (vk vm va vb : Value) (k m : List (List Int)) (a b : List Int) (t : Bool) (w : World) (hk : InMat w vk k) (hm : InMat w vm m) (ha : InRow w va a) (hb : InRow w vb b) (h : prOkB k m a b = t) :
    Calls Tryz.prog 32 #[vk, vm, va, vb] w fun e w' => e = .returned (.bool t) ∧ Below w.heap.size w w' := by
  have := implPricesOk_any vk vm va vb k m a b w hk hm ha hb
  rw [h] at this; exact this
set_option maxRecDepth 100000 in
set_option maxHeartbeats 8000000 in
theorem lawPrices_walk (a : Option Addr) (n c : Nat) (w : World) (hin : InBytes w w.heap.size a n) :
    Calls Tryz.prog 6 #[.slice a n c] w fun e w' => e = .returned (.bool true) ∧ Below w.heap.size w w' := by
  have hmax := hin.1
  unfold maxLen at hmax
  by_cases hbig : 1048576 < n
  · go_enter Tryz.func6, Tryz.ntmps6
    clear hin
    go_wp2
    go_ret
    exact ⟨rfl, Below.refl _ _⟩
  · have HIN := hide hin
    clear hin
    go_enter Tryz.func6, Tryz.ntmps6
    have HB := hide (Below.refl w.heap.size w)
    go_wp2_with fail
    refine (makePair_any n c a _ HIN.out).mono ?_
    rintro e w1 ⟨v, u, R, C, f, g, rfl, hI, hJ, hsf, hR4, hC4, hv, hu, hb⟩
    have hs1 := hb.size
    replace HB := hide (HB.out.trans (hb.mono HB.out.size))
    have HM := hide (hv)
    have HG := hide (hu)
    clear hb
    have HI := hide hI; have HJ := hide hJ; have HSF := hide hsf
    have hR := hI.r2; have hR1 := hI.r1; have hC := hI.c2; have hC1 := hI.c1
    have HEI := hide (show InBytes w1 w.heap.size a n from inBytes_below HIN.out HB.out)
    obtain ⟨ua, uc, rfl⟩ : ∃ a c, u = .slice a R c := by obtain ⟨a, c, rfl, -⟩ := HG.out; rw [mkM_len]; exact ⟨a, c, rfl⟩
    obtain ⟨mg, mo, mc, rfl, hmg, hmcell⟩ := inMat_img HM.out (by omega) (by omega)
    have HMG := hide hmg
    obtain ⟨g0, o0, c0, hx0, -⟩ := hmcell 0 (by omega)
    rw [Nat.add_zero] at hx0
    have HCELL := hide (show CellAt w1 mg mo (.slice (some ⟨g0, o0, none⟩) C c0) from ⟨hmg, hx0⟩)
    clear hI hJ hsf hv hu hmg hmcell hR4 hC4
    go_wp2_with fail
    refine (makeWeights_any n c a 30 R C _ _ HEI.out (by omega) (by omega) ⟨hR1, hR⟩ ⟨hC1, hC⟩).mono ?_
    rintro e w2 ⟨kv, kk, rfl, hkl, hkr, hk, hb⟩
    have hs2 := hb.size
    replace HM := hide (inMat_below HM.out hb)
    replace HG := hide (inMat_below HG.out hb)
    replace HCELL := hide (cellAt_below HCELL.out hb)
    replace HB := hide (HB.out.trans (hb.mono HB.out.size))
    have HK := hide (hk)
    clear hb
    have hsz := rowsW_mk hkr hkl
    obtain ⟨ka, kc, rfl⟩ : ∃ a c, kv = .slice a R c := by obtain ⟨a, c, rfl, -⟩ := HK.out; rw [hkl]; exact ⟨a, c, rfl⟩
    obtain ⟨q, N, hhb, hhp, hQ, hsb, hwq, hwf, hwg, hfq, hff, hpf⟩ := price_facts HI.out HJ.out HSF.out hsz
    have HHB := hide hhb; have HHP := hide hhp; have HQ := hide hQ; have HSB := hide hsb; have HWQ := hide hwq; have HFQ := hide hfq; have HFF := hide hff; have HPF := hide hpf
    have HPQ := hide (find_fits hsz hQ hfq)
    have HFP := hide fun (h : fpB kk (mkM R C f) = true) => find_fits hsz HI.out h
    have HW1 := hide (wtOf_mk hsz HI.out).1; have HW2 := hide (wtOf_mk hsz HJ.out).1; have HW3 := hide (wtOf_mk hsz hQ).1
    have HWB := hide (show wtB kk R C = true by rw [wtB, Int.toNat_natCast, Int.toNat_natCast, hsz, sizeOk, decide_eq_true (by omega), decide_eq_true (by omega)]; rfl)
    obtain ⟨vf, hvf⟩ : ∃ vf, vf = wtOf kk (mkM R C f) := ⟨_, rfl⟩
    obtain ⟨ug, hug⟩ : ∃ ug, ug = wtOf kk (mkM R C g) := ⟨_, rfl⟩
    have HVF := hide hvf.symm; have HUG := hide hug.symm
    rw [← hvf] at hwf HFF HPF
    rw [← hug] at hwg
    clear hk hkl hkr hsz hhb hhp hQ hsb hwq hfq hff hpf hvf hug HEI hx0
    go_wp2_with fail
    refine (implRowSums_yes (.slice (some ⟨mg, mo, none⟩) R mc) R C f _ HM.out HI.out).mono ?_
    rintro e w3 ⟨rv1, rfl, ho, hb⟩
    have hs3 := hb.size
    replace HM := hide (inMat_below HM.out hb)
    replace HG := hide (inMat_below HG.out hb)
    replace HCELL := hide (cellAt_below HCELL.out hb)
    replace HK := hide (inMat_below HK.out hb)
    replace HB := hide (HB.out.trans (hb.mono HB.out.size))
    have HR1 := hide (rowC_own ho)
    clear hb
    clear ho
    go_wp2_with fail
    refine (implColSums_yes (.slice (some ⟨mg, mo, none⟩) R mc) R C f _ HM.out HI.out).mono ?_
    rintro e w4 ⟨cv1, rfl, ho, hb⟩
    have hs4 := hb.size
    replace HM := hide (inMat_below HM.out hb)
    replace HG := hide (inMat_below HG.out hb)
    replace HCELL := hide (cellAt_below HCELL.out hb)
    replace HK := hide (inMat_below HK.out hb)
    replace HR1 := hide (rowC_below HR1.out hb)
    replace HB := hide (HB.out.trans (hb.mono HB.out.size))
    have HC1 := hide (rowC_own ho)
    clear hb
    clear ho
    go_wp2_with fail
    refine (heavy_yes rv1 cv1 (.slice ka R kc) _ _ _ _ _ _ HR1.out HC1.out HK.out HHB.out HHP.out).mono ?_
    rintro e w5 ⟨xv, rfl, ho, hb⟩
    have hs5 := hb.size
    replace HM := hide (inMat_below HM.out hb)
    replace HG := hide (inMat_below HG.out hb)
    replace HCELL := hide (cellAt_below HCELL.out hb)
    replace HK := hide (inMat_below HK.out hb)
    replace HR1 := hide (rowC_below HR1.out hb)
    replace HC1 := hide (rowC_below HC1.out hb)
    replace HB := hide (HB.out.trans (hb.mono HB.out.size))
    have HXM := hide (inMat_own ho)
    clear hb
    clear ho
    obtain ⟨xa, xc, rfl⟩ : ∃ a c, xv = .slice a R c := by obtain ⟨a, c, rfl, -⟩ := HXM.out; rw [mkM_len]; exact ⟨a, c, rfl⟩
    clear HR1
    clear HC1
    go_wp2_with fail
    refine (weight_yes (.slice ka R kc) (.slice (some ⟨mg, mo, none⟩) R mc) _ _ _ _ HK.out HM.out HW1.out HVF.out).mono ?_
    rintro e w6 ⟨rfl, hb⟩
    have hs6 := hb.size
    replace HM := hide (inMat_below HM.out hb)
    replace HG := hide (inMat_below HG.out hb)
    replace HCELL := hide (cellAt_below HCELL.out hb)
    replace HK := hide (inMat_below HK.out hb)
    replace HXM := hide (inMat_below HXM.out hb)
    replace HB := hide (HB.out.trans (hb.mono HB.out.size))
    clear hb
    go_wp2_with fail
    refine (weight_yes (.slice ka R kc) (.slice ua R uc) _ _ _ _ HK.out HG.out HW2.out HUG.out).mono ?_
    rintro e w7 ⟨rfl, hb⟩
    have hs7 := hb.size
    replace HM := hide (inMat_below HM.out hb)
    replace HG := hide (inMat_below HG.out hb)
    replace HCELL := hide (cellAt_below HCELL.out hb)
    replace HK := hide (inMat_below HK.out hb)
    replace HXM := hide (inMat_below HXM.out hb)
    replace HB := hide (HB.out.trans (hb.mono HB.out.size))
    clear hb
    go_wp2_with fail
    refine (weight_yes (.slice ka R kc) (.slice xa R xc) _ _ _ _ HK.out HXM.out HW3.out HWQ.out).mono ?_
    rintro e w8 ⟨rfl, hb⟩
    have hs8 := hb.size
    replace HM := hide (inMat_below HM.out hb)
    replace HG := hide (inMat_below HG.out hb)
    replace HCELL := hide (cellAt_below HCELL.out hb)
    replace HK := hide (inMat_below HK.out hb)
    replace HXM := hide (inMat_below HXM.out hb)
    replace HB := hide (HB.out.trans (hb.mono HB.out.size))
    clear hb
    have hx0 := HCELL.out.2
    go_wp2_with fail
    refine (wtok_yes (.slice ka R kc) kk R C _ HK.out HWB.out).mono ?_
    rintro e w9 ⟨rfl, hb⟩
    have hs9 := hb.size
    replace HM := hide (inMat_below HM.out hb)
    replace HG := hide (inMat_below HG.out hb)
    replace HCELL := hide (cellAt_below HCELL.out hb)
    replace HK := hide (inMat_below HK.out hb)
    replace HXM := hide (inMat_below HXM.out hb)
    replace HB := hide (HB.out.trans (hb.mono HB.out.size))
    clear hb
    clear hx0
    go_wp2_with fail
    refine (same_okI (.slice xa R xc) (.slice (some ⟨mg, mo, none⟩) R mc) _ _ _ HXM.out HM.out HSB.out).mono ?_
    rintro e w10 ⟨rfl, hb⟩
    have hs10 := hb.size
    replace HM := hide (inMat_below HM.out hb)
    replace HG := hide (inMat_below HG.out hb)
    replace HCELL := hide (cellAt_below HCELL.out hb)
    replace HK := hide (inMat_below HK.out hb)
    replace HXM := hide (inMat_below HXM.out hb)
    replace HB := hide (HB.out.trans (hb.mono HB.out.size))
    clear hb
    go_wp2_with fail
    refine (find_as (.slice ka R kc) (.slice xa R xc) _ _ true _ HK.out HXM.out HFQ.out).mono ?_
    rintro e w11 ⟨pv, qv, rfl, hp0, hp1, -, hb⟩
    have hs11 := hb.size
    replace HM := hide (inMat_below HM.out hb)
    replace HG := hide (inMat_below HG.out hb)
    replace HCELL := hide (cellAt_below HCELL.out hb)
    replace HK := hide (inMat_below HK.out hb)
    replace HXM := hide (inMat_below HXM.out hb)
    replace HB := hide (HB.out.trans (hb.mono HB.out.size))
    have HP0 := hide (inRow_own hp0)
    have HP1 := hide (inRow_own hp1)
    clear hb
    obtain ⟨pa, pc, rfl⟩ := own_slice hp0
    obtain ⟨qa, qc, rfl⟩ := own_slice hp1
    obtain ⟨pn, hpn⟩ : ∃ pn, pn = (fpA kk (mkM R C q)).length := ⟨_, rfl⟩
    obtain ⟨qn, hqn⟩ : ∃ qn, qn = (fpC kk (mkM R C q)).length := ⟨_, rfl⟩
    rw [← hpn] at HP0 ⊢
    rw [← hqn] at HP1 ⊢
    clear hp0 hp1 hpn hqn
    go_wp2_with fail
    refine (prices_as (.slice ka R kc) (.slice xa R xc) (.slice pa pn pc) (.slice qa qn qc) _ _ _ _ true _ HK.out HXM.out HP0.out HP1.out HPQ.out).mono ?_
    rintro e w12 ⟨rfl, hb⟩
    have hs12 := hb.size
    replace HM := hide (inMat_below HM.out hb)
    replace HG := hide (inMat_below HG.out hb)
    replace HCELL := hide (cellAt_below HCELL.out hb)
    replace HK := hide (inMat_below HK.out hb)
    replace HXM := hide (inMat_below HXM.out hb)
    replace HP0 := hide (inRow_below HP0.out hb)
    replace HP1 := hide (inRow_below HP1.out hb)
    replace HB := hide (HB.out.trans (hb.mono HB.out.size))
    clear hb
    by_cases hvn : vf = N
    · have HFB := hide (show fpB kk (mkM R C f) = true by rw [HFF.out, decide_eq_true hvn])
      have HPB := hide (show prOkB kk (mkM R C f) (fpA kk (mkM R C q)) (fpC kk (mkM R C q)) = true by rw [HPF.out, decide_eq_true hvn])
      subst hvn
      have hbe : (vf == vf) = true := beq_self_eq_true vf
      go_wp2_with fail
      refine (find_as (.slice ka R kc) (.slice (some ⟨mg, mo, none⟩) R mc) _ _ true _ HK.out HM.out HFB.out).mono ?_
      rintro e w13 ⟨sv, tv, rfl, hp0, hp1, -, hb⟩
      have hs13 := hb.size
      replace HM := hide (inMat_below HM.out hb)
      replace HG := hide (inMat_below HG.out hb)
      replace HCELL := hide (cellAt_below HCELL.out hb)
      replace HK := hide (inMat_below HK.out hb)
      replace HXM := hide (inMat_below HXM.out hb)
      replace HP0 := hide (inRow_below HP0.out hb)
      replace HP1 := hide (inRow_below HP1.out hb)
      replace HB := hide (HB.out.trans (hb.mono HB.out.size))
      have HS0 := hide (inRow_own hp0)
      have HS1 := hide (inRow_own hp1)
      clear hb
      obtain ⟨sa, sc, rfl⟩ := own_slice hp0
      obtain ⟨ta, tc, rfl⟩ := own_slice hp1
      obtain ⟨sn, hsn⟩ : ∃ sn, sn = (fpA kk (mkM R C f)).length := ⟨_, rfl⟩
      obtain ⟨tn, htn⟩ : ∃ tn, tn = (fpC kk (mkM R C f)).length := ⟨_, rfl⟩
      rw [← hsn] at HS0 ⊢
      rw [← htn] at HS1 ⊢
      clear hp0 hp1 hsn htn
      go_wp2_with fail
      refine (prices_as (.slice ka R kc) (.slice (some ⟨mg, mo, none⟩) R mc) (.slice sa sn sc) (.slice ta tn tc) _ _ _ _ true _ HK.out HM.out HS0.out HS1.out (HFP.out HFB.out)).mono ?_
      rintro e w14 ⟨rfl, hb⟩
      have hs14 := hb.size
      replace HM := hide (inMat_below HM.out hb)
      replace HG := hide (inMat_below HG.out hb)
      replace HCELL := hide (cellAt_below HCELL.out hb)
      replace HK := hide (inMat_below HK.out hb)
      replace HXM := hide (inMat_below HXM.out hb)
      replace HP0 := hide (inRow_below HP0.out hb)
      replace HP1 := hide (inRow_below HP1.out hb)
      replace HS0 := hide (inRow_below HS0.out hb)
      replace HS1 := hide (inRow_below HS1.out hb)
      replace HB := hide (HB.out.trans (hb.mono HB.out.size))
      clear hb
      go_wp2_with fail
      refine (prices_as (.slice ka R kc) (.slice (some ⟨mg, mo, none⟩) R mc) (.slice pa pn pc) (.slice qa qn qc) _ _ _ _ true _ HK.out HM.out HP0.out HP1.out HPB.out).mono ?_
      rintro e w15 ⟨rfl, hb⟩
      have hs15 := hb.size
      replace HM := hide (inMat_below HM.out hb)
      replace HG := hide (inMat_below HG.out hb)
      replace HCELL := hide (cellAt_below HCELL.out hb)
      replace HK := hide (inMat_below HK.out hb)
      replace HXM := hide (inMat_below HXM.out hb)
      replace HP0 := hide (inRow_below HP0.out hb)
      replace HP1 := hide (inRow_below HP1.out hb)
      replace HS0 := hide (inRow_below HS0.out hb)
      replace HS1 := hide (inRow_below HS1.out hb)
      replace HB := hide (HB.out.trans (hb.mono HB.out.size))
      clear hb
      go_wp2
      go_ret
      exact ⟨rfl, HB.out⟩
    · have HFB := hide (show fpB kk (mkM R C f) = false by rw [HFF.out, decide_eq_false hvn])
      have HPB := hide (show prOkB kk (mkM R C f) (fpA kk (mkM R C q)) (fpC kk (mkM R C q)) = false by rw [HPF.out, decide_eq_false hvn])
      have hbe : (vf == N) = false := beq_eq_false_iff_ne.2 hvn
      clear hvn
      go_wp2_with fail
      refine (find_as (.slice ka R kc) (.slice (some ⟨mg, mo, none⟩) R mc) _ _ false _ HK.out HM.out HFB.out).mono ?_
      rintro e w13 ⟨sv, tv, rfl, hp0, hp1, -, hb⟩
      have hs13 := hb.size
      replace HM := hide (inMat_below HM.out hb)
      replace HG := hide (inMat_below HG.out hb)
      replace HCELL := hide (cellAt_below HCELL.out hb)
      replace HK := hide (inMat_below HK.out hb)
      replace HXM := hide (inMat_below HXM.out hb)
      replace HP0 := hide (inRow_below HP0.out hb)
      replace HP1 := hide (inRow_below HP1.out hb)
      replace HB := hide (HB.out.trans (hb.mono HB.out.size))
      have HS0 := hide (inRow_own hp0)
      have HS1 := hide (inRow_own hp1)
      clear hb
      obtain ⟨sa, sc, rfl⟩ := own_slice hp0
      obtain ⟨ta, tc, rfl⟩ := own_slice hp1
      obtain ⟨sn, hsn⟩ : ∃ sn, sn = (fpA kk (mkM R C f)).length := ⟨_, rfl⟩
      obtain ⟨tn, htn⟩ : ∃ tn, tn = (fpC kk (mkM R C f)).length := ⟨_, rfl⟩
      rw [← hsn] at HS0 ⊢
      rw [← htn] at HS1 ⊢
      clear hp0 hp1 hsn htn
      go_wp2_with fail
      refine (prices_as (.slice ka R kc) (.slice (some ⟨mg, mo, none⟩) R mc) (.slice pa pn pc) (.slice qa qn qc) _ _ _ _ false _ HK.out HM.out HP0.out HP1.out HPB.out).mono ?_
      rintro e w14 ⟨rfl, hb⟩
      have hs14 := hb.size
      replace HM := hide (inMat_below HM.out hb)
      replace HG := hide (inMat_below HG.out hb)
      replace HCELL := hide (cellAt_below HCELL.out hb)
      replace HK := hide (inMat_below HK.out hb)
      replace HXM := hide (inMat_below HXM.out hb)
      replace HP0 := hide (inRow_below HP0.out hb)
      replace HP1 := hide (inRow_below HP1.out hb)
      replace HS0 := hide (inRow_below HS0.out hb)
      replace HS1 := hide (inRow_below HS1.out hb)
      replace HB := hide (HB.out.trans (hb.mono HB.out.size))
      clear hb
      go_wp2
      go_ret
      exact ⟨rfl, HB.out⟩
end Go.Proofs.YtcliiefedmiokaaGreat
