/-
  Texts of this claim, one behind the other: FindI, EachF, MskP.
-/
import Derived.Test.YtcliiefedmiokaaGreatPackK
import Derived.Test.YtcliiefedmiokaaGreatRows
import Derived.RangeFuncBox
import Derived.RangeFuncLeaves
import Derived.RangeFuncBound
import Derived.Shelf.Abstract
import Derived.OwnWalkIn
import Derived.TacticsInMore
import Derived.LoopNIn
import Derived.LoopIn
import Derived.Test.YtcliiefedmiokaaGreatPackP
/-
  FindPrices of the program.
-/
namespace Go.Proofs.YtcliiefedmiokaaGreat
open Go.RowKit

/-- The stops of the rows and of the columns, apart. -/
theorem net_start {w2 w3 : World} {lo R C : Nat} {v2 v3 : Value} {b2 b3 : Nat → Nat} (h2 : StopsB w2 lo v2 R b2) (h3 : StopsB w3 w2.heap.size v3 C b3) (hb : Below w2.heap.size w2 w3) (hlo : lo ≤ w2.heap.size) :
    ∃ B, Net w3 (R + C) B (fun _ => 0) ∧ w3.ownsRow lo 127 1 v2 R (ptrsB B R R) ∧ w3.ownsRow lo 127 1 v3 C (ptrsB (fun i => B (R + i)) C C) ∧ ∀ v, v < R + C → lo ≤ B v := by
  have hlt : ∀ v, v < R → b2 v < w2.heap.size := fun v hv => (h2.box v hv).2.lt
  refine ⟨fun v => if v < R then b2 v else b3 (v - R), ⟨fun v hv => ?_, fun u v hu hv he => ?_⟩, ?_, ?_, fun v hv => ?_⟩
  · by_cases e : v < R
    · simp only [if_pos e]; exact (hb.block _ (hlt v e)).trans (h2.box v e).2
    · simp only [if_neg e]; exact (h3.box (v - R) (by omega)).2
  · by_cases e1 : u < R
    · by_cases e2 : v < R
      · simp only [if_pos e1, if_pos e2] at he
        rcases Nat.lt_trichotomy u v with h | h | h
        · have := h2.inj u v h e2; omega
        · exact h
        · have := h2.inj v u h e1; omega
      · simp only [if_pos e1, if_neg e2] at he
        have := hlt u e1; have := (h3.box (v - R) (by omega)).1; omega
    · by_cases e2 : v < R
      · simp only [if_neg e1, if_pos e2] at he
        have := hlt v e2; have := (h3.box (u - R) (by omega)).1; omega
      · simp only [if_neg e1, if_neg e2] at he
        rcases Nat.lt_trichotomy u v with h | h | h
        · have := h3.inj (u - R) (v - R) (by omega) (by omega); omega
        · exact h
        · have := h3.inj (v - R) (u - R) (by omega) (by omega); omega
  · rw [ptrsB_congr (b' := b2) fun i hi => by simp only [if_pos hi]]
    exact own_below h2.own hb
  · rw [ptrsB_congr (b := fun i => if R + i < R then b2 (R + i) else b3 (R + i - R)) (b' := b3) fun i hi => by rw [if_neg (by omega), Nat.add_sub_cancel_left]]
    exact own_base h3.own hlo
  · by_cases e : v < R
    · simp only [if_pos e]; exact (h2.box v e).1
    · simp only [if_neg e]; exact Nat.le_trans hlo (h3.box (v - R) (by omega)).1

set_option maxRecDepth 100000 in
set_option maxHeartbeats 4000000 in
theorem implFind_any (vk vm : Value) (k m : List (List Int)) (w : World) (hk : InMat w vk k) (hm : InMat w vm m) :
    Calls Tryz.prog 31 #[vk, vm] w (FpRes (fpA k m) (fpC k m) (fpB k m) w) := by
  have HWO := hide (implWeightOf_any vk vm k m w hk hm)
  cases h : wtOfB k m with
  | false =>
    rw [h] at HWO
    have HP : fpP k m = none := by rw [fpP, h]; rfl
    have HA : Hid (fpA k m = []) := hide (by rw [fpA, HP])
    have HC : Hid (fpC k m = []) := hide (by rw [fpC, HP])
    have HB : Hid (fpB k m = false) := hide (by rw [fpB, HP]; rfl)
    rw [HA.out, HC.out, HB.out]
    obtain ⟨x, hx⟩ : ∃ x, x = wtOf k m := ⟨_, rfl⟩
    rw [← hx] at HWO
    obtain ⟨ak, ck, rfl, -, -⟩ := hk
    obtain ⟨am, cm, rfl, -, -⟩ := hm
    generalize k.length = n1 at *
    generalize m.length = n2 at *
    clear hx h HP HA HC HB
    go_enter Tryz.func31, Tryz.ntmps31
    go_wp2_with (go_at_call 29; refine HWO.out.mono ?_; rintro e w1 ⟨rfl, b1⟩; have B1 := hide b1; clear b1)
    refine bodyPost_ret (results_tmp3 rfl _ _ _) rfl ⟨.slice none 0 0, .slice none 0 0, rfl, World.ownsRow_nil _ _ _ _, World.ownsRow_nil _ _ _ _, .inl rfl, B1.out⟩
  | true =>
    rw [h] at HWO
    have hok : okB m = true := by unfold wtOfB at h; rw [Bool.and_eq_true] at h; exact h.1
    obtain ⟨R, C, f, rfl, hI⟩ := ok_img hok
    have hR1 := hI.r1; have hC1 := hI.c1; have hR := hI.r2; have hC := hI.c2
    have hsz : sizeB k R C (-100) 100 = true := by
      have h' := h
      unfold wtOfB at h'
      rw [Bool.and_eq_true, mkM_len, width_mkM hR1] at h'
      exact wtB_nat h'.2
    obtain ⟨hkm, hWt⟩ := sizeB_wt hsz
    have HPP := hide (fpP_mk h hR1)
    obtain ⟨x, hx⟩ : ∃ x, x = wtOf k (mkM R C f) := ⟨_, rfl⟩
    rw [← hx] at HWO
    have hk2 := hk
    rw [hkm] at hk2
    obtain ⟨g, hg⟩ : ∃ g, g = cellM k := ⟨_, rfl⟩
    rw [← hg] at hk2 hWt HPP
    obtain ⟨E, hE⟩ : ∃ E, E = allE R C g f R := ⟨_, rfl⟩
    have hEin : ∀ e ∈ E, e.s < R + C ∧ e.t < R + C ∧ -100 ≤ e.l ∧ e.l ≤ 100 := fun e he => by rw [hE] at he; exact (allE_in hWt e he).1
    have hElen : E.length = R * C := by rw [hE, allE_len]
    have hE0 : 0 < E.length := by rw [hElen]; exact Nat.mul_pos hR1 hC1
    have hE25 : E.length ≤ 25 := by rw [hElen]; exact Nat.le_trans (Nat.mul_le_mul hR hC) (by decide)
    rw [← hE] at HPP
    have HSB := hide fun (vr vc : Value) (lo : Nat) (B : Nat → Nat) (w' : World) (hw : Below w.heap.size w w') (h1 : w'.ownsRow lo 127 1 vr R (ptrsB B R R)) (h2 : w'.ownsRow lo 127 1 vc C (ptrsB (fun i => B (R + i)) C C)) =>
      stepsBetween_any vr vc vk vm R C lo B g f w' h1 h2 (inMat_below hk2 hw) (inMat_below hm hw) hI hWt
    rw [← hE] at HSB
    obtain ⟨ga, oa, ca, hvk, hga, hca⟩ := inMat_img hk2 (by omega) (by omega)
    obtain ⟨gb, ob, cb, hvm, hgb, hcb⟩ := inMat_img hm (by omega) (by omega)
    subst hvk hvm
    obtain ⟨g0, o0, c0, hx0, -⟩ := hcb 0 (by omega)
    rw [Nat.add_zero] at hx0
    have HX := hide fun w' (hw : Below w.heap.size w w') => below_cell hw hgb hx0
    have HSR := hide fun (w' : World) => stopsFor_any R w' hR
    have HSC := hide fun (w' : World) => stopsFor_any C w' hC
    have HEI := hide hEin; have HE0 := hide hE0; have HE25 := hide hE25
    clear hx hg h hE hkm hsz hok hk hk2 hm hca hcb hx0 hWt hI hEin hE0 hE25 hElen
    go_enter Tryz.func31, Tryz.ntmps31
    go_wp2_with (first | (go_at_call 29; refine HWO.out.mono ?_; rintro e w1 ⟨rfl, b1⟩; have B1 := hide b1; have hx0 := HX.out _ b1; have hgb1 := Nat.lt_of_lt_of_le hgb b1.size; clear b1) | fail)
    have HXD := hide fun (w2 : World) (h : Below w1.drew.heap.size w1.drew w2) => below_cell (w := w1.drew) (w' := w2) h hgb1 hx0
    go_region_with (first | (with_reducible refine (HSR.out _).mono ?_; rintro e2 w2 ⟨v2, b2, rfl, hs2, hb2⟩; have hx2 := HXD.out _ hb2) | (with_reducible refine (HSC.out _).mono ?_; rintro e3 w3 ⟨v3, b3, rfl, hs3, hb3⟩))
    all_goals
      have hlo2 : w.heap.size ≤ w1.drew.heap.size := B1.out.size
      obtain ⟨B, hN, ho2, ho3, hBlo⟩ := net_start hs2 hs3 hb3 hb2.size
      obtain ⟨a2, q2, rfl⟩ := own_slice ho2
      obtain ⟨a3, q3, rfl⟩ := own_slice ho3
      have BW3 := hide (B1.out.trans ((show Below w1.heap.size w1 w3 from (below_drew (Below.refl _ w1)).trans (hb2.trans (hb3.mono hb2.size))).mono B1.out.size))
      have HS4 := hide (HSB.out (.slice a2 R q2) (.slice a3 C q3) w.heap.size B w3 BW3.out (own_base ho2 hlo2) (own_base ho3 hlo2))
      have HN := hide hN; have HO2 := hide (own_base ho2 hlo2); have HO3 := hide (own_base ho3 hlo2)
      have HBL := hide fun (k : Nat) (hk : InB (R + C) B k) => (show w.heap.size ≤ k by obtain ⟨v, hv, rfl⟩ := hk; exact Nat.le_trans hlo2 (hBlo v hv))
      clear hx2 hs2 hs3 hb2 hb3 hN ho2 ho3 hBlo hlo2 hx0 HX HXD
      go_wp2_with fail
      refine HS4.out.mono ?_
      rintro e4 w4 ⟨v4, rfl, hE4, hb4⟩
      obtain ⟨a4, q4, rfl⟩ := ownA_slice hE4
      have HE4 := hide hE4
      have HN4 := hide (net_below HN.out hb4)
      have HP2 := hide (own_below HO2.out hb4)
      have HP3 := hide (own_below HO3.out hb4)
      have BW4 := hide (BW3.out.trans (hb4.mono BW3.out.size))
      clear hE4 hb4
      go_wp2
      go_loopw [38] (fun i w' => ∃ j : Nat, j ≤ R + C ∧ i = .int .i64 j ∧ Net w' (R + C) B (roundsD E j) ∧ Onl (InB (R + C) B) w4 w' ∧ bell E (R + C) (fun _ => 0) = bell E (R + C - j) (roundsD E j)) (fun i _ => R + C - (intOf i).toNat)
      case atStart => exact ⟨0, Nat.zero_le _, rfl, HN4.out, onl_refl _ _, rfl⟩
      case round =>
        obtain ⟨j, hj, rfl, hnet, hon, hbell⟩ := hrel
        have HNET := hide hnet; have HON := hide hon; have HBE := hide hbell
        clear hnet hon hbell
        by_cases hlt : j < R + C
        · have HSH := hide (shortened_any (.slice a4 E.length q4) (R + C) w3.heap.size (2500 * j) B (roundsD E j) E wr HNET.out (own_onl HE4.out HN4.out (by decide) HON.out) HEI.out HE0.out HE25.out (fun v hv => ⟨roundsD_low HEI.out HE25.out j v hv, roundsD_le E j v⟩) (by omega))
          obtain ⟨fl, hfl⟩ : ∃ fl, fl = (rxs E (roundsD E j, false)).2 := ⟨_, rfl⟩
          have HFL := hide hfl
          rw [← hfl] at HSH
          clear hfl
          go_wp2_with fail
          refine HSH.out.mono ?_
          rintro e5 w5 ⟨rfl, hN5, hO5⟩
          have HN5 := hide (show Net w5 (R + C) B (roundsD E (j + 1)) from hN5)
          have HO5 := hide (onl_trans HON.out hO5 (fun _ h => h) (fun _ h => h))
          clear hN5 hO5
          cases fl with
          | true =>
            have HBE2 := hide (show bell E (R + C) (fun _ => 0) = bell E (R + C - (j + 1)) (roundsD E (j + 1)) by
              rw [HBE.out, show R + C - j = (R + C - (j + 1)) + 1 by omega, bell_step HFL.out.symm]; rfl)
            go_wp2
            go_roundw
            case rel => exact ⟨j + 1, by omega, by go_num, HN5.out, HO5.out, HBE2.out⟩
            case measure => simp [intOf]; omega
          | false =>
            have HBE2 := hide (show fpP k (mkM R C f) = some (roundsD E (j + 1)) by
              rw [HPP.out, HBE.out, show R + C - j = (R + C - (j + 1)) + 1 by omega, bell_stop HFL.out.symm]; rfl)
            have hlow := fun v (hv : v < R + C) => roundsD_low HEI.out HE25.out (j + 1) v hv
            have hup := roundsD_le E (j + 1)
            have HA := hide (show fpA k (mkM R C f) = rowF R (fun y => -1 * roundsD E (j + 1) y) by
              unfold fpA; rw [HBE2.out, mkM_len]; exact rowF_congr fun i _ => by rw [Int.neg_one_mul])
            have HCC := hide (show fpC k (mkM R C f) = rowF C (fun x => 1 * roundsD E (j + 1) (R + x)) by
              unfold fpC; rw [HBE2.out, mkM_len, width_mkM hR1]; exact rowF_congr fun i _ => by rw [Int.one_mul])
            have HBB := hide (show fpB k (mkM R C f) = true by unfold fpB; rw [HBE2.out]; rfl)
            have HQ1 := hide (pricesAt_any (.slice a2 R q2) R w.heap.size B (roundsD E (j + 1)) (-1) w5 (.inr rfl) ⟨hR1, hR⟩ (own_onl HP2.out HN4.out (by decide) HO5.out) (fun i hi => HN5.out.box i (by omega)) (fun i hi => by have := hlow i (by omega); have := hup i; omega))
            have HQ2 := hide fun (w6 : World) (h6 : Below w5.heap.size w5 w6) => pricesAt_any (.slice a3 C q3) C w.heap.size (fun i => B (R + i)) (fun i => roundsD E (j + 1) (R + i)) 1 w6 (.inl rfl) ⟨hC1, hC⟩ (own_below (own_onl HP3.out HN4.out (by decide) HO5.out) h6) (fun i hi => (net_below HN5.out h6).box (R + i) (by omega)) (fun i hi => by have := hlow (R + i) (by omega); have := hup (R + i); omega)
            have BW5 := hide (below_onl BW4.out HO5.out HBL.out)
            clear hlow hup HBE2 HBE HFL HSH
            go_wp2_with fail
            refine HQ1.out.mono ?_
            rintro e6 w6 ⟨u6, rfl, ho6, hb6⟩
            rw [rowF_len] at ho6
            obtain ⟨a6, q6, rfl⟩ := own_slice ho6
            have HO6 := hide ho6; have HB6 := hide hb6
            have HQ3 := hide (HQ2.out w6 hb6)
            clear ho6 hb6 HQ1 HQ2
            go_wp2_with fail
            refine HQ3.out.mono ?_
            rintro e7 w7 ⟨u7, rfl, ho7, hb7⟩
            rw [rowF_len] at ho7
            obtain ⟨a7, q7, rfl⟩ := own_slice ho7
            have H7 := hide (And.intro ho7 hb7)
            clear ho7 hb7 HQ3
            go_wp2
            refine bodyPost_ret (results_tmp3 rfl _ _ _) rfl ?_
            rw [HA.out, HCC.out, HBB.out]
            refine ⟨.slice a6 R q6, .slice a7 C q7, rfl, ?_, ?_, ?_, ?_⟩
            · rw [rowF_len]; exact own_base (own_below HO6.out H7.out.2) BW5.out.size
            · rw [rowF_len]; exact own_base H7.out.1 (Nat.le_trans BW5.out.size HB6.out.size)
            · cases hob : (Value.slice a6 R q6).ownBlock with
              | none => exact .inl rfl
              | some b =>
                refine .inr fun e => ?_
                have l1 := (HO6.out.lt b hob).2
                have l2 := (H7.out.1.lt b e.symm).1
                omega
            · exact BW5.out.trans ((HB6.out.trans (H7.out.2.mono HB6.out.size)).mono BW5.out.size)
        · have hjn : j = R + C := by omega
          have HBE2 : fpP k (mkM R C f) = none := by rw [HPP.out, HBE.out, hjn, Nat.sub_self]; rfl
          have HA := hide (show fpA k (mkM R C f) = [] by rw [fpA, HBE2])
          have HCC := hide (show fpC k (mkM R C f) = [] by rw [fpC, HBE2])
          have HBB := hide (show fpB k (mkM R C f) = false by rw [fpB, HBE2]; rfl)
          have BW5 := hide (below_onl BW4.out HON.out HBL.out)
          clear HBE2 hjn
          go_wp2
          refine bodyPost_ret (results_tmp3 rfl _ _ _) rfl ?_
          rw [HA.out, HCC.out, HBB.out]
          exact ⟨.slice none 0 0, .slice none 0 0, rfl, World.ownsRow_nil _ _ _ _, World.ownsRow_nil _ _ _ _, .inl rfl, BW5.out⟩
end Go.Proofs.YtcliiefedmiokaaGreat
/-
  A range over a function whose iterator keeps memory of its own between the rounds and hands memory on: what either side may change is a set of blocks.
-/
namespace Go.Proofs.YtcliiefedmiokaaGreat
open Go.RowKit Go.Shelf

section
variable {P : Program}

/-- No block has turned but those of A. -/
structure ItOnly (A : Nat → Prop) (W W' : World) : Prop where
  os : W'.os = W.os
  tape : W'.tape = W.tape
  output : W'.output = W.output
  size : W.heap.size ≤ W'.heap.size
  block : ∀ k, k < W.heap.size → ¬ A k → W'.heap[k]? = W.heap[k]?
/-- .. and what is the caller's now was so before, or is new. -/
def ItStep (A A' : Nat → Prop) (W W' : World) : Prop := ItOnly A W W' ∧ ∀ k, A' k → A k ∨ W.heap.size ≤ k
theorem itStep_put {A B : Nat → Prop} {U W : World} {k : Nat} (h : ItStep A B U W) (hk : U.heap.size ≤ k) (o : Obj) : ItStep A B U (W.putObj k o) :=
  ⟨⟨h.1.os, h.1.tape, h.1.output, by simpa using h.1.size, fun i hi hn => by rw [World.putObj_heap_other (by omega)]; exact h.1.block i hi hn⟩, h.2⟩
/-- .. or has been handed over. -/
def ItGive (A A' G : Nat → Prop) (W W' : World) : Prop := ItOnly A W W' ∧ ∀ k, A' k → A k ∨ G k ∨ W.heap.size ≤ k
theorem itStep_refl (A : Nat → Prop) (W : World) : ItStep A A W W := ⟨⟨rfl, rfl, rfl, Nat.le_refl _, fun _ _ _ => rfl⟩, fun _ h => .inl h⟩
theorem itStep_trans {A B C : Nat → Prop} {U V W : World} (h : ItStep A B U V) (k : ItStep B C V W) : ItStep A C U W := by
  refine ⟨⟨k.1.os.trans h.1.os, k.1.tape.trans h.1.tape, k.1.output.trans h.1.output, Nat.le_trans h.1.size k.1.size, fun i hi hn => ?_⟩, fun i hi => ?_⟩
  · rw [k.1.block i (Nat.lt_of_lt_of_le hi h.1.size) (fun hb => (h.2 i hb).elim hn (fun h2 => by omega)), h.1.block i hi hn]
  · rcases k.2 i hi with h2 | h2
    · exact h.2 i h2
    · exact .inr (Nat.le_trans h.1.size h2)
theorem itGive_trans {A B C G : Nat → Prop} {U V W : World} (h : ItStep A B U V) (k : ItGive B C G V W) (hG : ∀ i, G i → U.heap.size ≤ i) : ItStep A C U W := by
  refine ⟨⟨k.1.os.trans h.1.os, k.1.tape.trans h.1.tape, k.1.output.trans h.1.output, Nat.le_trans h.1.size k.1.size, fun i hi hn => ?_⟩, fun i hi => ?_⟩
  · rw [k.1.block i (Nat.lt_of_lt_of_le hi h.1.size) (fun hb => (h.2 i hb).elim hn (fun h2 => by omega)), h.1.block i hi hn]
  · rcases k.2 i hi with h2 | h2 | h2
    · exact h.2 i h2
    · exact .inr (hG i h2)
    · exact .inr (Nat.le_trans h.1.size h2)
theorem itStep_below {A : Nat → Prop} {W W' : World} (h : Below W.heap.size W W') : ItStep A A W W' := ⟨⟨h.os, h.tape, h.output, h.size, fun k hk _ => h.block k hk⟩, fun _ h => .inl h⟩
/-- J speaks of the caller's blocks and of what lay below B alone. -/
def AbidF {β : Type} (B : Nat) (J : β → (Nat → Prop) → World → Prop) : Prop :=
  ∀ s A W W', J s A W → W'.os = W.os → W'.tape = W.tape → W'.output = W.output → W.heap.size ≤ W'.heap.size → (∀ k, k < W.heap.size → (k < B ∨ A k) → W'.heap[k]? = W.heap[k]?) → J s A W'
theorem abidF_mono {β : Type} {B B' : Nat} {J : β → (Nat → Prop) → World → Prop} (h : AbidF B J) (hB : B ≤ B') : AbidF B' J :=
  fun s A W W' h1 h2 h3 h4 h5 h6 => h s A W W' h1 h2 h3 h4 h5 fun k hk hc => h6 k hk (hc.imp (fun x => by omega) id)
theorem abidF_below {β : Type} {B : Nat} {J : β → (Nat → Prop) → World → Prop} (h : AbidF B J) {s : β} {A : Nat → Prop} {W W' : World} (hj : J s A W) (hb : Below W.heap.size W W') : J s A W' :=
  h s A W W' hj hb.os hb.tape hb.output hb.size fun k hk _ => hb.block k hk
theorem abidF_put {β : Type} {B : Nat} {J : β → (Nat → Prop) → World → Prop} (h : AbidF B J) {s : β} {A : Nat → Prop} {W : World} {l : Nat} (o : Obj) (hj : J s A W) (hB : B ≤ l) (hA : ¬ A l) : J s A (W.putObj l o) :=
  h s A W _ hj rfl rfl rfl (by simp) fun k hk hc => World.putObj_heap_other (fun e => by subst e; rcases hc with hc | hc; omega; exact hA hc)

theorem yieldAt_any {m m' : Nat} {l : Nat} {args : Array Value} {W : World} {R : Ending → World → Prop} (h : YieldAt Fence.wide m P l args W R) : YieldAt Fence.wide m' P l args W R := by
  obtain ⟨fn, tmps, assign, body, hy, hR⟩ := h
  exact ⟨fn, tmps, assign, body, hy, hR.1, fun c cs _ => hR.2 c cs (room_wide _)⟩

/-- An iterator's value hands on the elements of L, one by one, each with blocks of its own (G, from lo on). -/
def EachC {M : Type} (P : Program) (gf : Nat) (lb : Array Value) (L : List M) (Val : Value → M → Nat → (Nat → Prop) → World → Prop) (W : World) (A : Nat → Prop) : Prop :=
  ∀ (l : Nat) (J Jx : List M → (Nat → Prop) → World → Prop), AbidF W.heap.size J → AbidF W.heap.size Jx → (∀ pre A1 W1, J pre A1 W1 → ∀ k, A1 k → k < W1.heap.size) →
    (∀ pre A1 m v lo G W1, J pre A1 W1 → (pre ++ [m]) <+: L → ItStep A A1 W W1 → Val v m lo G W1 → W.heap.size ≤ lo → lo ≤ W1.heap.size → (∀ k, A1 k → k < lo) → (∀ k, G k → lo ≤ k ∧ k < W1.heap.size) → YieldAt Fence.wide 0 P l #[v] W1 fun e W2 =>
      (e = .returned (.bool true) ∧ ∃ A2, J (pre ++ [m]) A2 W2 ∧ ItGive A1 A2 G W1 W2) ∨
      (e = .returned (.bool false) ∧ ∃ A2, Jx (pre ++ [m]) A2 W2 ∧ (W1.heap.size ≤ W2.heap.size ∧ (∀ k, W.heap.size ≤ k → k < W1.heap.size → ¬ A1 k → W2.heap[k]? = W1.heap[k]?) ∧ ∀ k, A2 k → A1 k ∨ G k ∨ W1.heap.size ≤ k))) →
    J [] A W →
    Calls P gf (#[.func (.yield l) #[] #[]] ++ lb) W fun e W2 => (∃ v, e = .returned v) ∧ ∃ A2, (J L A2 W2 ∧ ItStep A A2 W W2) ∨ ∃ pre, pre <+: L ∧ Jx pre A2 W2

/-- How the body of a round may be left. -/
def eachPost {M : Type} (B : Nat) (I : List M → (Nat → Prop) → World → Prop) (Ix : Code → List M → (Nat → Prop) → World → Prop) (xs : List M) (A G : Nat → Prop) (W : World) : Exit → Act → World → Prop
  | .normal, _, W' => ∃ A', I xs A' W' ∧ ItGive A A' G W W'
  | .ret, _, W' => ∃ A', Ix .ret xs A' W' ∧ (W.heap.size ≤ W'.heap.size ∧ (∀ k, B ≤ k → k < W.heap.size → ¬ A k → W'.heap[k]? = W.heap[k]?) ∧ ∀ k, A' k → A k ∨ G k ∨ W.heap.size ≤ k)
  | .exit id, _, W' => ∃ A', Ix (.exit id) xs A' W' ∧ (W.heap.size ≤ W'.heap.size ∧ (∀ k, B ≤ k → k < W.heap.size → ¬ A k → W'.heap[k]? = W.heap[k]?) ∧ ∀ k, A' k → A k ∨ G k ∨ W.heap.size ≤ k)
  | _, _, _ => False

set_option maxHeartbeats 1000000 in
theorem wp_rangeEach {M : Type} {g : Operand} {ps : Array Tmp} {assign body : Code} {Q : Exit → Act → World → Prop} {a : Act} {w : World} {n gf : Nat} {lb : Array Value}
    (hg : a.eval g = .func (.func gf) #[] lb) (eg : ∀ args w, (callFunc gf args).run P w = .ok (.enter gf args) w)
    {L : List M} {Val : Value → M → Nat → (Nat → Prop) → World → Prop} (hVal : ∀ v m lo G W W', Val v m lo G W → W.heap.size ≤ W'.heap.size → (∀ k, G k → W'.heap[k]? = W.heap[k]?) → Val v m lo G W')
    (A0 : Nat → Prop) (hA0 : ∀ k, A0 k → k < w.heap.size) (hseq : ∀ W1 : World, Below w.heap.size w W1 → W1.heap.size = w.heap.size + 2 → EachC P gf lb L Val W1 A0) (hps : ps.size = 1)
    (I : List M → (Nat → Prop) → World → Prop) (Ix : Code → List M → (Nat → Prop) → World → Prop) (hI : AbidF w.heap.size I) (hIx : ∀ c, AbidF w.heap.size (Ix c)) (hIA : ∀ pre A1 W1, I pre A1 W1 → ∀ k, A1 k → k < W1.heap.size) (h0 : I [] A0 w) (a₁ : Value → Act)
    (hassign : ∀ (l : Nat) (v : Value) (m : M) (lo : Nat) (G : Nat → Prop) (W : World) (K : Act → World → Prop), Val v m lo G W → K (a₁ v) W → assign.wpIn (Fence.wide.inRound l) n P (Exit.then K (fun _ _ _ => False)) { tmps := (ps.zip #[v]).foldl (fun t (p, v) => t.setIfInBounds p v) a.tmps, defers := [] } W)
    (hbody : ∀ (l : Nat) (pre : List M) (A : Nat → Prop) (m : M) (v : Value) (lo : Nat) (G : Nat → Prop) (W : World), I pre A W → ItStep A0 A w W → (pre ++ [m]) <+: L → Val v m lo G W → w.heap.size + 2 ≤ lo → lo ≤ W.heap.size → (∀ k, A k → k < lo) → (∀ k, G k → lo ≤ k ∧ k < W.heap.size) → body.wpIn (Fence.wide.inRound l) n P (eachPost w.heap.size I Ix (pre ++ [m]) A G W) (a₁ v) W)
    (hdone : ∀ (A : Nat → Prop) (W : World), I L A W → ItStep A0 A w W → (∀ k, A k → A0 k ∨ w.heap.size + 2 ≤ k) → W.heap[w.heap.size]? = some (.deferred (some [])) → Q .normal { a with defers := { target := .collected w.heap.size, args := #[] } :: a.defers } W)
    (hstop : ∀ (c : Code) (pre : List M) (A : Nat → Prop) (W : World), pre <+: L → Ix c pre A W → (∀ k, A k → A0 k ∨ w.heap.size + 2 ≤ k) → W.heap[w.heap.size]? = some (.deferred (some [])) → c.wpIn Fence.wide n P Q { a with defers := { target := .collected w.heap.size, args := #[] } :: a.defers } W) :
    (Code.rangeFunc g ps assign body).wpIn Fence.wide n P Q a w := by
  refine wpIn_rangeFunc fun fn hfn => ?_
  let rec0 : LoopState → Option Code → Loop := fun st pe => { state := st, pending := pe, fn := fn, tmps := a.tmps, params := ps, assign := assign, body := body, defers := w.heap.size }
  obtain ⟨R, hR⟩ : ∃ R, R = rec0 := ⟨_, rfl⟩
  obtain ⟨U, hU⟩ : ∃ U, U = (w.alloc (.deferred (some []))).alloc (.loop (R .ready none)) := ⟨_, rfl⟩
  have hub : Below w.heap.size w U := by rw [hU]; exact ((Below.refl _ w).alloc (Nat.le_refl _) _).alloc (by simp) _
  have hus : U.heap.size = w.heap.size + 2 := by rw [hU]; simp
  have hul : U.heap[w.heap.size + 1]? = some (.loop (R .ready none)) := by
    rw [hU]; have := World.alloc_heap_new (w.alloc (.deferred (some []))) (.loop (R .ready none)); rwa [World.size_alloc] at this
  have hud : U.heap[w.heap.size]? = some (.deferred (some [])) := by
    rw [hU]; exact (Below.heap_alloc _ _ _ (by simp)).trans (World.alloc_heap_new w _)
  have hui : I [] A0 U := abidF_below hI h0 hub
  refine ⟨w.heap.size + 1, [{ target := .collected w.heap.size, args := #[] }], U, { target := .fn (.func gf) lb, args := #[.func (.yield (w.heap.size + 1)) #[] #[]] }, U, gf, #[.func (.yield (w.heap.size + 1)) #[] #[]] ++ lb, U, ?_, ?_, fun _ _ => trivial, ?_, fun h => (by simp [Fence.wide] at h), ?_⟩
  · rw [hU, hR]; exact run_enterLoop_outer _ _ _ _ _
  · simp only [resolve, hg]
    simp [go_sem]
  · simp [invoke, go_sem, eg]
  refine (callsIn_wide (n := n - 1)).2 ?_
  refine (hseq U hub hus (w.heap.size + 1) (fun pre A W => I pre A W ∧ ItStep A0 A U W ∧ W.heap[w.heap.size + 1]? = some (.loop (R .ready none)) ∧ W.heap[w.heap.size]? = some (.deferred (some [])))
    (fun pre A W => ((∃ c, Ix c pre A W ∧ W.heap[w.heap.size + 1]? = some (.loop (R .done (some c)))) ∧ W.heap[w.heap.size]? = some (.deferred (some []))) ∧ ∀ k, A k → A0 k ∨ U.heap.size ≤ k) ?_ ?_ (fun pre A1 W1 h => hIA pre A1 W1 h.1) ?_ ⟨hui, itStep_refl _ _, hul, hud⟩).mono ?_
  · intro s A W W' hj ho ht hp hs hk
    obtain ⟨h1, h2, h3, h4⟩ := hj
    have hlt := (Array.getElem?_eq_some_iff.1 h3).1
    refine ⟨hI s A W W' h1 ho ht hp hs fun k hk2 hc => hk k hk2 (hc.imp (fun x => by omega) id), ⟨⟨ho.trans h2.1.os, ht.trans h2.1.tape, hp.trans h2.1.output, Nat.le_trans h2.1.size hs, fun k hk2 hn => ?_⟩, h2.2⟩, ?_, ?_⟩
    · rw [hk k (Nat.lt_of_lt_of_le hk2 h2.1.size) (.inl hk2)]; exact h2.1.block k hk2 hn
    · rw [hk _ hlt (.inl (by omega))]; exact h3
    · rw [hk _ (by omega) (.inl (by omega))]; exact h4
  · intro s A W W' hj ho ht hp hs hk
    obtain ⟨⟨⟨c, h1, h3⟩, h4⟩, h5⟩ := hj
    have hlt := (Array.getElem?_eq_some_iff.1 h3).1
    refine ⟨⟨⟨c, hIx c s A W W' h1 ho ht hp hs fun k hk2 hc => hk k hk2 (hc.imp (fun x => by omega) id), ?_⟩, ?_⟩, h5⟩
    · rw [hk _ hlt (.inl (by omega))]; exact h3
    · rw [hk _ (by omega) (.inl (by omega))]; exact h4
  · rintro pre A1 m v lo G W1 ⟨hi, hst, hl, hd⟩ hpre - hv hlo hlo1 hAlo hG
    have hlo2 : w.heap.size + 2 ≤ lo := by omega
    have hlt : w.heap.size + 1 < W1.heap.size := (Array.getElem?_eq_some_iff.1 hl).1
    have hnA : ∀ k, w.heap.size ≤ k → k ≤ w.heap.size + 1 → ¬ A1 k := fun k h1 h2 hA => by
      rcases hst.2 k hA with h3 | h3
      · have := hA0 k h3; omega
      · omega
    have hy := run_yield (P := P) (args := #[v]) hl (by rw [hR]; exact hps.symm)
    rw [hR] at hy
    obtain ⟨V, hV⟩ : ∃ V, V = W1.putObj (w.heap.size + 1) (.loop { R .ready none with state := .busy }) := ⟨_, rfl⟩
    have hVl : V.heap[w.heap.size + 1]? = some (.loop { R .ready none with state := .busy }) := by rw [hV]; exact World.putObj_heap_same hlt
    have hVo : ∀ k, k ≠ w.heap.size + 1 → V.heap[k]? = W1.heap[k]? := fun k hk => by rw [hV]; exact World.putObj_heap_other hk
    have hVs : V.heap.size = W1.heap.size := by rw [hV]; simp
    have hVi : I pre A1 V := by rw [hV]; exact abidF_put hI _ hi (by omega) (hnA _ (by omega) (Nat.le_refl _))
    have hVv : Val v m lo G V := hVal _ _ _ _ W1 V hv (by omega) fun k hk => hVo k (by have := hG k hk; omega)
    have hVe : V.os = W1.os ∧ V.tape = W1.tape ∧ V.output = W1.output := by rw [hV]; exact ⟨rfl, rfl, rfl⟩
    have hVst : ItStep A0 A1 w V := by
      refine ⟨⟨hVe.1.trans (hst.1.os.trans hub.os), hVe.2.1.trans (hst.1.tape.trans hub.tape), hVe.2.2.trans (hst.1.output.trans hub.output), by omega, fun k hk hn => ?_⟩, fun k hA => ?_⟩
      · rw [hVo k (by omega), hst.1.block k (by omega) hn, hub.block k hk]
      · rcases hst.2 k hA with h3 | h3
        · exact .inl h3
        · exact .inr (by omega)
    refine ⟨fn, _, assign, body, hy, ?_⟩
    have hbusy : ∀ W3 : World, V.heap.size ≤ W3.heap.size → (∀ k, w.heap.size ≤ k → k < V.heap.size → ¬ A1 k → W3.heap[k]? = V.heap[k]?) → W3.heap[w.heap.size + 1]? = some (.loop { R .ready none with state := .busy }) ∧ W3.heap[w.heap.size]? = some (.deferred (some [])) ∧ w.heap.size + 1 < W3.heap.size := fun W3 h1 h2 => by
      refine ⟨?_, ?_, by omega⟩
      · rw [h2 _ (by omega) (by omega) (hnA _ (by omega) (Nat.le_refl _))]; exact hVl
      · rw [h2 _ (Nat.le_refl _) (by omega) (hnA _ (Nat.le_refl _) (by omega)), hVo _ (by omega)]; exact hd
    have hleave : ∀ (c : Code) (A' : Nat → Prop) (W3 : World), Ix c (pre ++ [m]) A' W3 → (V.heap.size ≤ W3.heap.size ∧ (∀ k, w.heap.size ≤ k → k < V.heap.size → ¬ A1 k → W3.heap[k]? = V.heap[k]?) ∧ ∀ k, A' k → A1 k ∨ G k ∨ V.heap.size ≤ k) →
        ∃ v' W4, (Instr.endRound (w.heap.size + 1) (some c)).run P W3 = .ok v' W4 ∧ (Ending.returned v' = .returned (.bool false) ∧ ∃ A2, (((∃ c, Ix c (pre ++ [m]) A2 W4 ∧ W4.heap[w.heap.size + 1]? = some (.loop (R .done (some c)))) ∧ W4.heap[w.heap.size]? = some (.deferred (some []))) ∧ ∀ k, A2 k → A0 k ∨ U.heap.size ≤ k) ∧ (W1.heap.size ≤ W4.heap.size ∧ (∀ k, U.heap.size ≤ k → k < W1.heap.size → ¬ A1 k → W4.heap[k]? = W1.heap[k]?) ∧ ∀ k, A2 k → A1 k ∨ G k ∨ W1.heap.size ≤ k)) := by
      rintro c A' W3 hi3 ⟨hs3, hk3, hA3⟩
      obtain ⟨h1, h2, h3⟩ := hbusy W3 hs3 hk3
      have hnA' : ¬ A' (w.heap.size + 1) := fun h => by
        rcases hA3 _ h with h4 | h4 | h4
        · exact hnA _ (by omega) (Nat.le_refl _) h4
        · have := hG _ h4; omega
        · omega
      refine ⟨_, _, run_endRound (P := P) (some c) h1, rfl, A', ⟨⟨⟨c, abidF_put (hIx c) _ hi3 (by omega) hnA', ?_⟩, ?_⟩, fun k hk => ?_⟩, ?_, fun k hk1 hk2 hn => ?_, fun k hk => ?_⟩
      · rw [World.putObj_heap_same h3, hR]; rfl
      · rw [World.putObj_heap_other (by omega)]; exact h2
      · rcases hA3 k hk with h4 | h4 | h4
        · exact hst.2 k h4
        · exact .inr (by have := hG _ h4; omega)
        · exact .inr (by have := hst.1.size; omega)
      · simp; omega
      · rw [World.putObj_heap_other (by omega), hk3 k (by omega) (by omega) hn, hVo k (by omega)]
      · rcases hA3 k hk with h4 | h4 | h4
        · exact .inl h4
        · exact .inr (.inl h4)
        · exact .inr (.inr (by omega))
    have key : RoundIn Fence.wide n P (w.heap.size + 1) fn ((ps.zip #[v]).foldl (fun t (p, v) => t.setIfInBounds p v) a.tmps) assign body W1 (fun e W2 => (e = .returned (.bool true) ∧ ∃ A2, (I (pre ++ [m]) A2 W2 ∧ ItStep A0 A2 U W2 ∧ W2.heap[w.heap.size + 1]? = some (.loop (R .ready none)) ∧ W2.heap[w.heap.size]? = some (.deferred (some []))) ∧ ItGive A1 A2 G W1 W2) ∨
        (e = .returned (.bool false) ∧ ∃ A2, (((∃ c, Ix c (pre ++ [m]) A2 W2 ∧ W2.heap[w.heap.size + 1]? = some (.loop (R .done (some c)))) ∧ W2.heap[w.heap.size]? = some (.deferred (some []))) ∧ ∀ k, A2 k → A0 k ∨ U.heap.size ≤ k) ∧ (W1.heap.size ≤ W2.heap.size ∧ (∀ k, U.heap.size ≤ k → k < W1.heap.size → ¬ A1 k → W2.heap[k]? = W1.heap[k]?) ∧ ∀ k, A2 k → A1 k ∨ G k ∨ W1.heap.size ≤ k))) := by
      refine roundIn_of_wpIn hfn (hassign _ v m lo G W1 _ hv ⟨V, ?_, wpIn_mono (hbody _ pre A1 m v lo G V hVi hVst hpre hVv hlo2 (by rw [hVs]; exact hlo1) hAlo (fun k hk => by rw [hVs]; exact hG k hk)) ?_⟩)
      · rw [hV]; exact run_beginRound hl (by rw [hR])
      · intro e a' W3 hp
        cases e with
        | normal =>
          obtain ⟨A', hi3, hst3⟩ := hp
          obtain ⟨h1, h2, h3⟩ := hbusy W3 hst3.1.size fun k _ hk2 hn => hst3.1.block k hk2 hn
          have hnA' : ¬ A' (w.heap.size + 1) := fun h => by
            rcases hst3.2 _ h with h4 | h4 | h4
            · exact hnA _ (by omega) (Nat.le_refl _) h4
            · have := hG _ h4; omega
            · omega
          have hstep : ItGive A1 A' G W1 (W3.putObj (w.heap.size + 1) (.loop { { R .ready none with state := .busy } with state := if (none : Option Code).isNone then .ready else .done, pending := none })) := by
            refine ⟨⟨hst3.1.os.trans hVe.1, hst3.1.tape.trans hVe.2.1, hst3.1.output.trans hVe.2.2, by have := hst3.1.size; simp; omega, fun k hk hn => ?_⟩, fun k hk => ?_⟩
            · by_cases e : k = w.heap.size + 1
              · subst e
                rw [World.putObj_heap_same h3, hl, hR]; rfl
              · rw [World.putObj_heap_other e, hst3.1.block k (by omega) hn, hVo k e]
            · rcases hst3.2 k hk with h4 | h4 | h4
              · exact .inl h4
              · exact .inr (.inl h4)
              · exact .inr (.inr (by omega))
          refine ⟨_, _, run_endRound (P := P) none h1, .inl ⟨rfl, A', ⟨abidF_put hI _ hi3 (by omega) hnA', itGive_trans hst hstep (fun i hi => by have := hG i hi; omega), ?_, ?_⟩, hstep⟩⟩
          · rw [World.putObj_heap_same h3, hR]; rfl
          · rw [World.putObj_heap_other (by omega)]; exact h2
        | ret =>
          obtain ⟨A', hi3, h3⟩ := hp
          obtain ⟨v', W4, h4, h5⟩ := hleave _ A' W3 hi3 h3
          exact ⟨v', W4, h4, .inr h5⟩
        | exit id =>
          obtain ⟨A', hi3, h3⟩ := hp
          obtain ⟨v', W4, h4, h5⟩ := hleave _ A' W3 hi3 h3
          exact ⟨v', W4, h4, .inr h5⟩
        | goto t => exact hp.elim
        | panic ch => exact hp.elim
        | outgrown => exact hp.elim
    exact ⟨key.1, fun c cs _ => key.2 c cs (room_wide _)⟩
  · rintro e W2 ⟨⟨v, rfl⟩, A2, hfin⟩
    rcases hfin with ⟨⟨hi, hst, hl, hd⟩, -⟩ | ⟨pre, hpre, ⟨⟨c, hi, hl⟩, hd⟩, hA2⟩
    · have hlt : w.heap.size + 1 < W2.heap.size := (Array.getElem?_eq_some_iff.1 hl).1
      have hnA : ∀ k, w.heap.size ≤ k → k ≤ w.heap.size + 1 → ¬ A2 k := fun k h1 h2 hA => by
        rcases hst.2 k hA with h3 | h3
        · have := hA0 k h3; omega
        · omega
      refine ⟨none, _, by have := run_endLoop (P := P) hl (by rw [hR]; simp [rec0]); rw [hR] at this; exact this, hdone A2 _ (abidF_put hI _ hi (by omega) (hnA _ (by omega) (Nat.le_refl _))) ?_ (fun k hk => by rw [← hus]; exact hst.2 k hk) ?_⟩
      · refine ⟨⟨hst.1.os.trans hub.os, hst.1.tape.trans hub.tape, hst.1.output.trans hub.output, by have := hst.1.size; simp; omega, fun k hk hn => ?_⟩, fun k hA => ?_⟩
        · rw [World.putObj_heap_other (by omega), hst.1.block k (by omega) hn, hub.block k hk]
        · rcases hst.2 k hA with h3 | h3
          · exact .inl h3
          · exact .inr (by omega)
      · rw [World.putObj_heap_other (by omega)]; exact hd
    · have hlt : w.heap.size + 1 < W2.heap.size := (Array.getElem?_eq_some_iff.1 hl).1
      have hnA : ¬ A2 (w.heap.size + 1) := fun hA => by
        rcases hA2 _ hA with h3 | h3
        · have := hA0 _ h3; omega
        · omega
      exact ⟨some c, _, by have := run_endLoop (P := P) hl (by rw [hR]; simp [rec0]); rw [hR] at this; exact this, hstop c pre A2 _ hpre (abidF_put (hIx c) _ hi (by omega) hnA) (fun k hk => by rw [← hus]; exact hA2 k hk) (by rw [World.putObj_heap_other (by omega)]; exact hd)⟩
end
end Go.Proofs.YtcliiefedmiokaaGreat
/-
  Masks: what meets them, all images that do, and when there is none.
-/
namespace Go.Proofs.YtcliiefedmiokaaGreat
open Go.RowKit Mx

/-- Two lists of one length whose elements fit, one by one. -/
def eqBy {α β : Type} (p : α → β → Bool) : List α → List β → Bool
  | [], [] => true
  | a :: l, b :: k => p a b && eqBy p l k
  | _, _ => false
theorem eqBy_len {α β : Type} {p : α → β → Bool} : ∀ {l : List α} {k : List β}, eqBy p l k = true → l.length = k.length
  | [], [], _ => rfl
  | a :: l, b :: k, h => by
    simp only [eqBy, Bool.and_eq_true] at h
    simp [eqBy_len h.2]
  | [], _ :: _, h => by simp [eqBy] at h
  | _ :: _, [], h => by simp [eqBy] at h
theorem eqBy_at {α β : Type} {p : α → β → Bool} : ∀ {l : List α} {k : List β} (i : Nat) (h1 : i < l.length) (h2 : i < k.length), eqBy p l k = true → p l[i] k[i] = true
  | a :: l, b :: k, 0, _, _, h => by simp only [eqBy, Bool.and_eq_true] at h; exact h.1
  | a :: l, b :: k, i + 1, h1, h2, h => by
    simp only [eqBy, Bool.and_eq_true] at h
    simpa using eqBy_at i (by simpa using h1) (by simpa using h2) h.2
theorem eqBy_yes {α β : Type} {p : α → β → Bool} : ∀ {l : List α} {k : List β}, l.length = k.length → (∀ i (h1 : i < l.length) (h2 : i < k.length), p l[i] k[i] = true) → eqBy p l k = true
  | [], [], _, _ => rfl
  | a :: l, b :: k, h, hp => by
    simp only [eqBy, Bool.and_eq_true]
    exact ⟨hp 0 (by simp) (by simp), eqBy_yes (by simpa using h) fun i h1 h2 => hp (i + 1) (by simpa using h1) (by simpa using h2)⟩
  | [], _ :: _, h, _ => by simp at h
  | _ :: _, [], h, _ => by simp at h
theorem eqBy_no1 {α β : Type} {p : α → β → Bool} {l : List α} {k : List β} (h : l.length ≠ k.length) : eqBy p l k = false := by
  cases e : eqBy p l k with
  | false => rfl
  | true => exact absurd (eqBy_len e) h
theorem eqBy_no2 {α β : Type} {p : α → β → Bool} {l : List α} {k : List β} (i : Nat) (h1 : i < l.length) (h2 : i < k.length) (h : p l[i] k[i] = false) : eqBy p l k = false := by
  cases e : eqBy p l k with
  | false => rfl
  | true => have := eqBy_at i h1 h2 e; rw [h] at this; cases this

/-- A cell meets an element of a mask. -/
def meetC (c k : Int) : Bool := k == -1 || k == c
def meetR : List Int → List Int → Bool := eqBy meetC
def meetM : List (List Int) → List (List Int) → Bool := eqBy meetR
def meetsB (m k : List (List Int)) : Bool := okB m && meetM m k
def maskRowB (C : Nat) (q : List Int) : Bool := q.length == C && q.all fun x => x == -1 || cellOk x
def maskB (k : List (List Int)) (r c : List Int) : Bool := sumsOk r c && k.length == r.length && k.all (maskRowB c.length)

/-- All images whose rows are chosen so, row by row: p says of a row, before these sums of the rows below, whether it may stand there. -/
def imL (p : List Int → List Int → Bool) : List Int → List Int → List (List (List Int))
  | [], _ => [[]]
  | a :: r, c => ((firstRows a r c).filter (p r)).flatMap fun row => (imL p r (subL c row)).map (row :: ·)
theorem imL_all : ∀ (r c : List Int), imL (fun _ _ => true) r c = allL r c
  | [], _ => rfl
  | a :: r, c => by
    rw [imL, allL, List.filter_eq_self.2 (fun _ _ => rfl), firstRows, flat_filterM]
    exact congrArg (List.flatMap · _) (funext fun row => by rw [imL_all r])
where
  flat_filterM {α β : Type} (p : α → Bool) (f : α → List β) : ∀ l : List α, (l.filter p).flatMap f = l.flatMap fun x => if p x then f x else []
  | [] => rfl
  | x :: l => by
    rw [List.flatMap_cons, List.filter_cons, ← flat_filterM p f l]
    cases p x <;> simp
theorem imL_sub (p : List Int → List Int → Bool) : ∀ (r c : List Int), ∀ {m : List (List Int)}, m ∈ imL p r c → m ∈ allL r c
  | [], _, _, h => h
  | a :: r, c, m, h => by
    rw [imL, List.mem_flatMap] at h
    obtain ⟨row, h1, h2⟩ := h
    obtain ⟨m', h3, rfl⟩ := List.mem_map.1 h2
    obtain ⟨h4, -⟩ := List.mem_filter.1 h1
    obtain ⟨h5, h6⟩ := List.mem_filter.1 h4
    rw [allL, List.mem_flatMap]
    exact ⟨row, h5, by rw [if_pos h6]; exact List.mem_map.2 ⟨m', imL_sub p r _ h3, rfl⟩⟩
/-- The row of a mask that stands before so many rows. -/
def maskP (k : List (List Int)) (r row : List Int) : Bool := meetR row (k.getD (k.length - (r.length + 1)) [])
theorem filter_map_cons {α : Type} (q : List α → Bool) (x : α) : ∀ l : List (List α), (l.map (x :: ·)).filter q = (l.filter fun m => q (x :: m)).map (x :: ·)
  | [] => rfl
  | m :: l => by
    rw [List.map_cons, List.filter_cons, List.filter_cons, filter_map_cons q x l]
    cases q (x :: m) <;> simp
theorem filter_flat {α β : Type} (q : β → Bool) (f : α → List β) : ∀ l : List α, (l.flatMap f).filter q = l.flatMap fun x => (f x).filter q
  | [] => rfl
  | x :: l => by rw [List.flatMap_cons, List.flatMap_cons, List.filter_append, filter_flat q f l]
theorem imL_mask : ∀ (r c : List Int) (k : List (List Int)), r.length ≤ k.length → imL (maskP k) r c = (allL r c).filter fun m => meetM m (k.drop (k.length - r.length))
  | [], c, k, _ => by
    rw [imL, allL, List.length_nil, Nat.sub_zero, List.drop_length]; rfl
  | a :: r, c, k, h => by
    rw [List.length_cons] at h
    have hd : k.drop (k.length - (r.length + 1)) = k.getD (k.length - (r.length + 1)) [] :: k.drop (k.length - r.length) := by
      rw [List.drop_eq_getElem_cons (by omega), List.getD_eq_getElem?_getD, List.getElem?_eq_getElem (by omega), Option.getD_some, show k.length - (r.length + 1) + 1 = k.length - r.length by omega]
    rw [imL, List.length_cons, hd, ← imL_all, imL, filter_flat, List.filter_eq_self.2 (fun _ _ => rfl), imL_all.flat_filterM]
    refine congrArg (List.flatMap · _) (funext fun row => ?_)
    rw [filter_map_cons, imL_all, imL_mask r (subL c row) k (by omega)]
    have hp : ∀ m, meetM (row :: m) (k.getD (k.length - (r.length + 1)) [] :: k.drop (k.length - r.length)) = (maskP k r row && meetM m (k.drop (k.length - r.length))) := fun m => rfl
    cases hc : maskP k r row with
    | false =>
      rw [if_neg (by simp), List.filter_eq_nil_iff.2 (fun m _ => by rw [hp, hc]; simp)]; rfl
    | true =>
      rw [if_pos rfl]
      exact congrArg _ (List.filter_congr fun m _ => by rw [hp, hc, Bool.true_and])
/-- The images that meet a mask. -/
def maskedL (k : List (List Int)) (r c : List Int) : List (List (List Int)) := (allIm r c).filter fun m => meetM m k
theorem maskedL_im {k : List (List Int)} {r c : List Int} (h : maskB k r c = true) : imL (maskP k) r c = maskedL k r c := by
  unfold maskB at h
  simp only [Bool.and_eq_true, beq_iff_eq] at h
  rw [imL_mask r c k (by omega), h.1.2, Nat.sub_self, List.drop_zero, maskedL, allIm_sums h.1.1]
def maskedImB (k : List (List Int)) (r c : List Int) : Bool := maskB k r c && !(maskedL k r c).isEmpty
def maskedIm (k : List (List Int)) (r c : List Int) : List (List Int) := if maskB k r c = true then (maskedL k r c).headD [] else []
def maskedCnt (k : List (List Int)) (r c : List Int) : Int := if maskB k r c = true then ((maskedL k r c).length : Int) else -1
end Go.Proofs.YtcliiefedmiokaaGreat
