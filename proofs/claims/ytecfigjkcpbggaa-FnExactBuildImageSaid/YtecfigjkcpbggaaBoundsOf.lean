/-
  boundsOf.
-/
import Derived.Test.YtecfigjkcpbggaaBounds
namespace Go.Proofs.Ytecfigjkcpbggaa
open Go.RowKit

theorem sumsOk_yes {r c : List Int} (h : sumsOk r c = true) : (1 ≤ r.length ∧ r.length ≤ 5) ∧ (1 ≤ c.length ∧ c.length ≤ 5) ∧ r.any (badB c.length) = false ∧ c.any (badB r.length) = false ∧ r.sum = c.sum := by
  simp only [sumsOk, Bool.and_eq_true, Bool.not_eq_true', beq_iff_eq] at h
  obtain ⟨⟨⟨h1, h2⟩, h3⟩, h4⟩ := h
  have := sizeOk_yes h1
  exact ⟨by omega, by omega, h2, h3, h4⟩
theorem small_perm {s r : List Int} (hp : s.Perm r) (h : SmallL r) : SmallL s :=
  ⟨by rw [hp.length_eq]; exact h.1, fun i hi => by
    obtain ⟨j, hj, e⟩ := List.getElem_of_mem (hp.subset (List.getElem_mem hi))
    rw [← e]; exact h.2 j hj⟩
theorem small_conj {r : List Int} {n : Nat} (hr : r.length ≤ 5) (hn : n ≤ 5) : SmallL (conjL r n) :=
  ⟨by rw [conjL, tabL_len]; exact hn, fun i hi => by
    have h : (conjL r n)[i] = ((atLeast (i + 1) r : Nat) : Int) := tabL_at hi
    have := atLeast_le ((i : Int) + 1) r
    rw [h]; omega⟩
/-- The bounds of the sums r and c. -/
def boundsL (r c : List Int) : List (Int × Int) := tabB c.length (sortD c) (conjL r c.length)
set_option maxHeartbeats 2000000 in
theorem boundsOf_any (va vb : Value) (r c : List Int) (w : World) (ha : InRow w va r) (hb : InRow w vb c) (h : sumsOk r c = true) :
    Calls Try.prog 82 #[va, vb] w (BoundsRes (boundsL r c) w) := by
  obtain ⟨hr, hc, hrb, hcb, -⟩ := sumsOk_yes h
  have HA := hide ha; have HB := hide hb
  have HCJ := hide (conj_yes (l := r) hc hr.2 hrb)
  have HS1 := hide (small_perm (sortD_perm c) (small_of (m := r.length) hc.2 (by omega) hcb))
  have HS2 := hide (small_conj (n := c.length) hr.2 hc.2)
  have HL1 := hide (sortD_len c)
  have HL2 : Hid ((conjL r c.length).length = c.length) := hide (by rw [conjL, tabL_len])
  obtain ⟨b, cb, rfl, hmb, -⟩ := hb
  unfold maxLen at hmb
  have HC5 := hide hc
  obtain ⟨C, hC⟩ : ∃ C, C = c.length := ⟨_, rfl⟩
  have HC := hide hC
  rw [boundsL]
  rw [← hC] at HB HCJ HS2 HL1 HL2 HC5 hmb ⊢
  clear ha h hr hc hrb hcb hC
  go_enter Try.func82, Try.ntmps82
  go_wp2_with ((with_reducible refine (implConj_any va r (C : Int) _ HA.out).mono ?_); rw [HCJ.out]; rintro e w1 ⟨u1, rfl, ho, hb⟩; have HO1 := hide ho; have HB1 := hide hb; obtain ⟨ua, uc, rfl⟩ := own_slice ho; clear ho hb)
  have hbx := (Below.refl w1.heap.size w1).alloc (Nat.le_refl _) (.cells #[.slice ua (conjL r C).length uc] 22)
  have HX := hide (HB1.out.trans (hbx.mono HB1.out.size))
  have HR1 := hide (rowAt_below (rowAt_own HO1.out (by rw [HL2.out]; exact HC5.out.1)) hbx)
  have HP1 := hide (show (w1.alloc (.cells #[.slice ua (conjL r C).length uc] 22)).cell? ⟨w1.heap.size, 0, none⟩ = some (.slice ua (conjL r C).length uc) by simp [World.cell?_alloc_new])
  have HQ1 := hide (show w1.heap.size < (w1.alloc (.cells #[.slice ua (conjL r C).length uc] 22)).heap.size by simp)
  have HI2 := hide (inRow_below HB.out HX.out)
  clear hbx
  refine (implSortedDown_any _ c _ HI2.out (by have := HC5.out; have := HC.out; omega)).mono ?_
  generalize w1.alloc (.cells #[.slice ua (conjL r C).length uc] 22) = W1 at HX HR1 HP1 HQ1 HI2
  rintro e w2 ⟨u2, rfl, ho, hb⟩
  have HO2 := hide ho
  have HP2 := hide (below_cell hb HQ1.out HP1.out)
  have HR2 := hide (rowAt_below HR1.out hb)
  have HQ2 := hide (Nat.lt_of_lt_of_le HQ1.out hb.size)
  have HX2 := hide (HX.out.trans (hb.mono HX.out.size))
  obtain ⟨va2, uc2, rfl⟩ := own_slice ho
  clear ho hb HO1 HX HR1 HP1 HQ1 HI2
  go_wp2_with fail
  have hbx := (Below.refl w2.heap.size w2).alloc (Nat.le_refl _) (.cells #[.slice va2 (sortD c).length uc2] 22)
  have HX3 := hide (HX2.out.trans (hbx.mono HX2.out.size))
  have HS3 := hide (rowAt_below (rowAt_own HO2.out (by rw [HL1.out]; exact HC5.out.1)) hbx)
  have HP3 := hide (show (w2.alloc (.cells #[.slice va2 (sortD c).length uc2] 22)).cell? ⟨w2.heap.size, 0, none⟩ = some (.slice va2 (sortD c).length uc2) by simp [World.cell?_alloc_new])
  have HQ3 := hide (show w2.heap.size < (w2.alloc (.cells #[.slice va2 (sortD c).length uc2] 22)).heap.size by simp)
  have HR3 := hide (rowAt_below HR2.out hbx)
  have HP4 := hide (below_cell hbx HQ2.out HP2.out)
  have HQ4 := hide (Nat.lt_of_lt_of_le HQ2.out hbx.size)
  clear hbx HX2 HO2 HR2 HP2 HQ2
  generalize w2.alloc (.cells #[.slice va2 (sortD c).length uc2] 22) = W2 at HX3 HS3 HP3 HQ3 HR3 HP4 HQ4 ⊢
  refine (collectBound_any (sortD c) (conjL r C) _ _ w2.heap.size w1.heap.size C _ HS3.out HR3.out HQ3.out HQ4.out HP3.out HP4.out HS1.out HS2.out HL1.out HL2.out HC5.out.2).mono ?_
  rintro e w3 ⟨u3, rfl, hi, hb⟩
  have HI := hide hi; have HE := hide (HX3.out.trans (hb.mono HX3.out.size))
  clear hi hb
  go_wp2
  go_ret
  exact ⟨_, rfl, HI.out, HE.out⟩
end Go.Proofs.Ytecfigjkcpbggaa
