/-
  The exact law on SumsOk, walked.
-/
import Derived.Test.YteogbddbafkieaaSums
namespace Go.Proofs.Yteogbddbafkieaa
open Go.RowKit
set_option linter.unusedVariables false

/-- What 'open_ints' hands over. -/
theorem inRow_of {w : World} {x : Addr} {l c : Nat} {zs : List Int} (hl : l ≤ c) (hm : c ≤ maxLen) (hz : zs.length = c) (hcell : ∀ i, i < zs.length → w.cell? (x.add i) = some (.int .i64 (zs.getD i 0))) : InRow w (.slice (some x) l c) (zs.take l) := by
  have hlen : (zs.take l).length = l := by rw [List.length_take]; omega
  refine ⟨some x, c, by rw [hlen], by omega, ?_⟩
  by_cases h0 : l = 0
  · exact .inl (by omega)
  · refine .inr ?_
    obtain ⟨g, o, spot⟩ := x
    have hc := hcell 0 (by omega)
    have hspot : spot = none := by simpa [Addr.add] using World.cell?_spot hc
    subst hspot
    refine ⟨g, o, rfl, by have := World.block_lt_of_cell? w _ hc; simpa [Addr.add] using this, fun i hi => ?_⟩
    have := hcell i (by omega)
    rw [addr_add] at this
    rw [this, List.getElem_take, List.getD_eq_getElem?_getD, List.getElem?_eq_getElem (by omega)]; rfl

set_option maxRecDepth 100000 in
set_option maxHeartbeats 1000000 in
theorem lawSumsOk_walk (a : Option Addr) (n c : Nat) (r : List Int) (b : Option Addr) (k d : Nat) (s : List Int) (w : World) (hin : InRow w (.slice a n c) r) (hin2 : InRow w (.slice b k d) s) :
    Calls Try.prog 10 #[.slice a n c, .slice b k d] w fun e w' => e = .returned (.bool true) ∧ Below w.heap.size w w' := by
  have HI := hide hin; have HJ := hide hin2
  obtain ⟨a', c', he, hma, -⟩ := hin
  obtain ⟨b', d', he2, hmb, -⟩ := hin2
  cases he; cases he2
  unfold maxLen at hma hmb
  obtain ⟨val, HV⟩ : ∃ val, Hid (sumsOk r s = val) := ⟨_, hide rfl⟩
  by_cases hr : 1048576 < r.length
  · clear hma hmb
    obtain ⟨R, hR⟩ : ∃ R, R = r.length := ⟨_, rfl⟩
    obtain ⟨S, hS⟩ : ∃ S, S = s.length := ⟨_, rfl⟩
    rw [← hR] at HI hr ⊢
    rw [← hS] at HJ ⊢
    clear hR hS
    go_enter Try.func10, Try.ntmps10
    go_wp2
    go_ret
    exact ⟨rfl, Below.refl _ _⟩
  · by_cases hs : 1048576 < s.length
    · obtain ⟨R, hR⟩ : ∃ R, R = r.length := ⟨_, rfl⟩
      obtain ⟨S, hS⟩ : ∃ S, S = s.length := ⟨_, rfl⟩
      rw [← hR] at HI hr hma ⊢
      rw [← hS] at HJ hs hmb ⊢
      clear hR hS
      go_enter Try.func10, Try.ntmps10
      go_wp2
      go_ret
      exact ⟨rfl, Below.refl _ _⟩
    · have HR : Hid (r.length ≤ 2000000) := hide (by omega)
      have HS : Hid (s.length ≤ 2000000) := hide (by omega)
      go_enter Try.func10, Try.ntmps10
      go_wp2_with fail
      refine (toIntS_any _ r _ HR.out HI.out).mono ?_
      rintro e w1 ⟨v1, rfl, ho, hb⟩
      have HO1 := hide (inRow_own ho); have HB1 := hide hb; clear ho hb
      go_wp2_with fail
      refine (toIntS_any _ s _ HS.out (inRow_below HJ.out HB1.out)).mono ?_
      rintro e w2 ⟨v2, rfl, ho, hb⟩
      have HO2 := hide (inRow_own ho); have HP2 := hide (inRow_below HO1.out hb); have HB2 := hide (HB1.out.trans (hb.mono HB1.out.size)); clear ho hb
      go_wp2_with fail
      refine (specSumsOk_any v1 v2 r s _ HP2.out HO2.out).mono ?_
      rw [HV.out]
      rintro e w3 ⟨rfl, hb⟩
      have HB3 := hide (HB2.out.trans (hb.mono HB2.out.size)); clear hb
      go_wp2_with fail
      refine (toIntS_any _ r _ HR.out (inRow_below HI.out HB3.out)).mono ?_
      rintro e w4 ⟨v4, rfl, ho, hb⟩
      have HO4 := hide (inRow_own ho); have HB4 := hide (HB3.out.trans (hb.mono HB3.out.size)); clear ho hb
      go_wp2_with fail
      refine (toIntS_any _ s _ HS.out (inRow_below HJ.out HB4.out)).mono ?_
      rintro e w5 ⟨v5, rfl, ho, hb⟩
      have HO5 := hide (inRow_own ho); have HP5 := hide (inRow_below HO4.out hb); have HB5 := hide (HB4.out.trans (hb.mono HB4.out.size)); clear ho hb
      go_wp2_with fail
      refine (implSumsOk_any v4 v5 r s _ HP5.out HO5.out).mono ?_
      rw [HV.out]
      rintro e w6 ⟨rfl, hb⟩
      have HO6 := hide (inRow_below HO5.out hb); have HP6 := hide (inRow_below HP5.out hb); have HB6 := hide (HB5.out.trans (hb.mono HB5.out.size)); clear hb
      have hv : (val != val) = false := by cases val <;> rfl
      go_wp2_with fail
      refine (toIntS_any _ r _ HR.out (inRow_below HI.out HB6.out)).mono ?_
      rintro e w7 ⟨v7, rfl, ho, hb⟩
      have HO7 := hide (inRow_own ho); have HP7 := hide (inRow_below HP6.out hb); have HQ7 := hide (inRow_below HO6.out hb); have HB7 := hide (HB6.out.trans (hb.mono HB6.out.size)); clear ho hb
      go_wp2_with fail
      refine (eqIntS_same v4 v7 r _ HP7.out HO7.out).mono ?_
      rintro e w8 ⟨rfl, hb⟩
      have HQ8 := hide (inRow_below HQ7.out hb); have HB8 := hide (HB7.out.trans (hb.mono HB7.out.size)); clear hb
      go_wp2_with fail
      refine (toIntS_any _ s _ HS.out (inRow_below HJ.out HB8.out)).mono ?_
      rintro e w9 ⟨v9, rfl, ho, hb⟩
      have HO9 := hide (inRow_own ho); have HQ9 := hide (inRow_below HQ8.out hb); have HB9 := hide (HB8.out.trans (hb.mono HB8.out.size)); clear ho hb
      go_wp2_with fail
      refine (eqIntS_same v5 v9 s _ HQ9.out HO9.out).mono ?_
      rintro e w10 ⟨rfl, hb⟩
      have HB10 := hide (HB9.out.trans (hb.mono HB9.out.size)); clear hb
      go_wp2
      go_ret
      exact ⟨rfl, HB10.out⟩
end Go.Proofs.Yteogbddbafkieaa
