/-
  The exact laws of chapter 5, walked over the contracts of both functions.
-/
import Derived.Test.YtcpmocjdkfkliaaLawsQ
namespace Go.Proofs.Ytcpmocjdkfkliaa
open Go.RowKit
set_option linter.unusedVariables false

theorem grown_below4 {B : Nat} {a b : World} {row : Option Nat} (h : a.grownBy b row) (hr : ∀ k, row = some k → B ≤ k) (hB : B ≤ a.heap.size) : Below B a b := (Below.refl B a).grown h hB fun k hk => hr k hk

set_option maxRecDepth 100000 in
set_option maxHeartbeats 1000000 in
theorem lawConjugateOf_gen (a : Option Addr) (n c : Nat) (r : List Int) (m0 : Int) (w : World) (hin : InRow w (.slice a n c) r) (rows : List Int) (hrows : r.length ≤ 1048576 → rows.length ≤ 1048576)
    (hs : r.length ≤ 1048576 → ∀ v w, InRow w v r → Calls Try.prog 9 #[v, .int .i64 m0] w (IntsRes rows w))
    (hi : r.length ≤ 1048576 → ∀ v w, InRow w v r → Calls Try.prog 11 #[v, .int .i64 m0] w (IntsRes rows w)) :
    Calls Try.prog 3 #[.slice a n c, .int .i64 m0] w fun e w' => e = .returned (.bool true) ∧ Below w.heap.size w w' := by
  have HI := hide hin
  obtain ⟨a', c', he, hma, -⟩ := hin
  cases he
  unfold maxLen at hma
  by_cases hr : 1048576 < r.length
  · clear hs hi hrows
    obtain ⟨R, hR⟩ : ∃ R, R = r.length := ⟨_, rfl⟩
    rw [← hR] at HI hr hma ⊢
    clear hR
    go_enter Try.func3, Try.ntmps3
    go_wp2
    go_ret
    exact ⟨rfl, Below.refl _ _⟩
  · have HS := hide (hs (by omega)); have HM := hide (hi (by omega)); have hrw := hrows (by omega)
    have HR : Hid (r.length ≤ 2000000) := hide (by omega)
    clear hs hi hrows
    go_enter Try.func3, Try.ntmps3
    go_wp2_with fail
    refine (toIntS_any _ r _ HR.out HI.out).mono ?_
    rintro e w1 ⟨v1, rfl, ho, hb⟩
    have HO1 := hide (inRow_own ho); have HB1 := hide hb; clear ho hb
    go_wp2_with fail
    refine (HS.out v1 _ HO1.out).mono ?_
    rintro e w2 ⟨u0, rfl, ho, hb⟩
    have HUL := hide (fun k e => (ho.lt k e).2); have HU := hide ho; have HB2 := hide (HB1.out.trans (hb.mono HB1.out.size)); clear ho hb
    go_wp2_with fail
    refine (toIntS_any _ r _ HR.out (inRow_below HI.out HB2.out)).mono ?_
    rintro e w3 ⟨v3, rfl, ho, hb⟩
    have HVL := hide (fun k e => (ho.lt k e).2); have HV3 := hide ho; have HVSZ := hide hb.size; have HU3 := hide (own_below HU.out hb); have HB3 := hide (HB2.out.trans (hb.mono HB2.out.size)); clear ho hb
    go_wp2_with fail
    refine (HM.out v3 _ (inRow_own HV3.out)).mono ?_
    rintro e w4 ⟨g0, rfl, ho, hb⟩
    have HG4 := hide ho; have HV4 := hide (own_below HV3.out hb); have HU4 := hide (own_below HU3.out hb); have HB4 := hide (HB3.out.trans (hb.mono HB3.out.size)); clear ho hb
    go_wp2_with fail
    refine (eqIntS_same g0 u0 rows _ (inRow_own HG4.out) (inRow_own HU4.out)).mono ?_
    rintro e w5 ⟨rfl, hb⟩
    have HG5 := hide (own_below HG4.out hb); have HV5 := hide (own_below HV4.out hb); have HU5 := hide (own_below HU4.out hb); have HB5 := hide (HB4.out.trans (hb.mono HB4.out.size)); clear hb
    go_wp2_with fail
    refine (toIntS_any _ r _ HR.out (inRow_below HI.out HB5.out)).mono ?_
    rintro e w6 ⟨v6, rfl, ho, hb⟩
    have HW6 := hide ho; have HG6 := hide (own_below HG5.out hb); have HV6 := hide (own_below HV5.out hb); have HU6 := hide (own_below HU5.out hb); have HB6 := hide (HB5.out.trans (hb.mono HB5.out.size)); clear ho hb
    go_wp2_with fail
    refine (eqIntS_same v3 v6 r _ (inRow_own HV6.out) (inRow_own HW6.out)).mono ?_
    rintro e w7 ⟨rfl, hb⟩
    have HG7 := hide (own_below HG6.out hb); have HV7 := hide (own_below HV6.out hb); have HU7 := hide (own_below HU6.out hb); have HB7 := hide (HB6.out.trans (hb.mono HB6.out.size)); clear hb
    go_wp2_with fail
    refine (markIntS_any r.length 1 v3 _ _ _ (by have := HR.out; omega) (by omega) HV7.out).mono ?_
    rintro e w8 ⟨rfl, -, hg⟩
    have hne1 : u0.ownBlock = none ∨ u0.ownBlock ≠ v3.ownBlock := by
      cases e0 : u0.ownBlock with
      | none => exact .inl rfl
      | some k =>
        refine .inr fun e1 => ?_
        have q1 := HUL.out k e0
        have q2 := (HV7.out.lt k e1.symm).1
        omega
    have hne2 : g0.ownBlock = none ∨ g0.ownBlock ≠ v3.ownBlock := by
      cases e0 : g0.ownBlock with
      | none => exact .inl rfl
      | some k =>
        refine .inr fun e1 => ?_
        have q1 := HVL.out k e1.symm
        have q2 := (HG7.out.lt k e0).1
        omega
    have HG8 := hide (HG7.out.kept hg hne2); have HU8 := hide (HU7.out.kept hg hne1)
    have HB8 := hide (HB7.out.trans (grown_below4 hg (fun k hk => by have := (HV7.out.lt k hk).1; have := HB2.out.size; omega) HB7.out.size))
    clear hg hne1 hne2
    go_wp2_with fail
    refine (eqIntS_same g0 u0 rows _ (inRow_own HG8.out) (inRow_own HU8.out)).mono ?_
    rintro e w9 ⟨rfl, hb⟩
    have HG9 := hide (own_below HG8.out hb); have HU9 := hide (own_below HU8.out hb); have HB9 := hide (HB8.out.trans (hb.mono HB8.out.size)); clear hb
    go_wp2_with fail
    refine (markIntS_any rows.length 1 g0 _ _ _ (by omega) (by omega) HG9.out).mono ?_
    rintro e w10 ⟨rfl, ho, hg⟩
    have hne3 : u0.ownBlock = none ∨ u0.ownBlock ≠ g0.ownBlock := by
      cases e0 : u0.ownBlock with
      | none => exact .inl rfl
      | some k =>
        refine .inr fun e1 => ?_
        have q1 := HUL.out k e0
        have q2 := (HG9.out.lt k e1.symm).1
        have q3 := HVSZ.out
        omega
    have HG10 := hide (inRow_own (r := markR rows.length 1) (by rw [markR_len]; exact ho)); have HU10 := hide (HU9.out.kept hg hne3)
    have HB10 := hide (HB9.out.trans (grown_below4 hg (fun k hk => by have := (HG9.out.lt k hk).1; have := HB3.out.size; omega) HB9.out.size))
    clear ho hg hne3
    go_wp2_with fail
    refine (heldIntS_any rows.length 1 g0 _ (by omega) (by omega) HG10.out).mono ?_
    rintro e w11 ⟨rfl, hb⟩
    have HG11 := hide (inRow_below HG10.out hb); have HU11 := hide (own_below HU10.out hb); have HB11 := hide (HB10.out.trans (hb.mono HB10.out.size)); clear hb
    go_wp2_with fail
    refine (toIntS_any _ r _ HR.out (inRow_below HI.out HB11.out)).mono ?_
    rintro e w12 ⟨v12, rfl, ho, hb⟩
    have HV12 := hide ho; have HG12 := hide (inRow_below HG11.out hb); have HU12 := hide (own_below HU11.out hb); have HB12 := hide (HB11.out.trans (hb.mono HB11.out.size)); clear ho hb
    go_wp2_with fail
    refine (HM.out v12 _ (inRow_own HV12.out)).mono ?_
    rintro e w13 ⟨h0, rfl, ho, hb⟩
    have HH := hide ho; have HG13 := hide (inRow_below HG12.out hb); have HU13 := hide (own_below HU12.out hb); have HB13 := hide (HB12.out.trans (hb.mono HB12.out.size)); clear ho hb
    go_wp2_with fail
    refine (eqIntS_same h0 u0 rows _ (inRow_own HH.out) (inRow_own HU13.out)).mono ?_
    rintro e w14 ⟨rfl, hb⟩
    have HG14 := hide (inRow_below HG13.out hb); have HB14 := hide (HB13.out.trans (hb.mono HB13.out.size)); clear hb
    go_wp2_with fail
    refine (heldIntS_any rows.length 1 g0 _ (by omega) (by omega) HG14.out).mono ?_
    rintro e w15 ⟨rfl, hb⟩
    have HB15 := hide (HB14.out.trans (hb.mono HB14.out.size)); clear hb
    go_wp2
    go_ret
    exact ⟨rfl, HB15.out⟩

set_option maxRecDepth 100000 in
set_option maxHeartbeats 1000000 in
theorem lawSortedDown_gen (a : Option Addr) (n c : Nat) (r : List Int) (w : World) (hin : InRow w (.slice a n c) r) (rows : List Int) (hrows : r.length ≤ 1048576 → rows.length ≤ 1048576)
    (hs : r.length ≤ 1048576 → ∀ v w, InRow w v r → Calls Try.prog 15 #[v] w (IntsRes rows w))
    (hi : r.length ≤ 1048576 → ∀ v w, InRow w v r → Calls Try.prog 16 #[v] w (IntsRes rows w)) :
    Calls Try.prog 4 #[.slice a n c] w fun e w' => e = .returned (.bool true) ∧ Below w.heap.size w w' := by
  have HI := hide hin
  obtain ⟨a', c', he, hma, -⟩ := hin
  cases he
  unfold maxLen at hma
  by_cases hr : 1048576 < r.length
  · clear hs hi hrows
    obtain ⟨R, hR⟩ : ∃ R, R = r.length := ⟨_, rfl⟩
    rw [← hR] at HI hr hma ⊢
    clear hR
    go_enter Try.func4, Try.ntmps4
    go_wp2
    go_ret
    exact ⟨rfl, Below.refl _ _⟩
  · have HS := hide (hs (by omega)); have HM := hide (hi (by omega)); have hrw := hrows (by omega)
    have HR : Hid (r.length ≤ 2000000) := hide (by omega)
    clear hs hi hrows
    go_enter Try.func4, Try.ntmps4
    go_wp2_with fail
    refine (toIntS_any _ r _ HR.out HI.out).mono ?_
    rintro e w1 ⟨v1, rfl, ho, hb⟩
    have HO1 := hide (inRow_own ho); have HB1 := hide hb; clear ho hb
    go_wp2_with fail
    refine (HS.out v1 _ HO1.out).mono ?_
    rintro e w2 ⟨u0, rfl, ho, hb⟩
    have HUL := hide (fun k e => (ho.lt k e).2); have HU := hide ho; have HB2 := hide (HB1.out.trans (hb.mono HB1.out.size)); clear ho hb
    go_wp2_with fail
    refine (toIntS_any _ r _ HR.out (inRow_below HI.out HB2.out)).mono ?_
    rintro e w3 ⟨v3, rfl, ho, hb⟩
    have HVL := hide (fun k e => (ho.lt k e).2); have HV3 := hide ho; have HVSZ := hide hb.size; have HU3 := hide (own_below HU.out hb); have HB3 := hide (HB2.out.trans (hb.mono HB2.out.size)); clear ho hb
    go_wp2_with fail
    refine (HM.out v3 _ (inRow_own HV3.out)).mono ?_
    rintro e w4 ⟨g0, rfl, ho, hb⟩
    have HG4 := hide ho; have HV4 := hide (own_below HV3.out hb); have HU4 := hide (own_below HU3.out hb); have HB4 := hide (HB3.out.trans (hb.mono HB3.out.size)); clear ho hb
    go_wp2_with fail
    refine (eqIntS_same g0 u0 rows _ (inRow_own HG4.out) (inRow_own HU4.out)).mono ?_
    rintro e w5 ⟨rfl, hb⟩
    have HG5 := hide (own_below HG4.out hb); have HV5 := hide (own_below HV4.out hb); have HU5 := hide (own_below HU4.out hb); have HB5 := hide (HB4.out.trans (hb.mono HB4.out.size)); clear hb
    go_wp2_with fail
    refine (toIntS_any _ r _ HR.out (inRow_below HI.out HB5.out)).mono ?_
    rintro e w6 ⟨v6, rfl, ho, hb⟩
    have HW6 := hide ho; have HG6 := hide (own_below HG5.out hb); have HV6 := hide (own_below HV5.out hb); have HU6 := hide (own_below HU5.out hb); have HB6 := hide (HB5.out.trans (hb.mono HB5.out.size)); clear ho hb
    go_wp2_with fail
    refine (eqIntS_same v3 v6 r _ (inRow_own HV6.out) (inRow_own HW6.out)).mono ?_
    rintro e w7 ⟨rfl, hb⟩
    have HG7 := hide (own_below HG6.out hb); have HV7 := hide (own_below HV6.out hb); have HU7 := hide (own_below HU6.out hb); have HB7 := hide (HB6.out.trans (hb.mono HB6.out.size)); clear hb
    go_wp2_with fail
    refine (markIntS_any r.length 1 v3 _ _ _ (by have := HR.out; omega) (by omega) HV7.out).mono ?_
    rintro e w8 ⟨rfl, -, hg⟩
    have hne1 : u0.ownBlock = none ∨ u0.ownBlock ≠ v3.ownBlock := by
      cases e0 : u0.ownBlock with
      | none => exact .inl rfl
      | some k =>
        refine .inr fun e1 => ?_
        have q1 := HUL.out k e0
        have q2 := (HV7.out.lt k e1.symm).1
        omega
    have hne2 : g0.ownBlock = none ∨ g0.ownBlock ≠ v3.ownBlock := by
      cases e0 : g0.ownBlock with
      | none => exact .inl rfl
      | some k =>
        refine .inr fun e1 => ?_
        have q1 := HVL.out k e1.symm
        have q2 := (HG7.out.lt k e0).1
        omega
    have HG8 := hide (HG7.out.kept hg hne2); have HU8 := hide (HU7.out.kept hg hne1)
    have HB8 := hide (HB7.out.trans (grown_below4 hg (fun k hk => by have := (HV7.out.lt k hk).1; have := HB2.out.size; omega) HB7.out.size))
    clear hg hne1 hne2
    go_wp2_with fail
    refine (eqIntS_same g0 u0 rows _ (inRow_own HG8.out) (inRow_own HU8.out)).mono ?_
    rintro e w9 ⟨rfl, hb⟩
    have HG9 := hide (own_below HG8.out hb); have HU9 := hide (own_below HU8.out hb); have HB9 := hide (HB8.out.trans (hb.mono HB8.out.size)); clear hb
    go_wp2_with fail
    refine (markIntS_any rows.length 1 g0 _ _ _ (by omega) (by omega) HG9.out).mono ?_
    rintro e w10 ⟨rfl, ho, hg⟩
    have hne3 : u0.ownBlock = none ∨ u0.ownBlock ≠ g0.ownBlock := by
      cases e0 : u0.ownBlock with
      | none => exact .inl rfl
      | some k =>
        refine .inr fun e1 => ?_
        have q1 := HUL.out k e0
        have q2 := (HG9.out.lt k e1.symm).1
        have q3 := HVSZ.out
        omega
    have HG10 := hide (inRow_own (r := markR rows.length 1) (by rw [markR_len]; exact ho)); have HU10 := hide (HU9.out.kept hg hne3)
    have HB10 := hide (HB9.out.trans (grown_below4 hg (fun k hk => by have := (HG9.out.lt k hk).1; have := HB3.out.size; omega) HB9.out.size))
    clear ho hg hne3
    go_wp2_with fail
    refine (heldIntS_any rows.length 1 g0 _ (by omega) (by omega) HG10.out).mono ?_
    rintro e w11 ⟨rfl, hb⟩
    have HG11 := hide (inRow_below HG10.out hb); have HU11 := hide (own_below HU10.out hb); have HB11 := hide (HB10.out.trans (hb.mono HB10.out.size)); clear hb
    go_wp2_with fail
    refine (toIntS_any _ r _ HR.out (inRow_below HI.out HB11.out)).mono ?_
    rintro e w12 ⟨v12, rfl, ho, hb⟩
    have HV12 := hide ho; have HG12 := hide (inRow_below HG11.out hb); have HU12 := hide (own_below HU11.out hb); have HB12 := hide (HB11.out.trans (hb.mono HB11.out.size)); clear ho hb
    go_wp2_with fail
    refine (HM.out v12 _ (inRow_own HV12.out)).mono ?_
    rintro e w13 ⟨h0, rfl, ho, hb⟩
    have HH := hide ho; have HG13 := hide (inRow_below HG12.out hb); have HU13 := hide (own_below HU12.out hb); have HB13 := hide (HB12.out.trans (hb.mono HB12.out.size)); clear ho hb
    go_wp2_with fail
    refine (eqIntS_same h0 u0 rows _ (inRow_own HH.out) (inRow_own HU13.out)).mono ?_
    rintro e w14 ⟨rfl, hb⟩
    have HG14 := hide (inRow_below HG13.out hb); have HB14 := hide (HB13.out.trans (hb.mono HB13.out.size)); clear hb
    go_wp2_with fail
    refine (heldIntS_any rows.length 1 g0 _ (by omega) (by omega) HG14.out).mono ?_
    rintro e w15 ⟨rfl, hb⟩
    have HB15 := hide (HB14.out.trans (hb.mono HB14.out.size)); clear hb
    go_wp2
    go_ret
    exact ⟨rfl, HB15.out⟩

set_option maxRecDepth 100000 in
set_option maxHeartbeats 1000000 in
theorem lawWorstColumns_gen (a0 : Option Addr) (n0 c0 : Nat) (r0 : List Int) (a1 : Option Addr) (n1 c1 : Nat) (r1 : List Int) (w : World) (hin0 : InRow w (.slice a0 n0 c0) r0) (hin1 : InRow w (.slice a1 n1 c1) r1) (val : Int)
    (hs : r0.length ≤ 1048576 → r1.length ≤ 1048576 → ∀ (v0 : Value) (v1 : Value) (w : World), InRow w v0 r0 → InRow w v1 r1 → Calls Try.prog 17 #[v0, v1] w fun e w' => e = .returned (.int .i64 val) ∧ Below w.heap.size w w')
    (hi : r0.length ≤ 1048576 → r1.length ≤ 1048576 → ∀ (v0 : Value) (v1 : Value) (w : World), InRow w v0 r0 → InRow w v1 r1 → Calls Try.prog 18 #[v0, v1] w fun e w' => e = .returned (.int .i64 val) ∧ Below w.heap.size w w') :
    Calls Try.prog 5 #[.slice a0 n0 c0, .slice a1 n1 c1] w fun e w' => e = .returned (.bool true) ∧ Below w.heap.size w w' := by
  have HI0 := hide hin0
  obtain ⟨a', c', he, hm0, -⟩ := hin0
  cases he
  unfold maxLen at hm0
  have HI1 := hide hin1
  obtain ⟨a', c', he, hm1, -⟩ := hin1
  cases he
  unfold maxLen at hm1
  by_cases hr0 : 1048576 < r0.length
  · clear hs hi
    obtain ⟨R0, hR0⟩ : ∃ R0, R0 = r0.length := ⟨_, rfl⟩
    obtain ⟨R1, hR1⟩ : ∃ R1, R1 = r1.length := ⟨_, rfl⟩
    rw [← hR0] at HI0 hm0 hr0 ⊢
    rw [← hR1] at HI1 hm1 ⊢
    clear hR0 hR1
    go_enter Try.func5, Try.ntmps5
    go_wp2
    go_ret
    exact ⟨rfl, Below.refl _ _⟩
  · by_cases hr1 : 1048576 < r1.length
    · clear hs hi
      obtain ⟨R0, hR0⟩ : ∃ R0, R0 = r0.length := ⟨_, rfl⟩
      obtain ⟨R1, hR1⟩ : ∃ R1, R1 = r1.length := ⟨_, rfl⟩
      rw [← hR0] at HI0 hm0 hr0 ⊢
      rw [← hR1] at HI1 hm1 hr1 ⊢
      clear hR0 hR1
      go_enter Try.func5, Try.ntmps5
      go_wp2
      go_ret
      exact ⟨rfl, Below.refl _ _⟩
    · have HS := hide (hs (by omega) (by omega)); have HM := hide (hi (by omega) (by omega))
      have HR0 : Hid (r0.length ≤ 2000000) := hide (by omega)
      have HR1 : Hid (r1.length ≤ 2000000) := hide (by omega)
      clear hs hi
      go_enter Try.func5, Try.ntmps5
      go_wp2_with fail
      refine (toIntS_any _ r0 _ HR0.out HI0.out).mono ?_
      rintro e w1 ⟨ps0, rfl, ho, hb⟩
      have Ps0_1 := hide (inRow_own ho); have HB1 := hide (hb); clear ho hb
      go_wp2_with fail
      refine (toIntS_any _ r1 _ HR1.out (inRow_below HI1.out HB1.out)).mono ?_
      rintro e w2 ⟨ps1, rfl, ho, hb⟩
      have Ps0_2 := hide (inRow_below Ps0_1.out hb); have Ps1_2 := hide (inRow_own ho); have HB2 := hide (HB1.out.trans (hb.mono HB1.out.size)); clear ho hb
      go_wp2_with fail
      refine (HS.out ps0 ps1 _ Ps0_2.out Ps1_2.out).mono ?_
      rintro e w3 ⟨rfl, hb⟩
      have HB3 := hide (HB2.out.trans (hb.mono HB2.out.size)); clear hb
      go_wp2_with fail
      refine (toIntS_any _ r0 _ HR0.out (inRow_below HI0.out HB3.out)).mono ?_
      rintro e w4 ⟨px0, rfl, ho, hb⟩
      have Px0_4 := hide (inRow_own ho); have HB4 := hide (HB3.out.trans (hb.mono HB3.out.size)); clear ho hb
      go_wp2_with fail
      refine (toIntS_any _ r1 _ HR1.out (inRow_below HI1.out HB4.out)).mono ?_
      rintro e w5 ⟨px1, rfl, ho, hb⟩
      have Px0_5 := hide (inRow_below Px0_4.out hb); have Px1_5 := hide (inRow_own ho); have HB5 := hide (HB4.out.trans (hb.mono HB4.out.size)); clear ho hb
      go_wp2_with fail
      refine (HM.out px0 px1 _ Px0_5.out Px1_5.out).mono ?_
      rintro e w6 ⟨rfl, hb⟩
      have Px0_6 := hide (inRow_below Px0_5.out hb); have Px1_6 := hide (inRow_below Px1_5.out hb); have HB6 := hide (HB5.out.trans (hb.mono HB5.out.size)); clear hb
      go_wp2_with fail
      refine (toIntS_any _ r0 _ HR0.out (inRow_below HI0.out HB6.out)).mono ?_
      rintro e w7 ⟨py0, rfl, ho, hb⟩
      have Px0_7 := hide (inRow_below Px0_6.out hb); have Px1_7 := hide (inRow_below Px1_6.out hb); have Py0_7 := hide (inRow_own ho); have HB7 := hide (HB6.out.trans (hb.mono HB6.out.size)); clear ho hb
      go_wp2_with fail
      refine (eqIntS_same px0 py0 r0 _ Px0_7.out Py0_7.out).mono ?_
      rintro e w8 ⟨rfl, hb⟩
      have Px1_8 := hide (inRow_below Px1_7.out hb); have HB8 := hide (HB7.out.trans (hb.mono HB7.out.size)); clear hb
      go_wp2_with fail
      refine (toIntS_any _ r1 _ HR1.out (inRow_below HI1.out HB8.out)).mono ?_
      rintro e w9 ⟨py1, rfl, ho, hb⟩
      have Px1_9 := hide (inRow_below Px1_8.out hb); have Py1_9 := hide (inRow_own ho); have HB9 := hide (HB8.out.trans (hb.mono HB8.out.size)); clear ho hb
      go_wp2_with fail
      refine (eqIntS_same px1 py1 r1 _ Px1_9.out Py1_9.out).mono ?_
      rintro e w10 ⟨rfl, hb⟩
      have HB10 := hide (HB9.out.trans (hb.mono HB9.out.size)); clear hb
      go_wp2
      go_ret
      exact ⟨rfl, HB10.out⟩

set_option maxRecDepth 100000 in
set_option maxHeartbeats 1000000 in
theorem lawExists_gen (a0 : Option Addr) (n0 c0 : Nat) (r0 : List Int) (a1 : Option Addr) (n1 c1 : Nat) (r1 : List Int) (w : World) (hin0 : InRow w (.slice a0 n0 c0) r0) (hin1 : InRow w (.slice a1 n1 c1) r1) (val : Bool)
    (hs : r0.length ≤ 1048576 → r1.length ≤ 1048576 → ∀ (v0 : Value) (v1 : Value) (w : World), InRow w v0 r0 → InRow w v1 r1 → Calls Try.prog 19 #[v0, v1] w fun e w' => e = .returned (.bool val) ∧ Below w.heap.size w w')
    (hi : r0.length ≤ 1048576 → r1.length ≤ 1048576 → ∀ (v0 : Value) (v1 : Value) (w : World), InRow w v0 r0 → InRow w v1 r1 → Calls Try.prog 20 #[v0, v1] w fun e w' => e = .returned (.bool val) ∧ Below w.heap.size w w') :
    Calls Try.prog 6 #[.slice a0 n0 c0, .slice a1 n1 c1] w fun e w' => e = .returned (.bool true) ∧ Below w.heap.size w w' := by
  have HI0 := hide hin0
  obtain ⟨a', c', he, hm0, -⟩ := hin0
  cases he
  unfold maxLen at hm0
  have HI1 := hide hin1
  obtain ⟨a', c', he, hm1, -⟩ := hin1
  cases he
  unfold maxLen at hm1
  by_cases hr0 : 1048576 < r0.length
  · clear hs hi
    obtain ⟨R0, hR0⟩ : ∃ R0, R0 = r0.length := ⟨_, rfl⟩
    obtain ⟨R1, hR1⟩ : ∃ R1, R1 = r1.length := ⟨_, rfl⟩
    rw [← hR0] at HI0 hm0 hr0 ⊢
    rw [← hR1] at HI1 hm1 ⊢
    clear hR0 hR1
    go_enter Try.func6, Try.ntmps6
    go_wp2
    go_ret
    exact ⟨rfl, Below.refl _ _⟩
  · by_cases hr1 : 1048576 < r1.length
    · clear hs hi
      obtain ⟨R0, hR0⟩ : ∃ R0, R0 = r0.length := ⟨_, rfl⟩
      obtain ⟨R1, hR1⟩ : ∃ R1, R1 = r1.length := ⟨_, rfl⟩
      rw [← hR0] at HI0 hm0 hr0 ⊢
      rw [← hR1] at HI1 hm1 hr1 ⊢
      clear hR0 hR1
      go_enter Try.func6, Try.ntmps6
      go_wp2
      go_ret
      exact ⟨rfl, Below.refl _ _⟩
    · have HS := hide (hs (by omega) (by omega)); have HM := hide (hi (by omega) (by omega))
      have HR0 : Hid (r0.length ≤ 2000000) := hide (by omega)
      have HR1 : Hid (r1.length ≤ 2000000) := hide (by omega)
      clear hs hi
      go_enter Try.func6, Try.ntmps6
      go_wp2_with fail
      refine (toIntS_any _ r0 _ HR0.out HI0.out).mono ?_
      rintro e w1 ⟨ps0, rfl, ho, hb⟩
      have Ps0_1 := hide (inRow_own ho); have HB1 := hide (hb); clear ho hb
      go_wp2_with fail
      refine (toIntS_any _ r1 _ HR1.out (inRow_below HI1.out HB1.out)).mono ?_
      rintro e w2 ⟨ps1, rfl, ho, hb⟩
      have Ps0_2 := hide (inRow_below Ps0_1.out hb); have Ps1_2 := hide (inRow_own ho); have HB2 := hide (HB1.out.trans (hb.mono HB1.out.size)); clear ho hb
      go_wp2_with fail
      refine (HS.out ps0 ps1 _ Ps0_2.out Ps1_2.out).mono ?_
      rintro e w3 ⟨rfl, hb⟩
      have HB3 := hide (HB2.out.trans (hb.mono HB2.out.size)); clear hb
      go_wp2_with fail
      refine (toIntS_any _ r0 _ HR0.out (inRow_below HI0.out HB3.out)).mono ?_
      rintro e w4 ⟨px0, rfl, ho, hb⟩
      have Px0_4 := hide (inRow_own ho); have HB4 := hide (HB3.out.trans (hb.mono HB3.out.size)); clear ho hb
      go_wp2_with fail
      refine (toIntS_any _ r1 _ HR1.out (inRow_below HI1.out HB4.out)).mono ?_
      rintro e w5 ⟨px1, rfl, ho, hb⟩
      have Px0_5 := hide (inRow_below Px0_4.out hb); have Px1_5 := hide (inRow_own ho); have HB5 := hide (HB4.out.trans (hb.mono HB4.out.size)); clear ho hb
      go_wp2_with fail
      refine (HM.out px0 px1 _ Px0_5.out Px1_5.out).mono ?_
      rintro e w6 ⟨rfl, hb⟩
      have Px0_6 := hide (inRow_below Px0_5.out hb); have Px1_6 := hide (inRow_below Px1_5.out hb); have HB6 := hide (HB5.out.trans (hb.mono HB5.out.size)); clear hb
      have hv : (val != val) = false := by cases val <;> rfl
      go_wp2_with fail
      refine (toIntS_any _ r0 _ HR0.out (inRow_below HI0.out HB6.out)).mono ?_
      rintro e w7 ⟨py0, rfl, ho, hb⟩
      have Px0_7 := hide (inRow_below Px0_6.out hb); have Px1_7 := hide (inRow_below Px1_6.out hb); have Py0_7 := hide (inRow_own ho); have HB7 := hide (HB6.out.trans (hb.mono HB6.out.size)); clear ho hb
      go_wp2_with fail
      refine (eqIntS_same px0 py0 r0 _ Px0_7.out Py0_7.out).mono ?_
      rintro e w8 ⟨rfl, hb⟩
      have Px1_8 := hide (inRow_below Px1_7.out hb); have HB8 := hide (HB7.out.trans (hb.mono HB7.out.size)); clear hb
      go_wp2_with fail
      refine (toIntS_any _ r1 _ HR1.out (inRow_below HI1.out HB8.out)).mono ?_
      rintro e w9 ⟨py1, rfl, ho, hb⟩
      have Px1_9 := hide (inRow_below Px1_8.out hb); have Py1_9 := hide (inRow_own ho); have HB9 := hide (HB8.out.trans (hb.mono HB8.out.size)); clear ho hb
      go_wp2_with fail
      refine (eqIntS_same px1 py1 r1 _ Px1_9.out Py1_9.out).mono ?_
      rintro e w10 ⟨rfl, hb⟩
      have HB10 := hide (HB9.out.trans (hb.mono HB9.out.size)); clear hb
      go_wp2
      go_ret
      exact ⟨rfl, HB10.out⟩

set_option maxRecDepth 100000 in
set_option maxHeartbeats 1000000 in
theorem lawMostIn_gen (a0 : Option Addr) (n0 c0 : Nat) (r0 : List Int) (m1 : Int) (m2 : Int) (w : World) (hin0 : InRow w (.slice a0 n0 c0) r0) (val : Int)
    (hs : r0.length ≤ 1048576 → ∀ (v0 : Value) (w : World), InRow w v0 r0 → Calls Try.prog 21 #[v0, .int .i64 m1, .int .i64 m2] w fun e w' => e = .returned (.int .i64 val) ∧ Below w.heap.size w w')
    (hi : r0.length ≤ 1048576 → ∀ (v0 : Value) (w : World), InRow w v0 r0 → Calls Try.prog 22 #[v0, .int .i64 m1, .int .i64 m2] w fun e w' => e = .returned (.int .i64 val) ∧ Below w.heap.size w w') :
    Calls Try.prog 7 #[.slice a0 n0 c0, .int .i64 m1, .int .i64 m2] w fun e w' => e = .returned (.bool true) ∧ Below w.heap.size w w' := by
  have HI0 := hide hin0
  obtain ⟨a', c', he, hm0, -⟩ := hin0
  cases he
  unfold maxLen at hm0
  by_cases hr0 : 1048576 < r0.length
  · clear hs hi
    obtain ⟨R0, hR0⟩ : ∃ R0, R0 = r0.length := ⟨_, rfl⟩
    rw [← hR0] at HI0 hm0 hr0 ⊢
    clear hR0
    go_enter Try.func7, Try.ntmps7
    go_wp2
    go_ret
    exact ⟨rfl, Below.refl _ _⟩
  · have HS := hide (hs (by omega)); have HM := hide (hi (by omega))
    have HR0 : Hid (r0.length ≤ 2000000) := hide (by omega)
    clear hs hi
    go_enter Try.func7, Try.ntmps7
    go_wp2_with fail
    refine (toIntS_any _ r0 _ HR0.out HI0.out).mono ?_
    rintro e w1 ⟨ps0, rfl, ho, hb⟩
    have Ps0_1 := hide (inRow_own ho); have HB1 := hide (hb); clear ho hb
    go_wp2_with fail
    refine (HS.out ps0 _ Ps0_1.out).mono ?_
    rintro e w2 ⟨rfl, hb⟩
    have HB2 := hide (HB1.out.trans (hb.mono HB1.out.size)); clear hb
    go_wp2_with fail
    refine (toIntS_any _ r0 _ HR0.out (inRow_below HI0.out HB2.out)).mono ?_
    rintro e w3 ⟨px0, rfl, ho, hb⟩
    have Px0_3 := hide (inRow_own ho); have HB3 := hide (HB2.out.trans (hb.mono HB2.out.size)); clear ho hb
    go_wp2_with fail
    refine (HM.out px0 _ Px0_3.out).mono ?_
    rintro e w4 ⟨rfl, hb⟩
    have Px0_4 := hide (inRow_below Px0_3.out hb); have HB4 := hide (HB3.out.trans (hb.mono HB3.out.size)); clear hb
    go_wp2_with fail
    refine (toIntS_any _ r0 _ HR0.out (inRow_below HI0.out HB4.out)).mono ?_
    rintro e w5 ⟨py0, rfl, ho, hb⟩
    have Px0_5 := hide (inRow_below Px0_4.out hb); have Py0_5 := hide (inRow_own ho); have HB5 := hide (HB4.out.trans (hb.mono HB4.out.size)); clear ho hb
    go_wp2_with fail
    refine (eqIntS_same px0 py0 r0 _ Px0_5.out Py0_5.out).mono ?_
    rintro e w6 ⟨rfl, hb⟩
    have HB6 := hide (HB5.out.trans (hb.mono HB5.out.size)); clear hb
    go_wp2
    go_ret
    exact ⟨rfl, HB6.out⟩

set_option maxRecDepth 100000 in
set_option maxHeartbeats 1000000 in
theorem lawSlackOf_gen (a0 : Option Addr) (n0 c0 : Nat) (r0 : List Int) (a1 : Option Addr) (n1 c1 : Nat) (r1 : List Int) (w : World) (hin0 : InRow w (.slice a0 n0 c0) r0) (hin1 : InRow w (.slice a1 n1 c1) r1) (val : Int)
    (hs : r0.length ≤ 1048576 → r1.length ≤ 1048576 → ∀ (v0 : Value) (v1 : Value) (w : World), InRow w v0 r0 → InRow w v1 r1 → Calls Try.prog 23 #[v0, v1] w fun e w' => e = .returned (.int .i64 val) ∧ Below w.heap.size w w')
    (hi : r0.length ≤ 1048576 → r1.length ≤ 1048576 → ∀ (v0 : Value) (v1 : Value) (w : World), InRow w v0 r0 → InRow w v1 r1 → Calls Try.prog 24 #[v0, v1] w fun e w' => e = .returned (.int .i64 val) ∧ Below w.heap.size w w') :
    Calls Try.prog 8 #[.slice a0 n0 c0, .slice a1 n1 c1] w fun e w' => e = .returned (.bool true) ∧ Below w.heap.size w w' := by
  have HI0 := hide hin0
  obtain ⟨a', c', he, hm0, -⟩ := hin0
  cases he
  unfold maxLen at hm0
  have HI1 := hide hin1
  obtain ⟨a', c', he, hm1, -⟩ := hin1
  cases he
  unfold maxLen at hm1
  by_cases hr0 : 1048576 < r0.length
  · clear hs hi
    obtain ⟨R0, hR0⟩ : ∃ R0, R0 = r0.length := ⟨_, rfl⟩
    obtain ⟨R1, hR1⟩ : ∃ R1, R1 = r1.length := ⟨_, rfl⟩
    rw [← hR0] at HI0 hm0 hr0 ⊢
    rw [← hR1] at HI1 hm1 ⊢
    clear hR0 hR1
    go_enter Try.func8, Try.ntmps8
    go_wp2
    go_ret
    exact ⟨rfl, Below.refl _ _⟩
  · by_cases hr1 : 1048576 < r1.length
    · clear hs hi
      obtain ⟨R0, hR0⟩ : ∃ R0, R0 = r0.length := ⟨_, rfl⟩
      obtain ⟨R1, hR1⟩ : ∃ R1, R1 = r1.length := ⟨_, rfl⟩
      rw [← hR0] at HI0 hm0 hr0 ⊢
      rw [← hR1] at HI1 hm1 hr1 ⊢
      clear hR0 hR1
      go_enter Try.func8, Try.ntmps8
      go_wp2
      go_ret
      exact ⟨rfl, Below.refl _ _⟩
    · have HS := hide (hs (by omega) (by omega)); have HM := hide (hi (by omega) (by omega))
      have HR0 : Hid (r0.length ≤ 2000000) := hide (by omega)
      have HR1 : Hid (r1.length ≤ 2000000) := hide (by omega)
      clear hs hi
      go_enter Try.func8, Try.ntmps8
      go_wp2_with fail
      refine (toIntS_any _ r0 _ HR0.out HI0.out).mono ?_
      rintro e w1 ⟨ps0, rfl, ho, hb⟩
      have Ps0_1 := hide (inRow_own ho); have HB1 := hide (hb); clear ho hb
      go_wp2_with fail
      refine (toIntS_any _ r1 _ HR1.out (inRow_below HI1.out HB1.out)).mono ?_
      rintro e w2 ⟨ps1, rfl, ho, hb⟩
      have Ps0_2 := hide (inRow_below Ps0_1.out hb); have Ps1_2 := hide (inRow_own ho); have HB2 := hide (HB1.out.trans (hb.mono HB1.out.size)); clear ho hb
      go_wp2_with fail
      refine (HS.out ps0 ps1 _ Ps0_2.out Ps1_2.out).mono ?_
      rintro e w3 ⟨rfl, hb⟩
      have HB3 := hide (HB2.out.trans (hb.mono HB2.out.size)); clear hb
      go_wp2_with fail
      refine (toIntS_any _ r0 _ HR0.out (inRow_below HI0.out HB3.out)).mono ?_
      rintro e w4 ⟨px0, rfl, ho, hb⟩
      have Px0_4 := hide (inRow_own ho); have HB4 := hide (HB3.out.trans (hb.mono HB3.out.size)); clear ho hb
      go_wp2_with fail
      refine (toIntS_any _ r1 _ HR1.out (inRow_below HI1.out HB4.out)).mono ?_
      rintro e w5 ⟨px1, rfl, ho, hb⟩
      have Px0_5 := hide (inRow_below Px0_4.out hb); have Px1_5 := hide (inRow_own ho); have HB5 := hide (HB4.out.trans (hb.mono HB4.out.size)); clear ho hb
      go_wp2_with fail
      refine (HM.out px0 px1 _ Px0_5.out Px1_5.out).mono ?_
      rintro e w6 ⟨rfl, hb⟩
      have Px0_6 := hide (inRow_below Px0_5.out hb); have Px1_6 := hide (inRow_below Px1_5.out hb); have HB6 := hide (HB5.out.trans (hb.mono HB5.out.size)); clear hb
      go_wp2_with fail
      refine (toIntS_any _ r0 _ HR0.out (inRow_below HI0.out HB6.out)).mono ?_
      rintro e w7 ⟨py0, rfl, ho, hb⟩
      have Px0_7 := hide (inRow_below Px0_6.out hb); have Px1_7 := hide (inRow_below Px1_6.out hb); have Py0_7 := hide (inRow_own ho); have HB7 := hide (HB6.out.trans (hb.mono HB6.out.size)); clear ho hb
      go_wp2_with fail
      refine (eqIntS_same px0 py0 r0 _ Px0_7.out Py0_7.out).mono ?_
      rintro e w8 ⟨rfl, hb⟩
      have Px1_8 := hide (inRow_below Px1_7.out hb); have HB8 := hide (HB7.out.trans (hb.mono HB7.out.size)); clear hb
      go_wp2_with fail
      refine (toIntS_any _ r1 _ HR1.out (inRow_below HI1.out HB8.out)).mono ?_
      rintro e w9 ⟨py1, rfl, ho, hb⟩
      have Px1_9 := hide (inRow_below Px1_8.out hb); have Py1_9 := hide (inRow_own ho); have HB9 := hide (HB8.out.trans (hb.mono HB8.out.size)); clear ho hb
      go_wp2_with fail
      refine (eqIntS_same px1 py1 r1 _ Px1_9.out Py1_9.out).mono ?_
      rintro e w10 ⟨rfl, hb⟩
      have HB10 := hide (HB9.out.trans (hb.mono HB9.out.size)); clear hb
      go_wp2
      go_ret
      exact ⟨rfl, HB10.out⟩
end Go.Proofs.Ytcpmocjdkfkliaa
