/-
  Texts of this claim, one behind the other: LawsI, Eq, Same, Put, Dist, SpecD, SameS, LawsSS, Grown.
-/
import Derived.Test.YtcliiefedmiokaaPackI
import Derived.Test.YtcliiefedmiokaaPackA
import Derived.Test.YtcliiefedmiokaaPackF
import Derived.Shelf.SlSortCmp.QuietGrown
/-
  The exact laws on RowSums and ColSums, walked.
-/
namespace Go.Proofs.Ytcliiefedmiokaa
open Go.RowKit
set_option linter.unusedVariables false

set_option maxRecDepth 100000 in
set_option maxHeartbeats 1000000 in
theorem lawRowSums_gen (a : Option Addr) (n c : Nat) (m : List (List Int)) (w : World) (hin : InMat w (.slice a n c) m) (rows : List Int) (hrows : rows.length ≤ 1000000)
    (hs : ∀ v w, InMat w v m → Calls Try.prog 13 #[v] w (IntsRes rows w))
    (hi : ∀ v w, InMat w v m → Calls Try.prog 15 #[v] w (IntsRes rows w)) :
    Calls Try.prog 3 #[.slice a n c] w fun e w' => e = .returned (.bool true) ∧ Below w.heap.size w w' := by
  have HI := hide hin; have HS := hide hs; have HM := hide hi
  clear hin hs hi
  go_enter Try.func3, Try.ntmps3
  go_wp2_with fail
  refine (szIntSS_any _ m 1048576 _ (by omega) HI.out).mono ?_
  rintro e w1 ⟨r, rfl, hr, hb1⟩
  have HB1 := hide hb1
  clear hb1
  rcases hr with rfl | ⟨hsz, rfl⟩
  · go_wp2
    go_ret
    exact ⟨rfl, HB1.out⟩
  · go_wp2_with fail
    refine (toIntSS_any _ m _ (by omega) (inMat_below HI.out HB1.out)).mono ?_
    rintro e w2 ⟨v2, rfl, ho2, hb2⟩
    have HO2 := hide ho2; have HB2 := hide (HB1.out.trans (hb2.mono HB1.out.size)); clear ho2 hb2
    go_wp2_with fail
    refine (HS.out v2 _ (inMat_own HO2.out)).mono ?_
    rintro e w3 ⟨u0, rfl, ho3, hb3⟩
    have HUL := hide (fun k e => (ho3.lt k e).2); have HU0 := hide ho3; have HB3 := hide (HB2.out.trans (hb3.mono HB2.out.size)); clear ho3 hb3
    go_wp2_with fail
    refine (toIntSS_any _ m _ (by omega) (inMat_below HI.out HB3.out)).mono ?_
    rintro e w4 ⟨v4, rfl, ho4, hb4⟩
    have HO4 := hide ho4; have HU1 := hide (own_below HU0.out hb4); have HB4 := hide (HB3.out.trans (hb4.mono HB3.out.size)); have hs4 := hb4.size; clear ho4 hb4
    go_wp2_with fail
    refine (HM.out v4 _ (inMat_own HO4.out)).mono ?_
    rintro e w5 ⟨g0, rfl, ho5, hb5⟩
    have HG0 := hide ho5; have HO5 := hide (ownMat_below HO4.out hb5); have HU2 := hide (own_below HU1.out hb5); have HB5 := hide (HB4.out.trans (hb5.mono HB4.out.size))
    have hs5 := hb5.size; clear ho5 hb5
    go_wp2_with fail
    refine (eqIntS_same g0 u0 rows _ (inRow_own HG0.out) (inRow_own HU2.out)).mono ?_
    rintro e w6 ⟨rfl, hb6⟩
    have HG1 := hide (own_below HG0.out hb6); have HO6 := hide (ownMat_below HO5.out hb6); have HU3 := hide (own_below HU2.out hb6); have HB6 := hide (HB5.out.trans (hb6.mono HB5.out.size))
    have hs6 := hb6.size; clear hb6
    go_wp2_with fail
    refine (toIntSS_any _ m _ (by omega) (inMat_below HI.out HB6.out)).mono ?_
    rintro e w7 ⟨v7, rfl, ho7, hb7⟩
    have HV7 := hide ho7; have HG2 := hide (own_below HG1.out hb7); have HO7 := hide (ownMat_below HO6.out hb7); have HU4 := hide (own_below HU3.out hb7); have HB7 := hide (HB6.out.trans (hb7.mono HB6.out.size))
    have hs7 := hb7.size; clear ho7 hb7
    go_wp2_with fail
    refine (eqIntSS_same v4 v7 m _ (inMat_own HO7.out) (inMat_own HV7.out)).mono ?_
    rintro e w8 ⟨rfl, hb8⟩
    have HG3 := hide (own_below HG2.out hb8); have HO8 := hide (ownMat_below HO7.out hb8); have HU5 := hide (own_below HU4.out hb8); have HB8 := hide (HB7.out.trans (hb8.mono HB7.out.size))
    have hs8 := hb8.size; clear hb8
    go_wp2_with fail
    refine (markIntSS_any m 1 _ _ v4 _ (by omega) (by omega) HO8.out).mono ?_
    rintro e w9 ⟨rfl, -, hw9⟩
    have HG4 := hide (own_within HG3.out hw9 (fun k e => .inr (HG3.out.lt k e).1)); have HU6 := hide (own_within HU5.out hw9 (fun k e => .inl (HUL.out k e))); have HB9 := hide (HB8.out.trans (below_within hw9 HB3.out.size HB8.out.size))
    have hs9 := hw9.size; clear hw9
    go_wp2_with fail
    refine (eqIntS_same g0 u0 rows _ (inRow_own HG4.out) (inRow_own HU6.out)).mono ?_
    rintro e w10 ⟨rfl, hb10⟩
    have HG5 := hide (own_below HG4.out hb10); have HU7 := hide (own_below HU6.out hb10); have HB10 := hide (HB9.out.trans (hb10.mono HB9.out.size))
    have hs10 := hb10.size; clear hb10
    go_wp2_with fail
    refine (markIntS_any rows.length 1 g0 _ _ _ (by omega) (by omega) HG5.out).mono ?_
    rintro e w11 ⟨rfl, ho11, hg11⟩
    have HNE : Hid (u0.ownBlock = none ∨ u0.ownBlock ≠ g0.ownBlock) := hide (by
      cases e0 : u0.ownBlock with
      | none => exact .inl rfl
      | some k =>
        refine .inr fun e1 => ?_
        have q1 := HUL.out k e0
        have q2 := (HG5.out.lt k e1.symm).1
        omega)
    have HG6 := hide (inRow_own (r := markR rows.length 1) (by rw [markR_len]; exact ho11)); have HU8 := hide (HU7.out.kept hg11 HNE.out)
    have HB11 := hide (HB10.out.trans (grown_below hg11 (fun k hk => by have := (HG5.out.lt k hk).1; have := HB4.out.size; omega) HB10.out.size))
    clear ho11 hg11
    go_wp2_with fail
    refine (heldIntS_any rows.length 1 g0 _ (by omega) (by omega) HG6.out).mono ?_
    rintro e w12 ⟨rfl, hb12⟩
    have HG7 := hide (inRow_below HG6.out hb12); have HU9 := hide (own_below HU8.out hb12); have HB12 := hide (HB11.out.trans (hb12.mono HB11.out.size))
    clear hb12
    go_wp2_with fail
    refine (toIntSS_any _ m _ (by omega) (inMat_below HI.out HB12.out)).mono ?_
    rintro e w13 ⟨v13, rfl, ho13, hb13⟩
    have HV13 := hide ho13; have HG8 := hide (inRow_below HG7.out hb13); have HU10 := hide (own_below HU9.out hb13); have HB13 := hide (HB12.out.trans (hb13.mono HB12.out.size))
    clear ho13 hb13
    go_wp2_with fail
    refine (HM.out v13 _ (inMat_own HV13.out)).mono ?_
    rintro e w14 ⟨h0, rfl, ho14, hb14⟩
    have HH := hide ho14; have HG9 := hide (inRow_below HG8.out hb14); have HU11 := hide (own_below HU10.out hb14); have HB14 := hide (HB13.out.trans (hb14.mono HB13.out.size))
    clear ho14 hb14
    go_wp2_with fail
    refine (eqIntS_same h0 u0 rows _ (inRow_own HH.out) (inRow_own HU11.out)).mono ?_
    rintro e w15 ⟨rfl, hb15⟩
    have HG10 := hide (inRow_below HG9.out hb15); have HB15 := hide (HB14.out.trans (hb15.mono HB14.out.size))
    clear hb15
    go_wp2_with fail
    refine (heldIntS_any rows.length 1 g0 _ (by omega) (by omega) HG10.out).mono ?_
    rintro e w16 ⟨rfl, hb16⟩
    have HB16 := hide (HB15.out.trans (hb16.mono HB15.out.size))
    clear hb16
    go_wp2
    go_ret
    exact ⟨rfl, HB16.out⟩
theorem lawRowSums_walk (a : Option Addr) (n c : Nat) (m : List (List Int)) (w : World) (hin : InMat w (.slice a n c) m) :
    Calls Try.prog 3 #[.slice a n c] w fun e w' => e = .returned (.bool true) ∧ Below w.heap.size w w' := by
  cases h : okB m with
  | false => exact lawRowSums_gen a n c m w hin [] (by decide) (fun v w hv => specRowSums_no v m w hv h) (fun v w hv => implRowSums_no v m w hv h)
  | true =>
    obtain ⟨R, C, f, rfl, hI⟩ := ok_img h
    exact lawRowSums_gen a n c _ w hin (rowsL R C f) (by rw [rowsL, rowF_len]; have := hI.r2; have := hI.c2; omega) (fun v w hv => specRowSums_yes v R C f w hv hI) (fun v w hv => implRowSums_yes v R C f w hv hI)

set_option maxRecDepth 100000 in
set_option maxHeartbeats 1000000 in
theorem lawColSums_gen (a : Option Addr) (n c : Nat) (m : List (List Int)) (w : World) (hin : InMat w (.slice a n c) m) (rows : List Int) (hrows : rows.length ≤ 1000000)
    (hs : ∀ v w, InMat w v m → Calls Try.prog 21 #[v] w (IntsRes rows w))
    (hi : ∀ v w, InMat w v m → Calls Try.prog 22 #[v] w (IntsRes rows w)) :
    Calls Try.prog 4 #[.slice a n c] w fun e w' => e = .returned (.bool true) ∧ Below w.heap.size w w' := by
  have HI := hide hin; have HS := hide hs; have HM := hide hi
  clear hin hs hi
  go_enter Try.func4, Try.ntmps4
  go_wp2_with fail
  refine (szIntSS_any _ m 1048576 _ (by omega) HI.out).mono ?_
  rintro e w1 ⟨r, rfl, hr, hb1⟩
  have HB1 := hide hb1
  clear hb1
  rcases hr with rfl | ⟨hsz, rfl⟩
  · go_wp2
    go_ret
    exact ⟨rfl, HB1.out⟩
  · go_wp2_with fail
    refine (toIntSS_any _ m _ (by omega) (inMat_below HI.out HB1.out)).mono ?_
    rintro e w2 ⟨v2, rfl, ho2, hb2⟩
    have HO2 := hide ho2; have HB2 := hide (HB1.out.trans (hb2.mono HB1.out.size)); clear ho2 hb2
    go_wp2_with fail
    refine (HS.out v2 _ (inMat_own HO2.out)).mono ?_
    rintro e w3 ⟨u0, rfl, ho3, hb3⟩
    have HUL := hide (fun k e => (ho3.lt k e).2); have HU0 := hide ho3; have HB3 := hide (HB2.out.trans (hb3.mono HB2.out.size)); clear ho3 hb3
    go_wp2_with fail
    refine (toIntSS_any _ m _ (by omega) (inMat_below HI.out HB3.out)).mono ?_
    rintro e w4 ⟨v4, rfl, ho4, hb4⟩
    have HO4 := hide ho4; have HU1 := hide (own_below HU0.out hb4); have HB4 := hide (HB3.out.trans (hb4.mono HB3.out.size)); have hs4 := hb4.size; clear ho4 hb4
    go_wp2_with fail
    refine (HM.out v4 _ (inMat_own HO4.out)).mono ?_
    rintro e w5 ⟨g0, rfl, ho5, hb5⟩
    have HG0 := hide ho5; have HO5 := hide (ownMat_below HO4.out hb5); have HU2 := hide (own_below HU1.out hb5); have HB5 := hide (HB4.out.trans (hb5.mono HB4.out.size))
    have hs5 := hb5.size; clear ho5 hb5
    go_wp2_with fail
    refine (eqIntS_same g0 u0 rows _ (inRow_own HG0.out) (inRow_own HU2.out)).mono ?_
    rintro e w6 ⟨rfl, hb6⟩
    have HG1 := hide (own_below HG0.out hb6); have HO6 := hide (ownMat_below HO5.out hb6); have HU3 := hide (own_below HU2.out hb6); have HB6 := hide (HB5.out.trans (hb6.mono HB5.out.size))
    have hs6 := hb6.size; clear hb6
    go_wp2_with fail
    refine (toIntSS_any _ m _ (by omega) (inMat_below HI.out HB6.out)).mono ?_
    rintro e w7 ⟨v7, rfl, ho7, hb7⟩
    have HV7 := hide ho7; have HG2 := hide (own_below HG1.out hb7); have HO7 := hide (ownMat_below HO6.out hb7); have HU4 := hide (own_below HU3.out hb7); have HB7 := hide (HB6.out.trans (hb7.mono HB6.out.size))
    have hs7 := hb7.size; clear ho7 hb7
    go_wp2_with fail
    refine (eqIntSS_same v4 v7 m _ (inMat_own HO7.out) (inMat_own HV7.out)).mono ?_
    rintro e w8 ⟨rfl, hb8⟩
    have HG3 := hide (own_below HG2.out hb8); have HO8 := hide (ownMat_below HO7.out hb8); have HU5 := hide (own_below HU4.out hb8); have HB8 := hide (HB7.out.trans (hb8.mono HB7.out.size))
    have hs8 := hb8.size; clear hb8
    go_wp2_with fail
    refine (markIntSS_any m 1 _ _ v4 _ (by omega) (by omega) HO8.out).mono ?_
    rintro e w9 ⟨rfl, -, hw9⟩
    have HG4 := hide (own_within HG3.out hw9 (fun k e => .inr (HG3.out.lt k e).1)); have HU6 := hide (own_within HU5.out hw9 (fun k e => .inl (HUL.out k e))); have HB9 := hide (HB8.out.trans (below_within hw9 HB3.out.size HB8.out.size))
    have hs9 := hw9.size; clear hw9
    go_wp2_with fail
    refine (eqIntS_same g0 u0 rows _ (inRow_own HG4.out) (inRow_own HU6.out)).mono ?_
    rintro e w10 ⟨rfl, hb10⟩
    have HG5 := hide (own_below HG4.out hb10); have HU7 := hide (own_below HU6.out hb10); have HB10 := hide (HB9.out.trans (hb10.mono HB9.out.size))
    have hs10 := hb10.size; clear hb10
    go_wp2_with fail
    refine (markIntS_any rows.length 1 g0 _ _ _ (by omega) (by omega) HG5.out).mono ?_
    rintro e w11 ⟨rfl, ho11, hg11⟩
    have HNE : Hid (u0.ownBlock = none ∨ u0.ownBlock ≠ g0.ownBlock) := hide (by
      cases e0 : u0.ownBlock with
      | none => exact .inl rfl
      | some k =>
        refine .inr fun e1 => ?_
        have q1 := HUL.out k e0
        have q2 := (HG5.out.lt k e1.symm).1
        omega)
    have HG6 := hide (inRow_own (r := markR rows.length 1) (by rw [markR_len]; exact ho11)); have HU8 := hide (HU7.out.kept hg11 HNE.out)
    have HB11 := hide (HB10.out.trans (grown_below hg11 (fun k hk => by have := (HG5.out.lt k hk).1; have := HB4.out.size; omega) HB10.out.size))
    clear ho11 hg11
    go_wp2_with fail
    refine (heldIntS_any rows.length 1 g0 _ (by omega) (by omega) HG6.out).mono ?_
    rintro e w12 ⟨rfl, hb12⟩
    have HG7 := hide (inRow_below HG6.out hb12); have HU9 := hide (own_below HU8.out hb12); have HB12 := hide (HB11.out.trans (hb12.mono HB11.out.size))
    clear hb12
    go_wp2_with fail
    refine (toIntSS_any _ m _ (by omega) (inMat_below HI.out HB12.out)).mono ?_
    rintro e w13 ⟨v13, rfl, ho13, hb13⟩
    have HV13 := hide ho13; have HG8 := hide (inRow_below HG7.out hb13); have HU10 := hide (own_below HU9.out hb13); have HB13 := hide (HB12.out.trans (hb13.mono HB12.out.size))
    clear ho13 hb13
    go_wp2_with fail
    refine (HM.out v13 _ (inMat_own HV13.out)).mono ?_
    rintro e w14 ⟨h0, rfl, ho14, hb14⟩
    have HH := hide ho14; have HG9 := hide (inRow_below HG8.out hb14); have HU11 := hide (own_below HU10.out hb14); have HB14 := hide (HB13.out.trans (hb14.mono HB13.out.size))
    clear ho14 hb14
    go_wp2_with fail
    refine (eqIntS_same h0 u0 rows _ (inRow_own HH.out) (inRow_own HU11.out)).mono ?_
    rintro e w15 ⟨rfl, hb15⟩
    have HG10 := hide (inRow_below HG9.out hb15); have HB15 := hide (HB14.out.trans (hb15.mono HB14.out.size))
    clear hb15
    go_wp2_with fail
    refine (heldIntS_any rows.length 1 g0 _ (by omega) (by omega) HG10.out).mono ?_
    rintro e w16 ⟨rfl, hb16⟩
    have HB16 := hide (HB15.out.trans (hb16.mono HB15.out.size))
    clear hb16
    go_wp2
    go_ret
    exact ⟨rfl, HB16.out⟩
theorem lawColSums_walk (a : Option Addr) (n c : Nat) (m : List (List Int)) (w : World) (hin : InMat w (.slice a n c) m) :
    Calls Try.prog 4 #[.slice a n c] w fun e w' => e = .returned (.bool true) ∧ Below w.heap.size w w' := by
  cases h : okB m with
  | false => exact lawColSums_gen a n c m w hin [] (by decide) (fun v w hv => specColSums_no v m w hv h) (fun v w hv => implColSums_no v m w hv h)
  | true =>
    obtain ⟨R, C, f, rfl, hI⟩ := ok_img h
    exact lawColSums_gen a n c _ w hin (rowsL C R (trM f)) (by rw [rowsL, rowF_len]; have := hI.r2; have := hI.c2; omega) (fun v w hv => specColSums_yes v R C f w hv hI) (fun v w hv => implColSums_yes v R C f w hv hI)
end Go.Proofs.Ytcliiefedmiokaa
/-
  Lists of integers held against one another: slices.Equal.
-/
namespace Go.Proofs.Ytcliiefedmiokaa
open Go.RowKit

theorem sameRow_no {r s : List Int} (h : r.length ≠ s.length) : (r == s) = false := by
  rw [beq_eq_false_iff_ne]; intro e; exact h (by rw [e])
theorem sameRow_no2 {r s : List Int} (k : Nat) (hr : k < r.length) (hs : k < s.length) (h : r[k] ≠ s[k]) : (r == s) = false := by
  rw [beq_eq_false_iff_ne]; intro e; subst e; exact h rfl
theorem sameRow_yes {r s : List Int} (h : r.length = s.length) (h2 : ∀ k, (hr : k < r.length) → (hs : k < s.length) → r[k] = s[k]) : (r == s) = true := by
  rw [beq_iff_eq]; exact List.ext_getElem h h2
theorem sameMat_no {r s : List (List Int)} (h : r.length ≠ s.length) : (r == s) = false := by
  rw [beq_eq_false_iff_ne]; intro e; exact h (by rw [e])
theorem sameMat_no2 {r s : List (List Int)} (k : Nat) (hr : k < r.length) (hs : k < s.length) (h : (r[k] == s[k]) = false) : (r == s) = false := by
  rw [beq_eq_false_iff_ne] at h ⊢; intro e; subst e; exact h rfl
theorem sameMat_yes {r s : List (List Int)} (h : r.length = s.length) (h2 : ∀ k, (hr : k < r.length) → (hs : k < s.length) → (r[k] == s[k]) = true) : (r == s) = true := by
  rw [beq_iff_eq]; exact List.ext_getElem h fun k h1 h2' => by simpa using h2 k h1 h2'

set_option maxHeartbeats 1000000 in
theorem l02Same_any (va vb : Value) (r s : List Int) (w : World) (ha : InRow w va r) (hb : InRow w vb s) :
    Calls Try.prog 64 #[va, vb] w fun e w' => e = .returned (.bool (r == s)) ∧ w = w' := by
  obtain ⟨a, ca, rfl, hma, hpa⟩ := ha
  obtain ⟨b, cb, rfl, hmb, hpb⟩ := hb
  unfold maxLen at hma hmb
  by_cases hlen : r.length = s.length
  · by_cases h0 : r.length = 0
    · have hr : r = [] := List.eq_nil_of_length_eq_zero h0
      have hs : s = [] := List.eq_nil_of_length_eq_zero (by omega)
      subst hr; subst hs
      clear hpa hpb hma hmb hlen h0
      go_enter Try.func64, Try.ntmps64
      go_wp2
      go_loop [14] (fun i => i = .int .i64 0) (fun _ => 0)
      case atStart => rfl
      case round =>
        obtain rfl := hrel
        go_wp2
        go_ret
        exact ⟨rfl, rfl⟩
    · obtain ⟨ga, oa, rfl, -, hca⟩ := hpa.resolve_left h0
      obtain ⟨gb, ob, rfl, -, hcb⟩ := hpb.resolve_left (by omega)
      have HA := hide hca; have HB := hide hcb; have HL := hide hlen
      obtain ⟨n, hn⟩ : ∃ n, n = r.length := ⟨_, rfl⟩
      have HN := hide hn
      have HM : Hid (s.length = n) := hide (by omega)
      rw [← hlen, ← hn]
      rw [← hn] at hma
      clear hpa hpb hca hcb h0 hmb hlen hn
      go_enter Try.func64, Try.ntmps64
      go_wp2
      go_loop [14] (fun i => ∃ k : Nat, k ≤ n ∧ i = .int .i64 k ∧ ∀ t, (h1 : t < r.length) → (h2 : t < s.length) → t < k → r[t] = s[t]) (fun i => n - (intOf i).toNat)
      case atStart => exact ⟨0, Nat.zero_le _, rfl, fun t _ _ h => absurd h (Nat.not_lt_zero _)⟩
      case round =>
        obtain ⟨k, hk, rfl, hall⟩ := hrel
        have HH := hide hall
        clear hall
        by_cases hlt : k < n
        · have hkr : k < r.length := by rw [← HN.out]; exact hlt
          have hks : k < s.length := by rw [HM.out]; exact hlt
          have hxa := HA.out k hkr
          have hxb := HB.out k hks
          have HNO := hide (fun h => sameRow_no2 k hkr hks h)
          have HST : Hid (r[k] = s[k] → ∀ t, (h1 : t < r.length) → (h2 : t < s.length) → t < k + 1 → r[t] = s[t]) := hide fun h t h1 h2 ht => by
            by_cases e : t = k
            · subst e; exact h
            · exact HH.out t h1 h2 (by omega)
          obtain ⟨x, hx⟩ : ∃ x, x = r[k] := ⟨_, rfl⟩
          obtain ⟨y, hy⟩ : ∃ y, y = s[k] := ⟨_, rfl⟩
          rw [← hx, ← hy] at HNO HST
          rw [← hx] at hxa
          rw [← hy] at hxb
          clear hx hy
          by_cases e : x = y
          · subst e
            have HST := hide (HST.out rfl)
            go_wp2
            go_round
            case rel => exact ⟨k + 1, by omega, by go_num, HST.out⟩
            case measure => simp [intOf]; omega
          · have HF := hide (HNO.out e)
            have hne : (x == y) = false := by simpa using e
            have hne2 : (x != y) = true := by simpa using e
            clear e
            go_wp2
            go_ret
            exact ⟨ret_bool HF.out.symm, rfl⟩
        · have HY := hide (sameRow_yes HL.out fun t h1 h2 => HH.out t h1 h2 (by have := HN.out; omega))
          go_wp2
          go_ret
          exact ⟨ret_bool HY.out.symm, rfl⟩
  · have HF := hide (sameRow_no hlen)
    obtain ⟨n, hn⟩ : ∃ n, n = r.length := ⟨_, rfl⟩
    obtain ⟨k, hk⟩ : ∃ k, k = s.length := ⟨_, rfl⟩
    rw [← hn, ← hk] at hlen ⊢
    rw [← hn] at hma
    rw [← hk] at hmb
    have hne : ((n : Int) == (k : Int)) = false := by simp; omega
    have hne2 : ((n : Int) != (k : Int)) = true := by simp; omega
    clear hpa hpb hn hk hlen
    go_enter Try.func64, Try.ntmps64
    go_wp2
    go_ret
    exact ⟨ret_bool HF.out.symm, rfl⟩

theorem equal_any (va vb : Value) (r s : List Int) (w : World) (ha : InRow w va r) (hb : InRow w vb s) :
    Calls Try.prog 101 #[va, vb] w fun e w' => e = .returned (.bool (r == s)) ∧ Below w.heap.size w w' := by
  obtain ⟨a, ca, rfl, hma, hpa⟩ := ha
  obtain ⟨b, cb, rfl, hmb, hpb⟩ := hb
  unfold maxLen at hma hmb
  by_cases hlen : r.length = s.length
  · by_cases h0 : r.length = 0
    · have hr : r = [] := List.eq_nil_of_length_eq_zero h0
      have hs : s = [] := List.eq_nil_of_length_eq_zero (by omega)
      subst hr; subst hs
      refine (Try.slices_Equal_int_empty a b ca 0 cb w (by omega)).mono ?_
      rintro e w' ⟨rfl, rfl⟩
      exact ⟨rfl, Below.refl _ _⟩
    · obtain ⟨ga, oa, rfl, -, hca⟩ := hpa.resolve_left h0
      obtain ⟨gb, ob, rfl, -, hcb⟩ := hpb.resolve_left (by omega)
      refine (Try.slices_Equal_int ga oa r.length ca gb ob s.length cb r s w (Nat.le_refl _) (Nat.le_refl _) hma hmb (fun j hj => ?_) (fun j hj => ?_)).mono ?_
      · rw [hca j hj, List.getD_eq_getElem?_getD, List.getElem?_eq_getElem hj]; rfl
      · rw [hcb j hj, List.getD_eq_getElem?_getD, List.getElem?_eq_getElem hj]; rfl
      rintro e w' ⟨rfl, q, rfl⟩
      refine ⟨ret_bool (by rw [List.take_length, List.take_length]), below_draws (Below.refl _ _) q⟩
  · refine (Try.slices_Equal_int_lens a b r.length ca s.length cb w hlen).mono ?_
    rintro e w' ⟨rfl, rfl⟩
    exact ⟨ret_bool (sameRow_no hlen).symm, Below.refl _ _⟩
end Go.Proofs.Ytcliiefedmiokaa
/-
  SameImage, of the model and of the program, and the exact law, walked.
-/
namespace Go.Proofs.Ytcliiefedmiokaa
open Go.RowKit

set_option maxHeartbeats 1000000 in
theorem specSameImage_any (va vb : Value) (m l : List (List Int)) (w : World) (ha : InMat w va m) (hb : InMat w vb l) :
    Calls Try.prog 121 #[va, vb] w fun e w' => e = .returned (.bool (m == l)) ∧ Below w.heap.size w w' := by
  obtain ⟨a, ca, rfl, hma, hpa⟩ := ha
  obtain ⟨b, cb, rfl, hmb, hpb⟩ := hb
  unfold maxLen at hma hmb
  by_cases hlen : m.length = l.length
  · by_cases h0 : m.length = 0
    · have hr : m = [] := List.eq_nil_of_length_eq_zero h0
      have hs : l = [] := List.eq_nil_of_length_eq_zero (by omega)
      subst hr; subst hs
      clear hpa hpb hma hmb hlen h0
      go_enter Try.func121, Try.ntmps121
      go_wp2
      go_loop [14] (fun i => i = .int .i64 0) (fun _ => 0)
      case atStart => rfl
      case round =>
        obtain rfl := hrel
        go_wp2
        go_ret
        exact ⟨rfl, Below.refl _ _⟩
    · obtain ⟨ga, oa, rfl, hga, hca⟩ := hpa.resolve_left h0
      obtain ⟨gb, ob, rfl, hgb, hcb⟩ := hpb.resolve_left (by omega)
      have HA := hide hca; have HB := hide hcb; have HL := hide hlen
      obtain ⟨n, hn⟩ : ∃ n, n = m.length := ⟨_, rfl⟩
      have HN := hide hn
      have HM : Hid (l.length = n) := hide (by omega)
      rw [← hlen, ← hn]
      rw [← hn] at hma
      clear hpa hpb hca hcb h0 hmb hlen hn
      go_enter Try.func121, Try.ntmps121
      go_wp2
      go_loopw [14] (fun i w' => ∃ k : Nat, k ≤ n ∧ i = .int .i64 k ∧ (∀ t, (h1 : t < m.length) → (h2 : t < l.length) → t < k → (m[t] == l[t]) = true) ∧ Below w.heap.size w w') (fun i _ => n - (intOf i).toNat)
      case atStart => exact ⟨0, Nat.zero_le _, rfl, fun t _ _ h => absurd h (Nat.not_lt_zero _), Below.refl _ _⟩
      case round =>
        obtain ⟨k, hk, rfl, hall, hbb⟩ := hrel
        have HH := hide hall; have HBB := hide hbb
        clear hall hbb
        by_cases hlt : k < n
        · have hkr : k < m.length := by rw [← HN.out]; exact hlt
          have hks : k < l.length := by rw [HM.out]; exact hlt
          obtain ⟨ua, hxa, hra⟩ := HA.out k hkr
          obtain ⟨ub, hxb, hrb⟩ := HB.out k hks
          have hxa := below_cell HBB.out hga hxa
          have hxb := below_cell HBB.out hgb hxb
          have HRA := hide (inRow_below hra HBB.out)
          have HRB := hide (inRow_below hrb HBB.out)
          have HNO := hide (fun h => sameMat_no2 k hkr hks h)
          have HST : Hid ((m[k] == l[k]) = true → ∀ t, (h1 : t < m.length) → (h2 : t < l.length) → t < k + 1 → (m[t] == l[t]) = true) := hide fun h t h1 h2 ht => by
            by_cases e : t = k
            · subst e; exact h
            · exact HH.out t h1 h2 (by omega)
          clear hra hrb
          cases e : (m[k] == l[k]) with
          | true =>
            have HE := hide e
            have HST := hide (HST.out e)
            clear e
            go_wp2_with (go_at_call 64; refine (l02Same_any _ _ _ _ _ HRA.out HRB.out).mono ?_; rw [HE.out]; rintro e w9 ⟨rfl, rfl⟩)
            go_roundw
            case rel => exact ⟨k + 1, by omega, by go_num, HST.out, HBB.out⟩
            case measure => simp [intOf]; omega
          | false =>
            have HE := hide e
            have HF := hide (HNO.out e)
            clear e
            go_wp2_with (go_at_call 64; refine (l02Same_any _ _ _ _ _ HRA.out HRB.out).mono ?_; rw [HE.out]; rintro e w9 ⟨rfl, rfl⟩)
            go_ret
            exact ⟨ret_bool HF.out.symm, HBB.out⟩
        · have HY := hide (sameMat_yes HL.out fun t h1 h2 => HH.out t h1 h2 (by have := HN.out; omega))
          go_wp2
          go_ret
          exact ⟨ret_bool HY.out.symm, HBB.out⟩
  · have HF := hide (sameMat_no hlen)
    obtain ⟨n, hn⟩ : ∃ n, n = m.length := ⟨_, rfl⟩
    obtain ⟨k, hk⟩ : ∃ k, k = l.length := ⟨_, rfl⟩
    rw [← hn, ← hk] at hlen ⊢
    rw [← hn] at hma
    rw [← hk] at hmb
    have hne : ((n : Int) == (k : Int)) = false := by simp; omega
    have hne2 : ((n : Int) != (k : Int)) = true := by simp; omega
    clear hpa hpb hn hk hlen
    go_enter Try.func121, Try.ntmps121
    go_wp2
    go_ret
    exact ⟨ret_bool HF.out.symm, Below.refl _ _⟩

end Go.Proofs.Ytcliiefedmiokaa
/-
  PutCell and DistanceOf of the program.
-/
namespace Go.Proofs.Ytcliiefedmiokaa
open Go.RowKit

/-- The whole variable is read, behind a guard that says yes. -/
theorem wpList_loadVecG {P : Program} {ops : Array Oper} {rest : List Oper} {o : Oper} {a : Act} {Q : Exit → Act → World → Prop} {W : World} {g n m : Nat} {T T' e : TypeId} {F : Nat → Int} (hb : Blk W g T n F) (d : Tmp) (_hd : o.dst = some d)
    (hw : Region.wanted o (yielded ops a.tmps) = true) (x : Operand) (ho : o.op = .load T' x) (hx : a.eval x = .pointer (some ⟨g, 0, none⟩)) (hu : P.underlying T' = some (.array m e)) (hi : (P.info? T').map (·.size) = some n)
    (h : wpList P ops Q rest (a.put o.dst (.agg (vec n F))) W) : wpList P ops Q (o :: rest) a W :=
  BigFrame.wpList_want hw fun K hK => wp_load_row T' x ho g hx T (vec n F) (0, 0) _ hb hu rfl (by rw [hi, vec_size]) (hK _ _ h)

/-- The image with another cell. -/
def putM (f : Nat → Nat → Int) (a b : Nat) (c : Int) (y x : Nat) : Int := if y = a ∧ x = b then c else f y x
theorem img_put {R C : Nat} {f : Nat → Nat → Int} (h : Img R C f) (a b : Nat) {c : Int} (hc : c = 0 ∨ c = 1) : Img R C (putM f a b c) := ⟨h.r1, h.r2, h.c1, h.c2, fun y x hy hx => by
  unfold putM; split
  · exact hc
  · exact h.cell y x hy hx⟩
theorem imgF_put (R C : Nat) (f : Nat → Nat → Int) (a b : Nat) (c : Int) (ha : a < R) (hb : b < C) (hC : C ≤ 5) : ∀ i, i < 25 → (if i = 5 * a + b then c else imgF R C f i) = imgF R C (putM f a b c) i := fun i hi => by
  simp only [imgF, putM]
  by_cases e : i = 5 * a + b
  · subst e
    rw [if_pos rfl, if_pos (by omega), if_pos (by omega)]
  · rw [if_neg e]
    by_cases h : i / 5 < R ∧ i % 5 < C
    · rw [if_pos h, if_pos h, if_neg (by omega)]
    · rw [if_neg h, if_neg h]

end Go.Proofs.Ytcliiefedmiokaa
/-
  DistanceOf of the program.
-/
namespace Go.Proofs.Ytcliiefedmiokaa
open Go.RowKit

theorem imageOf_any (v : Value) (m : List (List Int)) (w : World) (hin : InMat w v m) :
    Calls Try.prog 74 #[v] w fun e w' => (∃ F, e = .returned (.tuple #[.agg (vec 25 F), .bool (okB m)])) ∧ Below w.heap.size w w' := by
  cases h : okB m with
  | false =>
    refine (imageOf_no v m w hin h).mono ?_
    rintro e w' ⟨rfl, hb⟩
    exact ⟨⟨_, rfl⟩, hb⟩
  | true =>
    obtain ⟨R, C, f, rfl, hI⟩ := ok_img h
    refine (imageOf_yes v R C f w hin hI).mono ?_
    rintro e w' ⟨rfl, hb⟩
    exact ⟨⟨_, rfl⟩, hb⟩
theorem imgF_none {R C : Nat} {f : Nat → Nat → Int} (h : Img R C f) (i : Nat) : imgF R C f i = -1 ↔ ¬ (i / 5 < R ∧ i % 5 < C) := by
  unfold imgF
  by_cases hi : i / 5 < R ∧ i % 5 < C
  · rw [if_pos hi]
    constructor
    · intro e; rcases h.cell _ _ hi.1 hi.2 with e' | e' <;> rw [e'] at e <;> cases e
    · intro e; exact absurd hi e
  · rw [if_neg hi]; exact ⟨fun _ => hi, fun _ => rfl⟩
theorem same_sizes {R C R' C' : Nat} {f g : Nat → Nat → Int} (h : Img R C f) (h' : Img R' C' g) : decide (R = R' ∧ C = C') = true ↔ ∀ i, i < 25 → (imgF R C f i = -1 ↔ imgF R' C' g i = -1) := by
  have a1 := h.r1; have a2 := h.r2; have a3 := h.c1; have a4 := h.c2
  have b1 := h'.r1; have b2 := h'.r2; have b3 := h'.c1; have b4 := h'.c2
  rw [decide_eq_true_eq]
  constructor
  · rintro ⟨rfl, rfl⟩ i hi
    rw [imgF_none h, imgF_none h']
  · intro hall
    have hq : ∀ y x, y < 5 → x < 5 → ((y < R ∧ x < C) ↔ (y < R' ∧ x < C')) := fun y x hy hx => by
      have := hall (5 * y + x) (by omega)
      rw [imgF_none h, imgF_none h', show (5 * y + x) / 5 = y by omega, show (5 * y + x) % 5 = x by omega] at this
      exact ⟨fun h1 => Decidable.byContradiction fun n => (this.2 n) h1, fun h1 => Decidable.byContradiction fun n => (this.1 n) h1⟩
    constructor
    · by_cases l : R < R'
      · have := (hq R 0 (by omega) (by omega)).2 ⟨l, by omega⟩; omega
      · by_cases l2 : R' < R
        · have := (hq R' 0 (by omega) (by omega)).1 ⟨l2, by omega⟩; omega
        · omega
    · by_cases l : C < C'
      · have := (hq 0 C (by omega) (by omega)).2 ⟨by omega, l⟩; omega
      · by_cases l2 : C' < C
        · have := (hq 0 C' (by omega) (by omega)).1 ⟨by omega, l2⟩; omega
        · omega
theorem distance_img (R C R' C' : Nat) (f g : Nat → Nat → Int) (w : World) (h : Img R C f) (h' : Img R' C' g) (b : Bool) (hb : decide (R = R' ∧ C = C') = b) :
    Calls Try.prog 77 #[.agg (vec 25 (imgF R C f)), .agg (vec 25 (imgF R' C' g))] w (DistRes b (cnt (fun i => imgF R C f i != imgF R' C' g i) 25) w) := by
  subst hb; exact distance_any _ _ _ _ (same_sizes h h')

set_option maxHeartbeats 1000000 in
theorem implDistanceOf_no (v u : Value) (m k : List (List Int)) (w : World) (hin : InMat w v m) (hin2 : InMat w u k) (h : (okB m && okB k) = false) :
    Calls Try.prog 30 #[v, u] w fun e w' => e = .returned (.int .i64 (-1)) ∧ Below w.heap.size w w' := by
  have HI := hide hin; have HI2 := hide hin2
  clear hin hin2
  obtain ⟨p, hp⟩ : ∃ p, p = okB m := ⟨_, rfl⟩
  obtain ⟨q, hq⟩ : ∃ q, q = okB k := ⟨_, rfl⟩
  rw [← hp, ← hq] at h
  have HP := hide hp.symm; have HQ := hide hq.symm
  clear hp hq
  go_enter Try.func30, Try.ntmps30
  go_wp2_with fail
  refine (imageOf_any v m _ HI.out).mono ?_
  rw [HP.out]
  rintro e w1 ⟨⟨F, rfl⟩, b1⟩
  have B1 := hide b1
  clear b1
  go_wp2_with (first | (with_reducible refine wpList_allocVec 25 5 rfl rfl rfl Try.zeroImg ?_; intro waa haa baa saa) | (with_reducible refine wpList_storeVec haa rfl (.tmp 5) (.tmp 14) rfl rfl rfl Try.sizeImg ?_; intro wba hba gba sba) | (with_reducible refine wpList_loadVec hba 99 rfl rfl _ rfl rfl Try.underlying78 Try.sizeImg ?_))
  have B2 := hide (B1.out.trans ((baa.mono B1.out.size).trans (grown_below gba (fun k hk => by cases hk; exact B1.out.size) (by have := B1.out.size; omega))))
  clear haa baa saa hba gba sba
  refine (imageOf_any u k _ (inMat_below HI2.out B2.out)).mono ?_
  rw [HQ.out]
  rintro e w3 ⟨⟨G, rfl⟩, b3⟩
  have B3 := hide (B2.out.trans (b3.mono B2.out.size))
  clear b3
  cases p with
  | false =>
    go_wp2_with (first | (with_reducible refine wpList_allocVec 25 7 rfl rfl rfl Try.zeroImg ?_; intro wab hab bab sab) | (with_reducible refine wpList_storeVec hab rfl (.tmp 7) (.tmp 19) rfl rfl rfl Try.sizeImg ?_; intro wbb hbb gbb sbb) | (with_reducible refine wpList_loadVec hbb 29 rfl rfl _ rfl rfl Try.underlying78 Try.sizeImg ?_))
    go_ret
    exact ⟨rfl, B3.out.trans ((bab.mono B3.out.size).trans (grown_below gbb (fun k hk => by cases hk; exact B3.out.size) (by have := B3.out.size; omega)))⟩
  | true =>
    obtain rfl : q = false := by simpa using h
    go_wp2_with (first | (with_reducible refine wpList_allocVec 25 7 rfl rfl rfl Try.zeroImg ?_; intro wab hab bab sab) | (with_reducible refine wpList_storeVec hab rfl (.tmp 7) (.tmp 19) rfl rfl rfl Try.sizeImg ?_; intro wbb hbb gbb sbb) | (with_reducible refine wpList_loadVec hbb 29 rfl rfl _ rfl rfl Try.underlying78 Try.sizeImg ?_))
    go_ret
    exact ⟨rfl, B3.out.trans ((bab.mono B3.out.size).trans (grown_below gbb (fun k hk => by cases hk; exact B3.out.size) (by have := B3.out.size; omega)))⟩

set_option maxHeartbeats 1000000 in
theorem implDistanceOf_yes (v u : Value) (R C R' C' : Nat) (f g : Nat → Nat → Int) (w : World) (hin : InMat w v (mkM R C f)) (hin2 : InMat w u (mkM R' C' g)) (h : Img R C f) (h' : Img R' C' g) :
    Calls Try.prog 30 #[v, u] w fun e w' => e = .returned (.int .i64 (if R = R' ∧ C = C' then (cnt (fun i => imgF R C f i != imgF R' C' g i) 25 : Nat) else -1)) ∧ Below w.heap.size w w' := by
  have HI := hide hin; have HI2 := hide hin2; have H := hide h; have H' := hide h'
  clear hin hin2 h h'
  obtain ⟨b, hb⟩ : ∃ b : Bool, decide (R = R' ∧ C = C') = b := ⟨_, rfl⟩
  have HB := hide hb
  have HE : Hid ((if R = R' ∧ C = C' then ((cnt (fun i => imgF R C f i != imgF R' C' g i) 25 : Nat) : Int) else -1) = if b then ((cnt (fun i => imgF R C f i != imgF R' C' g i) 25 : Nat) : Int) else -1) := hide (by
    subst hb
    by_cases e : R = R' ∧ C = C'
    · rw [if_pos e, decide_eq_true e]; rfl
    · rw [if_neg e, decide_eq_false e]; rfl)
  rw [HE.out]
  clear hb HE
  obtain ⟨n, hn⟩ : ∃ n, n = cnt (fun i => imgF R C f i != imgF R' C' g i) 25 := ⟨_, rfl⟩
  have HN := hide hn.symm
  rw [← hn]
  clear hn
  go_enter Try.func30, Try.ntmps30
  go_wp2_with fail
  refine (imageOf_yes v R C f _ HI.out H.out).mono ?_
  rintro e w1 ⟨rfl, b1⟩
  have B1 := hide b1
  clear b1
  go_wp2_with (first | (with_reducible refine wpList_allocVec 25 5 rfl rfl rfl Try.zeroImg ?_; intro waa haa baa saa) | (with_reducible refine wpList_storeVec haa rfl (.tmp 5) (.tmp 14) rfl rfl rfl Try.sizeImg ?_; intro wba hba gba sba) | (with_reducible refine wpList_loadVec hba 99 rfl rfl _ rfl rfl Try.underlying78 Try.sizeImg ?_))
  have B2 := hide (B1.out.trans ((baa.mono B1.out.size).trans (grown_below gba (fun k hk => by cases hk; exact B1.out.size) (by have := B1.out.size; omega))))
  have HA := hide hba
  clear haa baa saa hba gba sba
  refine (imageOf_yes u R' C' g _ (inMat_below HI2.out B2.out) H'.out).mono ?_
  rintro e w3 ⟨rfl, b3⟩
  have B3 := hide (B2.out.trans (b3.mono B2.out.size))
  have HA := hide (blk_below HA.out b3)
  clear b3
  go_wp2_with (first | (with_reducible refine wpList_allocVec 25 7 rfl rfl rfl Try.zeroImg ?_; intro wab hab bab sab) | (with_reducible refine wpList_storeVec hab rfl (.tmp 7) (.tmp 19) rfl rfl rfl Try.sizeImg ?_; intro wbb hbb gbb sbb) | (with_reducible refine wpList_loadVec hbb 29 rfl rfl _ rfl rfl Try.underlying78 Try.sizeImg ?_) | (with_reducible refine wpList_loadVec (blk_grown (blk_below HA.out bab) gbb (by have := blk_lt HA.out; simp; omega)) 28 rfl rfl _ rfl rfl Try.underlying78 Try.sizeImg ?_))
  have B4 := hide (B3.out.trans ((bab.mono B3.out.size).trans (grown_below gbb (fun k hk => by cases hk; exact B3.out.size) (by have := B3.out.size; omega))))
  clear hab bab sab hbb gbb sbb HA
  refine (distance_img R C R' C' f g _ H.out H'.out b HB.out).mono ?_
  rw [HN.out]
  rintro e w5 ⟨rfl, b5⟩
  have B5 := hide (B4.out.trans (b5.mono B4.out.size))
  clear b5
  cases b with
  | false =>
    go_wp2
    go_ret
    exact ⟨rfl, B5.out⟩
  | true =>
    go_wp2
    go_ret
    exact ⟨rfl, B5.out⟩
end Go.Proofs.Ytcliiefedmiokaa
/-
  DistanceOf of the model.
-/
namespace Go.Proofs.Ytcliiefedmiokaa
open Go.RowKit

theorem ok_quiet (v : Value) (m : List (List Int)) (w : World) (n : Nat) (b : Bool) (hin : InMat w v m) (hb : okB m = b) :
    Calls Try.prog 52 #[v] (w.drewN n) fun e w'' => e = .returned (.bool b) ∧ ∃ k, w'' = w.drewN k := by
  refine Calls.quiet_of_same ((specImageOk_any v m (w.drewN n) hin).mono ?_)
  rintro e w' ⟨rfl, rfl⟩
  exact ⟨by rw [hb], rfl⟩

set_option maxHeartbeats 1000000 in
theorem specDistanceOf_no (v u : Value) (m l : List (List Int)) (w : World) (hin : InMat w v m) (hin2 : InMat w u l) (h : (okB m && okB l) = false) :
    Calls Try.prog 63 #[v, u] w fun e w' => e = .returned (.int .i64 (-1)) ∧ Below w.heap.size w w' := by
  have HI := hide hin; have HJ := hide hin2
  clear hin hin2
  cases h1 : okB m with
  | false =>
    have H1 := hide h1
    clear h h1
    go_enter Try.func63, Try.ntmps63
    go_wp2
    go_quiet ((go_at_call 52; exact ok_quiet _ m _ _ false HI.out H1.out))
    go_wp2
    go_ret
    exact ⟨rfl, below_draws (Below.refl _ _) _⟩
  | true =>
    have h2 : okB l = false := by rw [h1] at h; simpa using h
    have H1 := hide h1; have H2 := hide h2
    clear h h1 h2
    go_enter Try.func63, Try.ntmps63
    go_wp2
    go_quiet ((go_at_call 52; (first | with_reducible exact ok_quiet v m _ _ true HI.out H1.out | with_reducible exact ok_quiet u l _ _ false HJ.out H2.out)))
    go_wp2
    go_ret
    exact ⟨rfl, below_draws (Below.refl _ _) _⟩

set_option maxHeartbeats 1000000 in
theorem specDistanceOf_rows (v u : Value) (R C R' C' : Nat) (f g : Nat → Nat → Int) (w : World) (hin : InMat w v (mkM R C f)) (hin2 : InMat w u (mkM R' C' g)) (hI : Img R C f) (hI' : Img R' C' g) (hne : R ≠ R') :
    Calls Try.prog 63 #[v, u] w fun e w' => e = .returned (.int .i64 (-1)) ∧ Below w.heap.size w w' := by
  have HI := hide hin; have HJ := hide hin2; have H1 := hide (img_ok hI); have H2 := hide (img_ok hI')
  have hR1 := hI.r1; have hC1 := hI.c1; have hR := hI.r2; have hC := hI.c2
  have hR1' := hI'.r1; have hC1' := hI'.c1; have hR' := hI'.r2; have hC' := hI'.c2
  obtain ⟨ga, oa, ca, rfl, hga, -⟩ := inMat_img hin (by omega) (by omega)
  obtain ⟨gb, ob, cb, rfl, hgb, -⟩ := inMat_img hin2 (by omega) (by omega)
  have q1 : ((R : Int) == (R' : Int)) = false := by simp; omega
  have q2 : ((R : Int) != (R' : Int)) = true := by simp; omega
  clear hin hin2 hI hI' hne
  go_enter Try.func63, Try.ntmps63
  go_wp2
  go_quiet ((go_at_call 52; (first | with_reducible exact ok_quiet (.slice (some ⟨ga, oa, none⟩) R ca) _ _ _ true HI.out H1.out | with_reducible exact ok_quiet (.slice (some ⟨gb, ob, none⟩) R' cb) _ _ _ true HJ.out H2.out)))
  go_wp2
  go_ret
  exact ⟨rfl, below_draws (Below.refl _ _) _⟩
set_option maxHeartbeats 1000000 in
theorem specDistanceOf_cols (v u : Value) (R C C' : Nat) (f g : Nat → Nat → Int) (w : World) (hin : InMat w v (mkM R C f)) (hin2 : InMat w u (mkM R C' g)) (hI : Img R C f) (hI' : Img R C' g) (hne : C ≠ C') :
    Calls Try.prog 63 #[v, u] w fun e w' => e = .returned (.int .i64 (-1)) ∧ Below w.heap.size w w' := by
  have HI := hide hin; have HJ := hide hin2; have H1 := hide (img_ok hI); have H2 := hide (img_ok hI')
  have hR1 := hI.r1; have hC1 := hI.c1; have hR := hI.r2; have hC := hI.c2
  have hC1' := hI'.c1; have hC' := hI'.c2
  obtain ⟨ga, oa, ca, rfl, hga, hca⟩ := inMat_img hin (by omega) (by omega)
  obtain ⟨gb, ob, cb, rfl, hgb, hcb⟩ := inMat_img hin2 (by omega) (by omega)
  obtain ⟨g0, o0, c0, hx0, -⟩ := hca 0 (by omega)
  obtain ⟨g1, o1, c1, hx1, -⟩ := hcb 0 (by omega)
  rw [Nat.add_zero] at hx0 hx1
  have q1 : ((C : Int) == (C' : Int)) = false := by simp; omega
  have q2 : ((C : Int) != (C' : Int)) = true := by simp; omega
  clear hin hin2 hI hI' hne hca hcb
  go_enter Try.func63, Try.ntmps63
  go_wp2
  go_quiet ((go_at_call 52; (first | with_reducible exact ok_quiet (.slice (some ⟨ga, oa, none⟩) R ca) _ _ _ true HI.out H1.out | with_reducible exact ok_quiet (.slice (some ⟨gb, ob, none⟩) R cb) _ _ _ true HJ.out H2.out)))
  go_wp2
  go_ret
  exact ⟨rfl, below_draws (Below.refl _ _) _⟩
set_option maxRecDepth 100000 in
set_option maxHeartbeats 1000000 in
theorem specDistanceOf_same (v u : Value) (R C : Nat) (f g : Nat → Nat → Int) (w : World) (hin : InMat w v (mkM R C f)) (hin2 : InMat w u (mkM R C g)) (hI : Img R C f) (hI' : Img R C g) :
    Calls Try.prog 63 #[v, u] w fun e w' => e = .returned (.int .i64 (cnt (fun i => imgF R C f i != imgF R C g i) 25 : Nat)) ∧ Below w.heap.size w w' := by
  have HI := hide hin; have HJ := hide hin2; have H1 := hide (img_ok hI); have H2 := hide (img_ok hI')
  have hR1 := hI.r1; have hC1 := hI.c1; have hR := hI.r2; have hC := hI.c2
  obtain ⟨ga, oa, ca, rfl, hga, hca⟩ := inMat_img hin (by omega) (by omega)
  obtain ⟨gb, ob, cb, rfl, hgb, hcb⟩ := inMat_img hin2 (by omega) (by omega)
  obtain ⟨g0, o0, c0, hx0, -⟩ := hca 0 (by omega)
  obtain ⟨g1, o1, c1, hx1, -⟩ := hcb 0 (by omega)
  rw [Nat.add_zero] at hx0 hx1
  have HA := hide hca; have HB := hide hcb
  obtain ⟨p, hp⟩ : ∃ p : Nat → Bool, p = fun i => imgF R C f i != imgF R C g i := ⟨_, rfl⟩
  have HP : Hid (∀ i, p i = (imgF R C f i != imgF R C g i)) := hide fun i => by rw [hp]
  have HN : Hid (∀ i, imgF R C f i = -1 → p i = false) := hide fun i e => by
    have e2 : imgF R C g i = -1 := (imgF_none hI' i).2 ((imgF_none hI i).1 e)
    rw [HP.out, e, e2]; rfl
  rw [← hp]
  clear hin hin2 hI hI' hca hcb hp
  go_enter Try.func63, Try.ntmps63
  go_wp2
  go_quiet ((go_at_call 52; (first | with_reducible exact ok_quiet (.slice (some ⟨ga, oa, none⟩) R ca) _ _ _ true HI.out H1.out | with_reducible exact ok_quiet (.slice (some ⟨gb, ob, none⟩) R cb) _ _ _ true HJ.out H2.out)))
  clear hx0 hx1
  go_wp2
  go_loopw [5, 38] (fun n i w' => ∃ y : Nat, y ≤ R ∧ i = .int .i64 y ∧ n = .int .i64 (cnt p (5 * y)) ∧ Below w.heap.size w w') (fun _ i _ => R - (intOf i).toNat)
  case atStart => exact ⟨0, by omega, rfl, rfl, below_draws (Below.refl _ _) _⟩
  case round =>
    obtain ⟨y, hy, rfl, rfl, hb⟩ := hrel
    have HBB := hide hb
    clear hb
    by_cases hlt : y < R
    · have hyI : (y : Int) < R := by omega
      obtain ⟨g', o', c', hx, hg', hcc⟩ := HA.out y hlt
      have hx := below_cell HBB.out hga hx
      have HCC := hide hcc
      clear hcc
      obtain ⟨wo, rfl⟩ : ∃ wo : World, wo = wr := ⟨_, rfl⟩
      go_wp2
      go_loopw [5, 45] (fun n i w' => ∃ x : Nat, x ≤ C ∧ i = .int .i64 x ∧ n = .int .i64 (cnt p (5 * y + x)) ∧ Below w.heap.size w w') (fun _ i _ => C - (intOf i).toNat)
      case atStart => exact ⟨0, by omega, rfl, rfl, HBB.out⟩
      case round =>
        clear HBB hx
        obtain ⟨x, hxx, rfl, rfl, hb⟩ := hrel
        have HBB := hide hb
        clear hb
        have hle := cnt_le p (5 * y + x)
        by_cases hlx : x < C
        · have hxI : (x : Int) < C := by omega
          have hz := below_cell HBB.out hg' (HCC.out x hlx)
          obtain ⟨g2, o2, c2, hx2, hg2, hc2⟩ := HB.out y hlt
          have hx2 := below_cell HBB.out hgb hx2
          have hz2 := below_cell HBB.out hg2 (hc2 x hlx)
          have HV : Hid (p (5 * y + x) = (f y x != g y x)) := hide (by rw [HP.out, imgF_at _ _ _ _ _ (by omega), imgF_at _ _ _ _ _ (by omega), if_pos ⟨hlt, hlx⟩, if_pos ⟨hlt, hlx⟩])
          clear hc2
          obtain ⟨s, hs⟩ : ∃ s, s = f y x := ⟨_, rfl⟩
          obtain ⟨t, ht⟩ : ∃ t, t = g y x := ⟨_, rfl⟩
          rw [← hs, ← ht] at HV
          rw [← hs] at hz
          rw [← ht] at hz2
          clear hs ht
          by_cases e : s = t
          · subst e
            have HS := hide (cnt_no (p := p) (k := 5 * y + x) (by rw [HV.out]; simp))
            go_wp2
            go_roundw
            case rel => exact ⟨x + 1, by omega, by go_num, by rw [← Nat.add_assoc, HS.out], HBB.out⟩
            case measure => simp [intOf]; omega
          · have hne2 : (s != t) = true := by simpa using e
            have hne1 : (s == t) = false := by simpa using e
            have HS := hide (cnt_yes (p := p) (k := 5 * y + x) (by rw [HV.out]; exact hne2))
            clear e
            go_wp2
            go_roundw
            case rel => exact ⟨x + 1, by omega, by go_num, by rw [← Nat.add_assoc, HS.out]; go_num, HBB.out⟩
            case measure => simp [intOf]; omega
        · obtain rfl : x = C := by omega
          have HS := hide (cnt_row p HN.out y hC)
          go_wp2
          go_roundw
          case rel => exact ⟨y + 1, by omega, by go_num, by rw [HS.out], HBB.out⟩
          case measure => simp [intOf]; omega
    · obtain rfl : y = R := by omega
      have HS := hide (cnt_end p HN.out hR)
      go_wp2
      go_ret
      exact ⟨ret_int (by rw [HS.out]), HBB.out⟩
theorem specDistanceOf_yes (v u : Value) (R C R' C' : Nat) (f g : Nat → Nat → Int) (w : World) (hin : InMat w v (mkM R C f)) (hin2 : InMat w u (mkM R' C' g)) (h : Img R C f) (h' : Img R' C' g) :
    Calls Try.prog 63 #[v, u] w fun e w' => e = .returned (.int .i64 (if R = R' ∧ C = C' then (cnt (fun i => imgF R C f i != imgF R' C' g i) 25 : Nat) else -1)) ∧ Below w.heap.size w w' := by
  by_cases hR : R = R'
  · subst hR
    by_cases hC : C = C'
    · subst hC
      rw [if_pos ⟨rfl, rfl⟩]
      exact specDistanceOf_same v u R C f g w hin hin2 h h'
    · rw [if_neg fun e => hC e.2]
      exact specDistanceOf_cols v u R C C' f g w hin hin2 h h' hC
  · rw [if_neg fun e => hR e.1]
    exact specDistanceOf_rows v u R C R' C' f g w hin hin2 h h' hR
end Go.Proofs.Ytcliiefedmiokaa
/-
  SameSums of both.
-/
namespace Go.Proofs.Ytcliiefedmiokaa
open Go.RowKit Go.Maps

/-- The rows' and the columns' directions. -/
def rc : List (Int × Int) := [(1, 0), (0, 1)]
theorem lines_row (R C : Nat) (f : Nat → Nat → Int) (n : Int) : linesC C f (R * C) ⟨1, 0, n⟩ rc = if 0 ≤ n ∧ n < R then ((rs C f n.toNat : Nat) : Int) else 0 := by
  have h : lineC C f (1, 0) (R * C) ⟨1, 0, n⟩ = (cnt (onL C f (1, 0) n) (C * R) : Nat) := by rw [Nat.mul_comm R C]; exact if_pos ⟨rfl, rfl⟩
  have h2 : lineC C f (0, 1) (R * C) ⟨1, 0, n⟩ = 0 := if_neg (fun h => by cases h.1)
  rw [rc, linesC, linesC, linesC, h, h2, cnt_rows]
  split <;> simp
theorem lines_col (R C : Nat) (f : Nat → Nat → Int) (n : Int) : linesC C f (R * C) ⟨0, 1, n⟩ rc = if 0 ≤ n ∧ n < C then ((cs R f (C - 1 - n.toNat) : Nat) : Int) else 0 := by
  have h : lineC C f (0, 1) (R * C) ⟨0, 1, n⟩ = (cnt (onL C f (0, 1) n) (C * R) : Nat) := by rw [Nat.mul_comm R C]; exact if_pos ⟨rfl, rfl⟩
  have h2 : lineC C f (1, 0) (R * C) ⟨0, 1, n⟩ = 0 := if_neg (fun h => by cases h.1)
  rw [rc, linesC, linesC, linesC, h, h2, cnt_cols]
  split <;> simp
theorem lines_none (C : Nat) (f : Nat → Nat → Int) (N : Nat) (k : Key) (h1 : ¬ (k.x = 1 ∧ k.y = 0)) (h2 : ¬ (k.x = 0 ∧ k.y = 1)) : linesC C f N k rc = 0 := by
  simp only [rc, linesC, lineC]
  rw [if_neg h1, if_neg h2]; rfl
theorem rowsL_eq {R C : Nat} {f g : Nat → Nat → Int} : (rowsL R C f == rowsL R C g) = true ↔ ∀ y, y < R → rs C f y = rs C g y := by
  rw [beq_iff_eq]
  constructor
  · intro h y hy
    have h1 := congrArg (fun l => l[y]?) h
    simp only [rowsL, rowF, List.getElem?_map, List.getElem?_range hy, Option.map_some, Option.some.injEq] at h1
    omega
  · intro h
    exact rowF_congr fun y hy => by rw [h y hy]
def sameL (R C : Nat) (f g : Nat → Nat → Int) : Bool := (rowsL R C f == rowsL R C g) && (rowsL C R (trM f) == rowsL C R (trM g))
theorem same_lines {R C : Nat} {f g : Nat → Nat → Int} (hR : R ≤ 5) (hC : C ≤ 5) : (∀ k : Key, k.wf → thereK (fun k => linesC C f (R * C) k rc - linesC C g (R * C) k rc) k = false) ↔ sameL R C f g = true := by
  have hcs : ∀ (f : Nat → Nat → Int) x, rs R (trM f) x = cs R f x := fun _ _ => rfl
  unfold sameL
  rw [Bool.and_eq_true, rowsL_eq, rowsL_eq]
  constructor
  · intro h
    have h0 : ∀ k : Key, k.wf → linesC C f (R * C) k rc = linesC C g (R * C) k rc := fun k hk => by
      have := h k hk
      simp only [thereK, decide_eq_false_iff_not, ne_eq, Decidable.not_not] at this
      omega
    refine ⟨fun y hy => ?_, fun x hx => ?_⟩
    · have := h0 ⟨1, 0, y⟩ (key_wf (by decide) (by decide) (WalkArith.wf_i64 (by omega)))
      rw [lines_row, lines_row, if_pos (by omega), if_pos (by omega)] at this
      have e : ((y : Int)).toNat = y := by omega
      rw [e] at this; omega
    · rw [hcs, hcs]
      have := h0 ⟨0, 1, (C - 1 - x : Nat)⟩ (key_wf (by decide) (by decide) (WalkArith.wf_i64 (by omega)))
      rw [lines_col, lines_col, if_pos (by omega), if_pos (by omega)] at this
      have e : C - 1 - (((C - 1 - x : Nat) : Int)).toNat = x := by omega
      rw [e] at this; omega
  · rintro ⟨h1, h2⟩ k -
    simp only [thereK, decide_eq_false_iff_not, ne_eq, Decidable.not_not]
    obtain ⟨kx, ky, n⟩ := k
    by_cases e1 : kx = 1 ∧ ky = 0
    · obtain ⟨rfl, rfl⟩ := e1
      rw [lines_row, lines_row]
      split
      · rename_i hn; rw [h1 n.toNat (by omega)]; omega
      · rfl
    · by_cases e2 : kx = 0 ∧ ky = 1
      · obtain ⟨rfl, rfl⟩ := e2
        rw [lines_col, lines_col]
        split
        · rename_i hn
          have := h2 (C - 1 - n.toNat) (by omega)
          rw [hcs, hcs] at this
          rw [this]; omega
        · rfl
      · rw [lines_none C f (R * C) _ e1 e2, lines_none C g (R * C) _ e1 e2]; rfl

theorem iok_quiet (v : Value) (m : List (List Int)) (w : World) (n : Nat) (b : Bool) (hin : InMat w v m) (hb : okB m = b) :
    Calls Try.prog 60 #[v] (w.drewN n) fun e w'' => e = .returned (.bool b) ∧ ∃ k, w'' = w.drewN k := by
  refine Calls.quiet_of_same ((implImageOk_any v m (w.drewN n) hin).mono ?_)
  rintro e w' ⟨rfl, rfl⟩
  exact ⟨by rw [hb], rfl⟩
set_option maxRecDepth 100000 in
set_option maxHeartbeats 1000000 in
theorem implSameSums_no (v u : Value) (m l : List (List Int)) (w : World) (hin : InMat w v m) (hin2 : InMat w u l) (h : (okB m && okB l) = false) :
    Calls Try.prog 27 #[v, u] w fun e w' => e = .returned (.bool false) ∧ Below w.heap.size w w' := by
  have HI := hide hin; have HJ := hide hin2
  clear hin hin2
  cases h1 : okB m with
  | false =>
    have H1 := hide h1
    clear h h1
    go_enter Try.func27, Try.ntmps27
    go_wp2
    go_quiet ((go_at_call 60; exact iok_quiet _ m _ _ false HI.out H1.out))
    go_wp2
    go_ret
    exact ⟨rfl, below_draws (Below.refl _ _) _⟩
  | true =>
    have h2 : okB l = false := by rw [h1] at h; simpa using h
    have H1 := hide h1; have H2 := hide h2
    clear h h1 h2
    go_enter Try.func27, Try.ntmps27
    go_wp2
    go_quiet ((go_at_call 60; (first | with_reducible exact iok_quiet v m _ _ true HI.out H1.out | with_reducible exact iok_quiet u l _ _ false HJ.out H2.out)))
    go_wp2
    go_ret
    exact ⟨rfl, below_draws (Below.refl _ _) _⟩
set_option maxRecDepth 100000 in
set_option maxHeartbeats 1000000 in
theorem implSameSums_rows (v u : Value) (R C R' C' : Nat) (f g : Nat → Nat → Int) (w : World) (hin : InMat w v (mkM R C f)) (hin2 : InMat w u (mkM R' C' g)) (hI : Img R C f) (hI' : Img R' C' g) (hne : R ≠ R') :
    Calls Try.prog 27 #[v, u] w fun e w' => e = .returned (.bool false) ∧ Below w.heap.size w w' := by
  have HI := hide hin; have HJ := hide hin2; have H1 := hide (img_ok hI); have H2 := hide (img_ok hI')
  have hR1 := hI.r1; have hC1 := hI.c1; have hR := hI.r2; have hC := hI.c2
  have hR1' := hI'.r1; have hC1' := hI'.c1; have hR' := hI'.r2; have hC' := hI'.c2
  obtain ⟨ga, oa, ca, rfl, hga, -⟩ := inMat_img hin (by omega) (by omega)
  obtain ⟨gb, ob, cb, rfl, hgb, -⟩ := inMat_img hin2 (by omega) (by omega)
  have q1 : ((R : Int) == (R' : Int)) = false := by simp; omega
  have q2 : ((R : Int) != (R' : Int)) = true := by simp; omega
  clear hin hin2 hI hI' hne
  go_enter Try.func27, Try.ntmps27
  go_wp2
  go_quiet ((go_at_call 60; (first | with_reducible exact iok_quiet (.slice (some ⟨ga, oa, none⟩) R ca) _ _ _ true HI.out H1.out | with_reducible exact iok_quiet (.slice (some ⟨gb, ob, none⟩) R' cb) _ _ _ true HJ.out H2.out)))
  go_wp2
  go_ret
  exact ⟨rfl, below_draws (Below.refl _ _) _⟩
set_option maxRecDepth 100000 in
set_option maxHeartbeats 1000000 in
theorem implSameSums_cols (v u : Value) (R C C' : Nat) (f g : Nat → Nat → Int) (w : World) (hin : InMat w v (mkM R C f)) (hin2 : InMat w u (mkM R C' g)) (hI : Img R C f) (hI' : Img R C' g) (hne : C ≠ C') :
    Calls Try.prog 27 #[v, u] w fun e w' => e = .returned (.bool false) ∧ Below w.heap.size w w' := by
  have HI := hide hin; have HJ := hide hin2; have H1 := hide (img_ok hI); have H2 := hide (img_ok hI')
  have hR1 := hI.r1; have hC1 := hI.c1; have hR := hI.r2; have hC := hI.c2
  have hR1' := hI'.r1; have hC1' := hI'.c1; have hR' := hI'.r2; have hC' := hI'.c2
  obtain ⟨ga, oa, ca, rfl, hga, ha⟩ := inMat_img hin (by omega) (by omega)
  obtain ⟨gb, ob, cb, rfl, hgb, hb⟩ := inMat_img hin2 (by omega) (by omega)
  obtain ⟨ga', oa', ca', hxa, -, -⟩ := ha 0 (by omega)
  obtain ⟨gb', ob', cb', hxb, -, -⟩ := hb 0 (by omega)
  rw [Nat.add_zero] at hxa hxb
  have q1 : ((C : Int) == (C' : Int)) = false := by simp; omega
  have q2 : ((C : Int) != (C' : Int)) = true := by simp; omega
  have q3 : ((R : Int) != (R : Int)) = false := by simp
  have hR0 : 0 < R := by omega
  clear hin hin2 hI hI' hne ha hb
  go_enter Try.func27, Try.ntmps27
  go_wp2
  go_quiet ((go_at_call 60; (first | with_reducible exact iok_quiet (.slice (some ⟨ga, oa, none⟩) R ca) _ _ _ true HI.out H1.out | with_reducible exact iok_quiet (.slice (some ⟨gb, ob, none⟩) R cb) _ _ _ true HJ.out H2.out)))
  go_wp2
  go_ret
  exact ⟨rfl, below_draws (Below.refl _ _) _⟩
set_option maxRecDepth 100000 in
set_option maxHeartbeats 2000000 in
theorem implSameSums_same (v u : Value) (R C : Nat) (f g : Nat → Nat → Int) (w : World) (hin : InMat w v (mkM R C f)) (hin2 : InMat w u (mkM R C g)) (hI : Img R C f) (hI' : Img R C g) :
    Calls Try.prog 27 #[v, u] w fun e w' => e = .returned (.bool (sameL R C f g)) ∧ Below w.heap.size w w' := by
  have HI := hide hin; have HJ := hide hin2; have H1 := hide (img_ok hI); have H2 := hide (img_ok hI')
  have HA := hide hI; have HB := hide hI'
  have hR1 := hI.r1; have hC1 := hI.c1; have hR := hI.r2; have hC := hI.c2
  obtain ⟨ga, oa, ca, rfl, hga, ha⟩ := inMat_img hin (by omega) (by omega)
  obtain ⟨gb, ob, cb, rfl, hgb, hb⟩ := inMat_img hin2 (by omega) (by omega)
  obtain ⟨ga', oa', ca', hxa, -, -⟩ := ha 0 (by omega)
  obtain ⟨gb', ob', cb', hxb, -, -⟩ := hb 0 (by omega)
  rw [Nat.add_zero] at hxa hxb
  have q2 : ((C : Int) != (C : Int)) = false := by simp
  have q3 : ((R : Int) != (R : Int)) = false := by simp
  have hR0 : 0 < R := by omega
  have HSL := hide (same_lines (f := f) (g := g) hR hC)
  have HND : Hid (∀ d ∈ rc, Near d.1 d.2) := hide (by
    intro d hd
    simp only [rc, List.mem_cons, List.not_mem_nil, or_false] at hd
    rcases hd with rfl | rfl <;> exact ⟨by decide, by decide, by decide, by decide⟩)
  have HRG : Hid (∀ (h : Nat → Nat → Int) (k : Key), 0 ≤ linesC C h (R * C) k rc ∧ linesC C h (R * C) k rc ≤ 1000) := hide fun h k => by
    have h1 := linesC_range C h (R * C) k rc
    have h2 : ((R * C : Nat) : Int) * (rc.length : Int) ≤ 50 := by
      have : R * C * rc.length ≤ 25 * 2 := Nat.mul_le_mul (Nat.mul_le_mul hR hC) (by decide)
      exact_mod_cast this
    omega
  clear hin hin2 hI hI' ha hb
  go_enter Try.func27, Try.ntmps27
  go_wp2
  go_quiet ((go_at_call 60; (first | with_reducible exact iok_quiet (.slice (some ⟨ga, oa, none⟩) R ca) _ _ _ true HI.out H1.out | with_reducible exact iok_quiet (.slice (some ⟨gb, ob, none⟩) R cb) _ _ _ true HJ.out H2.out)))
  go_wp2_with fail
  refine (alongRows_any _).mono ?_
  rintro e w1 ⟨rfl, hb⟩
  have HB1 := hide ((below_draws (Below.refl w.heap.size w) nq).trans hb); clear hb
  go_wp2_with fail
  refine (alongCols_any _).mono ?_
  rintro e w2 ⟨rfl, hb⟩
  have HB2 := hide (HB1.out.trans (hb.mono HB1.out.size)); clear hb
  have HB3 := hide (HB2.out.alloc HB2.out.size (.cells #[.int .i64 1, .int .i64 0, .int .i64 0, .int .i64 1] 34))
  go_wp2_with fail
  refine (lineMapOf_any _ _ R C f rc _ (inMat_below HI.out HB3.out) HA.out (inDirs2 w2 1 0 0 1) (by decide) HND.out).mono ?_
  rintro e w4 ⟨b1, rfl, hg1, hl, hb⟩
  have hbw1 := lm_lt hl
  have HL4 := hide hl; have HB4 := hide (HB3.out.trans (hb.mono HB3.out.size)); have hbW : w.heap.size ≤ b1 := Nat.le_trans HB3.out.size hg1
  clear hl hb hg1
  go_wp2_with fail
  refine (alongRows_any _).mono ?_
  rintro e w5 ⟨rfl, hb⟩
  have HL5 := hide (lm_below HL4.out hb); have hs5 := hb.size; have HB5 := hide (HB4.out.trans (hb.mono HB4.out.size)); clear hb
  go_wp2_with fail
  refine (alongCols_any _).mono ?_
  rintro e w6 ⟨rfl, hb⟩
  have HL6 := hide (lm_below HL5.out hb); have hs6 := hb.size; have HB6 := hide (HB5.out.trans (hb.mono HB5.out.size)); clear hb
  have hal : Below w6.heap.size w6 (w6.alloc (.cells #[.int .i64 1, .int .i64 0, .int .i64 0, .int .i64 1] 34)) := (Below.refl _ _).alloc (Nat.le_refl _) _
  have HL7 := hide (lm_below HL6.out hal); have HB7 := hide (HB6.out.trans (hal.mono HB6.out.size)); have hs7 := hal.size
  clear hal
  go_wp2_with fail
  refine (lineMapOf_any _ _ R C g rc _ (inMat_below HJ.out HB7.out) HB.out (inDirs2 w6 1 0 0 1) (by decide) HND.out).mono ?_
  rintro e w8 ⟨b2, rfl, hg2, hl, hb⟩
  have hne : b1 ≠ b2 := by omega
  have HL8 := hide (lm_below HL7.out hb); have HM8 := hide hl; have HB8 := hide (HB7.out.trans (hb.mono HB7.out.size))
  clear hl hb hg2 hs5 hs6 hs7
  go_wp2_with fail
  refine (cancel_any b1 b2 50 50 _ _ _ _ HL8.out HM8.out hne (by decide) (by decide) (HRG.out f) (HRG.out g)).mono ?_
  rintro e w9 ⟨nn, rfl, hnn, hl, hgr⟩
  have HL9 := hide hl
  have HB9 := hide (HB8.out.trans (grown_below hgr (fun k hk => by cases hk; exact hbW) HB8.out.size))
  clear hl hgr
  go_wp2_with (at_len; refine wpList_lenLM _ rfl _ rfl rfl HL9.out ?_; intro s hs hiff; have HIF := hide (hiff.trans HSL.out); clear hiff)
  go_ret
  refine ⟨ret_bool ?_, HB9.out⟩
  cases e : sameL R C f g with
  | true => have := HIF.out.2 e; simp [this]
  | false =>
    have : s ≠ 0 := fun h => by have := HIF.out.1 h; rw [e] at this; cases this
    simp [this]
theorem implSameSums_any (v u : Value) (R C R' C' : Nat) (f g : Nat → Nat → Int) (w : World) (hin : InMat w v (mkM R C f)) (hin2 : InMat w u (mkM R' C' g)) (h : Img R C f) (h' : Img R' C' g) :
    Calls Try.prog 27 #[v, u] w fun e w' => e = .returned (.bool (if R = R' ∧ C = C' then sameL R C f g else false)) ∧ Below w.heap.size w w' := by
  by_cases hR : R = R'
  · subst hR
    by_cases hC : C = C'
    · subst hC
      rw [if_pos ⟨rfl, rfl⟩]
      exact implSameSums_same v u R C f g w hin hin2 h h'
    · rw [if_neg fun e => hC e.2]
      exact implSameSums_cols v u R C C' f g w hin hin2 h h' hC
  · rw [if_neg fun e => hR e.1]
    exact implSameSums_rows v u R C R' C' f g w hin hin2 h h' hR

set_option maxHeartbeats 400000 in
theorem specSameSums_neg (v u : Value) (w : World) (hd : Calls Try.prog 63 #[v, u] w fun e w' => e = .returned (.int .i64 (-1)) ∧ Below w.heap.size w w') :
    Calls Try.prog 26 #[v, u] w fun e w' => e = .returned (.bool false) ∧ Below w.heap.size w w' := by
  have HD := hide hd
  clear hd
  go_enter Try.func26, Try.ntmps26
  go_wp2_with fail
  refine HD.out.mono ?_
  rintro e w1 ⟨rfl, hb⟩
  have HB := hide hb
  clear hb
  go_wp2
  go_ret
  exact ⟨rfl, HB.out⟩
set_option maxHeartbeats 1000000 in
theorem specSameSums_same (v u : Value) (R C : Nat) (f g : Nat → Nat → Int) (w : World) (hin : InMat w v (mkM R C f)) (hin2 : InMat w u (mkM R C g)) (hI : Img R C f) (hI' : Img R C g) :
    Calls Try.prog 26 #[v, u] w fun e w' => e = .returned (.bool (sameL R C f g)) ∧ Below w.heap.size w w' := by
  have HI := hide hin; have HJ := hide hin2; have HA := hide hI; have HB := hide hI'
  have HD := hide (specDistanceOf_same v u R C f g w hin hin2 hI hI')
  have HS : Hid (sameL R C f g = ((rowsL R C f == rowsL R C g) && (rowsL C R (trM f) == rowsL C R (trM g)))) := hide rfl
  clear hin hin2 hI hI'
  go_enter Try.func26, Try.ntmps26
  go_wp2_with fail
  refine HD.out.mono ?_
  rintro e w1 ⟨rfl, hb⟩
  have HB1 := hide hb; clear hb
  generalize cnt (fun i => imgF R C f i != imgF R C g i) 25 = q
  have hq : 0 ≤ (q : Int) := by omega
  go_wp2_with fail
  refine (specRowSums_yes v R C f _ (inMat_below HI.out HB1.out) HA.out).mono ?_
  rintro e w2 ⟨x2, rfl, ho, hb⟩
  have HX2 := hide (inRow_own ho); have HB2 := hide (HB1.out.trans (hb.mono HB1.out.size)); clear ho hb
  go_wp2_with fail
  refine (specRowSums_yes u R C g _ (inMat_below HJ.out HB2.out) HB.out).mono ?_
  rintro e w3 ⟨x3, rfl, ho, hb⟩
  have HX3 := hide (inRow_own ho); have HY3 := hide (inRow_below HX2.out hb); have HB3 := hide (HB2.out.trans (hb.mono HB2.out.size)); clear ho hb
  go_wp2_with fail
  refine (l02Same_any x2 x3 _ _ _ HY3.out HX3.out).mono ?_
  rintro e w4 ⟨rfl, rfl⟩
  have HB4 := HB3
  cases e1 : (rowsL R C f == rowsL R C g) with
  | false =>
    have HF : Hid (sameL R C f g = false) := hide (by rw [HS.out, e1]; rfl)
    clear e1
    go_wp2
    go_ret
    exact ⟨ret_bool HF.out.symm, HB4.out⟩
  | true =>
    have HF : Hid (sameL R C f g = (rowsL C R (trM f) == rowsL C R (trM g))) := hide (by rw [HS.out, e1]; rfl)
    clear e1
    go_wp2_with fail
    refine (specColSums_yes v R C f _ (inMat_below HI.out HB4.out) HA.out).mono ?_
    rintro e w5 ⟨x5, rfl, ho, hb⟩
    have HX5 := hide (inRow_own ho); have HB5 := hide (HB4.out.trans (hb.mono HB4.out.size)); clear ho hb
    go_wp2_with fail
    refine (specColSums_yes u R C g _ (inMat_below HJ.out HB5.out) HB.out).mono ?_
    rintro e w6 ⟨x6, rfl, ho, hb⟩
    have HX6 := hide (inRow_own ho); have HY6 := hide (inRow_below HX5.out hb); have HB6 := hide (HB5.out.trans (hb.mono HB5.out.size)); clear ho hb
    go_wp2_with fail
    refine (l02Same_any x5 x6 _ _ _ HY6.out HX6.out).mono ?_
    rintro e w7 ⟨rfl, rfl⟩
    go_wp2
    go_ret
    exact ⟨ret_bool HF.out.symm, HB6.out⟩
theorem specSameSums_any (v u : Value) (R C R' C' : Nat) (f g : Nat → Nat → Int) (w : World) (hin : InMat w v (mkM R C f)) (hin2 : InMat w u (mkM R' C' g)) (h : Img R C f) (h' : Img R' C' g) :
    Calls Try.prog 26 #[v, u] w fun e w' => e = .returned (.bool (if R = R' ∧ C = C' then sameL R C f g else false)) ∧ Below w.heap.size w w' := by
  by_cases hR : R = R'
  · subst hR
    by_cases hC : C = C'
    · subst hC
      rw [if_pos ⟨rfl, rfl⟩]
      exact specSameSums_same v u R C f g w hin hin2 h h'
    · rw [if_neg fun e => hC e.2]
      exact specSameSums_neg v u w (specDistanceOf_cols v u R C C' f g w hin hin2 h h' hC)
  · rw [if_neg fun e => hR e.1]
    exact specSameSums_neg v u w (specDistanceOf_rows v u R C R' C' f g w hin hin2 h h' hR)
end Go.Proofs.Ytcliiefedmiokaa
/-
  SameSums: the exact law, walked.
-/
namespace Go.Proofs.Ytcliiefedmiokaa
open Go.RowKit

set_option maxRecDepth 100000 in
set_option maxHeartbeats 1000000 in
theorem lawSameSums_gen (a : Option Addr) (n c : Nat) (m : List (List Int)) (b : Option Addr) (k d : Nat) (l : List (List Int)) (w : World) (hin : InMat w (.slice a n c) m) (hin2 : InMat w (.slice b k d) l) (val : Bool)
    (hs : ∀ v u w, InMat w v m → InMat w u l → Calls Try.prog 26 #[v, u] w fun e w' => e = .returned (.bool val) ∧ Below w.heap.size w w')
    (hi : ∀ v u w, InMat w v m → InMat w u l → Calls Try.prog 27 #[v, u] w fun e w' => e = .returned (.bool val) ∧ Below w.heap.size w w') :
    Calls Try.prog 6 #[.slice a n c, .slice b k d] w fun e w' => e = .returned (.bool true) ∧ Below w.heap.size w w' := by
  have HI := hide hin; have HJ := hide hin2; have HS := hide hs; have HM := hide hi
  clear hin hin2 hs hi
  go_enter Try.func6, Try.ntmps6
  go_wp2_with fail
  refine (szIntSS_any _ m 1048576 _ (by omega) HI.out).mono ?_
  rintro e w1 ⟨r, rfl, hr, hb1⟩
  have HB1 := hide hb1
  clear hb1
  rcases hr with rfl | ⟨hsz, rfl⟩
  · go_wp2
    go_ret
    exact ⟨rfl, HB1.out⟩
  · go_wp2_with fail
    refine (szIntSS_any _ l (1048576 - m.length - cellsM m) _ (by omega) (inMat_below HJ.out HB1.out)).mono ?_
    rintro e w2 ⟨r, rfl, hr, hb2⟩
    have HB2 := hide (HB1.out.trans (hb2.mono HB1.out.size))
    clear hb2
    rcases hr with rfl | ⟨hsz2, rfl⟩
    · go_wp2
      go_ret
      exact ⟨rfl, HB2.out⟩
    · go_wp2_with fail
      refine (toIntSS_any _ m _ (by omega) (inMat_below HI.out HB2.out)).mono ?_
      rintro e w3 ⟨v3, rfl, ho3, hb3⟩
      have HO3 := hide ho3; have HB3 := hide (HB2.out.trans (hb3.mono HB2.out.size)); clear ho3 hb3
      go_wp2_with fail
      refine (toIntSS_any _ l _ (by omega) (inMat_below HJ.out HB3.out)).mono ?_
      rintro e w4 ⟨v4, rfl, ho4, hb4⟩
      have HO4 := hide ho4; have HP4 := hide (ownMat_below HO3.out hb4); have HB4 := hide (HB3.out.trans (hb4.mono HB3.out.size)); clear ho4 hb4
      go_wp2_with fail
      refine (HS.out v3 v4 _ (inMat_own HP4.out) (inMat_own HO4.out)).mono ?_
      rintro e w5 ⟨rfl, hb5⟩
      have HB5 := hide (HB4.out.trans (hb5.mono HB4.out.size)); clear hb5
      go_wp2_with fail
      refine (toIntSS_any _ m _ (by omega) (inMat_below HI.out HB5.out)).mono ?_
      rintro e w6 ⟨v6, rfl, ho6, hb6⟩
      have HO6 := hide ho6; have HB6 := hide (HB5.out.trans (hb6.mono HB5.out.size)); clear ho6 hb6
      go_wp2_with fail
      refine (toIntSS_any _ l _ (by omega) (inMat_below HJ.out HB6.out)).mono ?_
      rintro e w7 ⟨v7, rfl, ho7, hb7⟩
      have HO7 := hide ho7; have HP7 := hide (ownMat_below HO6.out hb7); have HB7 := hide (HB6.out.trans (hb7.mono HB6.out.size)); clear ho7 hb7
      go_wp2_with fail
      refine (HM.out v6 v7 _ (inMat_own HP7.out) (inMat_own HO7.out)).mono ?_
      rintro e w8 ⟨rfl, hb8⟩
      have HO8 := hide (ownMat_below HO7.out hb8); have HP8 := hide (ownMat_below HP7.out hb8); have HB8 := hide (HB7.out.trans (hb8.mono HB7.out.size)); clear hb8
      go_wp2_with fail
      refine (toIntSS_any _ m _ (by omega) (inMat_below HI.out HB8.out)).mono ?_
      rintro e w9 ⟨v9, rfl, ho9, hb9⟩
      have HV9 := hide ho9; have HO9 := hide (ownMat_below HO8.out hb9); have HP9 := hide (ownMat_below HP8.out hb9); have HB9 := hide (HB8.out.trans (hb9.mono HB8.out.size)); clear ho9 hb9
      go_wp2_with fail
      refine (eqIntSS_same v6 v9 m _ (inMat_own HP9.out) (inMat_own HV9.out)).mono ?_
      rintro e w10 ⟨rfl, hb10⟩
      have HO10 := hide (ownMat_below HO9.out hb10); have HB10 := hide (HB9.out.trans (hb10.mono HB9.out.size)); clear hb10
      go_wp2_with fail
      refine (toIntSS_any _ l _ (by omega) (inMat_below HJ.out HB10.out)).mono ?_
      rintro e w11 ⟨v11, rfl, ho11, hb11⟩
      have HV11 := hide ho11; have HO11 := hide (ownMat_below HO10.out hb11); have HB11 := hide (HB10.out.trans (hb11.mono HB10.out.size)); clear ho11 hb11
      go_wp2_with fail
      refine (eqIntSS_same v7 v11 l _ (inMat_own HO11.out) (inMat_own HV11.out)).mono ?_
      rintro e w12 ⟨rfl, hb12⟩
      have HB12 := hide (HB11.out.trans (hb12.mono HB11.out.size)); clear hb12
      go_wp2
      go_ret
      exact ⟨rfl, HB12.out⟩
theorem lawSameSums_walk (a : Option Addr) (n c : Nat) (m : List (List Int)) (b : Option Addr) (k d : Nat) (l : List (List Int)) (w : World) (hin : InMat w (.slice a n c) m) (hin2 : InMat w (.slice b k d) l) :
    Calls Try.prog 6 #[.slice a n c, .slice b k d] w fun e w' => e = .returned (.bool true) ∧ Below w.heap.size w w' := by
  cases h : (okB m && okB l) with
  | false => exact lawSameSums_gen a n c m b k d l w hin hin2 false (fun v u w hv hu => specSameSums_neg v u w (specDistanceOf_no v u m l w hv hu h)) (fun v u w hv hu => implSameSums_no v u m l w hv hu h)
  | true =>
    rw [Bool.and_eq_true] at h
    obtain ⟨R, C, f, rfl, hI⟩ := ok_img h.1
    obtain ⟨R', C', g, rfl, hI'⟩ := ok_img h.2
    exact lawSameSums_gen a n c _ b k d _ w hin hin2 _ (fun v u w hv hu => specSameSums_any v u R C R' C' f g w hv hu hI hI') (fun v u w hv hu => implSameSums_any v u R C R' C' f g w hv hu hI hI')
end Go.Proofs.Ytcliiefedmiokaa
/-
  Worlds that have grown: some draws, some blocks laid behind.
-/
namespace Go.Proofs.Ytcliiefedmiokaa
open Go.RowKit

/-- After some draws, with some blocks laid behind. -/
def GrownW (w w' : World) : Prop := ∃ q os, w' = Go.Sort.grow (w.drewN q) os
theorem grownW_refl (w : World) : GrownW w w := ⟨0, #[], by rw [Go.Sort.grow_empty]; rfl⟩
theorem grownW_grow (w : World) (q : Nat) (os : Array Obj) : GrownW w (Go.Sort.grow (w.drewN q) os) := ⟨q, os, rfl⟩
theorem grownW_trans {a b c : World} (h : GrownW a b) (k : GrownW b c) : GrownW a c := by
  obtain ⟨q, os, rfl⟩ := h
  obtain ⟨p, os', rfl⟩ := k
  exact ⟨q + p, os ++ os', by show Go.Sort.grow (Go.Sort.grow ((a.drewN q).drewN p) os) os' = _; rw [Go.Sort.grow_grow, World.drewN_drewN]⟩
theorem grownW_alloc (w : World) (o : Obj) : GrownW w (w.alloc o) := ⟨0, #[o], by rw [Go.Sort.alloc_eq_grow]; rfl⟩
theorem grownW_below {w w' : World} (h : GrownW w w') : Below w.heap.size w w' := by
  obtain ⟨q, os, rfl⟩ := h
  refine ⟨rfl, rfl, rfl, ?_, fun k hk => ?_⟩
  · show w.heap.size ≤ (w.heap ++ os).size
    rw [Array.size_append]; omega
  · show (w.heap ++ os)[k]? = _
    rw [Array.getElem?_append_left hk]
theorem quiet_of {P : Program} {f : FuncId} {args : Array Value} {w : World} {n : Nat} {os : Array Obj} {v : Value} (h : Calls P f args (Go.Sort.grow (w.drewN n) os) fun e w' => e = .returned v ∧ GrownW (Go.Sort.grow (w.drewN n) os) w') :
    Calls P f args (Go.Sort.grow (w.drewN n) os) fun e w'' => e = .returned v ∧ ∃ p : GrownBy, w'' = Go.Sort.grow (w.drewN p.n) p.os := Calls.grown_of h
end Go.Proofs.Ytcliiefedmiokaa
