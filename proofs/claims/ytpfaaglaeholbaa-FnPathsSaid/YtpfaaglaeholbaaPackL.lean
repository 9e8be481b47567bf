/-
  Texts of this claim, one behind the other: SameS, SameB, PTo, Fnd, PToS, SpecP, Apl.
-/
import Derived.Test.YtpfaaglaeholbaaPackF
import Derived.Test.YtpfaaglaeholbaaPackK
import Derived.Deep.LoopGhost
import Derived.Test.YtpfaaglaeholbaaPackH
import Derived.Test.YtpfaaglaeholbaaPackI
/-
  SameSums of both.
-/
namespace Go.Proofs.Ytpfaaglaeholbaa
open Go.RowKit Go.Maps

/-- The rows' and the columns' directions. -/
def rc : List (Int × Int) := [(1, 0), (0, 1)]
theorem lines_row (R C : Nat) (f : Nat → Nat → Int) (n : Int) : linesC C f (R * C) ⟨1, 0, n⟩ rc = if 0 ≤ n ∧ n < R then ((rs C f n.toNat : Nat) : Int) else 0 := by
  have h : lineC C f (1, 0) (R * C) ⟨1, 0, n⟩ = (cnt (onL C f (1, 0) n) (C * R) : Nat) := by rw [Nat.mul_comm R C]; exact if_pos ⟨rfl, rfl⟩
  have h2 : lineC C f (0, 1) (R * C) ⟨1, 0, n⟩ = 0 := if_neg (fun h => by cases h.1)
  rw [rc, linesC, linesC, linesC, h, h2, cnt_rows]
  split <;> simp
theorem lines_col (R C : Nat) (f : Nat → Nat → Int) (n : Int) : linesC C f (R * C) ⟨0, 1, n⟩ rc = if 0 ≤ n ∧ n < C then ((cs R f (C - 1 - n.toNat) : Nat) : Int) else 0 := by
  have h : lineC C f (0, 1) (R * C) ⟨0, 1, n⟩ = (cnt (onL C f (0, 1) n) (C * R) : Nat) := by rw [Nat.mul_comm R C]; exact if_pos ⟨rfl, rfl⟩
  have h2 : lineC C f (1, 0) (R * C) ⟨0, 1, n⟩ = 0 := if_neg (fun h => by cases h.1)
  rw [rc, linesC, linesC, linesC, h, h2, cnt_cols]
  split <;> simp
theorem lines_none (C : Nat) (f : Nat → Nat → Int) (N : Nat) (k : Key) (h1 : ¬ (k.x = 1 ∧ k.y = 0)) (h2 : ¬ (k.x = 0 ∧ k.y = 1)) : linesC C f N k rc = 0 := by
  simp only [rc, linesC, lineC]
  rw [if_neg h1, if_neg h2]; rfl
theorem rowsL_eq {R C : Nat} {f g : Nat → Nat → Int} : (rowsL R C f == rowsL R C g) = true ↔ ∀ y, y < R → rs C f y = rs C g y := by
  rw [beq_iff_eq]
  constructor
  · intro h y hy
    have h1 := congrArg (fun l => l[y]?) h
    simp only [rowsL, rowF, List.getElem?_map, List.getElem?_range hy, Option.map_some, Option.some.injEq] at h1
    omega
  · intro h
    exact rowF_congr fun y hy => by rw [h y hy]
def sameL (R C : Nat) (f g : Nat → Nat → Int) : Bool := (rowsL R C f == rowsL R C g) && (rowsL C R (trM f) == rowsL C R (trM g))
theorem same_lines {R C : Nat} {f g : Nat → Nat → Int} (hR : R ≤ 5) (hC : C ≤ 5) : (∀ k : Key, k.wf → thereK (fun k => linesC C f (R * C) k rc - linesC C g (R * C) k rc) k = false) ↔ sameL R C f g = true := by
  have hcs : ∀ (f : Nat → Nat → Int) x, rs R (trM f) x = cs R f x := fun _ _ => rfl
  unfold sameL
  rw [Bool.and_eq_true, rowsL_eq, rowsL_eq]
  constructor
  · intro h
    have h0 : ∀ k : Key, k.wf → linesC C f (R * C) k rc = linesC C g (R * C) k rc := fun k hk => by
      have := h k hk
      simp only [thereK, decide_eq_false_iff_not, ne_eq, Decidable.not_not] at this
      omega
    refine ⟨fun y hy => ?_, fun x hx => ?_⟩
    · have := h0 ⟨1, 0, y⟩ (key_wf (by decide) (by decide) (WalkArith.wf_i64 (by omega)))
      rw [lines_row, lines_row, if_pos (by omega), if_pos (by omega)] at this
      have e : ((y : Int)).toNat = y := by omega
      rw [e] at this; omega
    · rw [hcs, hcs]
      have := h0 ⟨0, 1, (C - 1 - x : Nat)⟩ (key_wf (by decide) (by decide) (WalkArith.wf_i64 (by omega)))
      rw [lines_col, lines_col, if_pos (by omega), if_pos (by omega)] at this
      have e : C - 1 - (((C - 1 - x : Nat) : Int)).toNat = x := by omega
      rw [e] at this; omega
  · rintro ⟨h1, h2⟩ k -
    simp only [thereK, decide_eq_false_iff_not, ne_eq, Decidable.not_not]
    obtain ⟨kx, ky, n⟩ := k
    by_cases e1 : kx = 1 ∧ ky = 0
    · obtain ⟨rfl, rfl⟩ := e1
      rw [lines_row, lines_row]
      split
      · rename_i hn; rw [h1 n.toNat (by omega)]; omega
      · rfl
    · by_cases e2 : kx = 0 ∧ ky = 1
      · obtain ⟨rfl, rfl⟩ := e2
        rw [lines_col, lines_col]
        split
        · rename_i hn
          have := h2 (C - 1 - n.toNat) (by omega)
          rw [hcs, hcs] at this
          rw [this]; omega
        · rfl
      · rw [lines_none C f (R * C) _ e1 e2, lines_none C g (R * C) _ e1 e2]; rfl

theorem iok_quiet (v : Value) (m : List (List Int)) (w : World) (n : Nat) (b : Bool) (hin : InMat w v m) (hb : okB m = b) :
    Calls Try.prog 52 #[v] (w.drewN n) fun e w'' => e = .returned (.bool b) ∧ ∃ k, w'' = w.drewN k := by
  refine Calls.quiet_of_same ((implImageOk_any v m (w.drewN n) hin).mono ?_)
  rintro e w' ⟨rfl, rfl⟩
  exact ⟨by rw [hb], rfl⟩
set_option maxRecDepth 100000 in
set_option maxHeartbeats 1000000 in
theorem implSameSums_no (v u : Value) (m l : List (List Int)) (w : World) (hin : InMat w v m) (hin2 : InMat w u l) (h : (okB m && okB l) = false) :
    Calls Try.prog 12 #[v, u] w fun e w' => e = .returned (.bool false) ∧ Below w.heap.size w w' := by
  have HI := hide hin; have HJ := hide hin2
  clear hin hin2
  cases h1 : okB m with
  | false =>
    have H1 := hide h1
    clear h h1
    go_enter Try.func12, Try.ntmps12
    go_wp2
    go_quiet ((go_at_call 52; exact iok_quiet _ m _ _ false HI.out H1.out))
    go_wp2
    go_ret
    exact ⟨rfl, below_draws (Below.refl _ _) _⟩
  | true =>
    have h2 : okB l = false := by rw [h1] at h; simpa using h
    have H1 := hide h1; have H2 := hide h2
    clear h h1 h2
    go_enter Try.func12, Try.ntmps12
    go_wp2
    go_quiet ((go_at_call 52; (first | with_reducible exact iok_quiet v m _ _ true HI.out H1.out | with_reducible exact iok_quiet u l _ _ false HJ.out H2.out)))
    go_wp2
    go_ret
    exact ⟨rfl, below_draws (Below.refl _ _) _⟩
set_option maxRecDepth 100000 in
set_option maxHeartbeats 1000000 in
theorem implSameSums_rows (v u : Value) (R C R' C' : Nat) (f g : Nat → Nat → Int) (w : World) (hin : InMat w v (mkM R C f)) (hin2 : InMat w u (mkM R' C' g)) (hI : Img R C f) (hI' : Img R' C' g) (hne : R ≠ R') :
    Calls Try.prog 12 #[v, u] w fun e w' => e = .returned (.bool false) ∧ Below w.heap.size w w' := by
  have HI := hide hin; have HJ := hide hin2; have H1 := hide (img_ok hI); have H2 := hide (img_ok hI')
  have hR1 := hI.r1; have hC1 := hI.c1; have hR := hI.r2; have hC := hI.c2
  have hR1' := hI'.r1; have hC1' := hI'.c1; have hR' := hI'.r2; have hC' := hI'.c2
  obtain ⟨ga, oa, ca, rfl, hga, -⟩ := inMat_img hin (by omega) (by omega)
  obtain ⟨gb, ob, cb, rfl, hgb, -⟩ := inMat_img hin2 (by omega) (by omega)
  have q1 : ((R : Int) == (R' : Int)) = false := by simp; omega
  have q2 : ((R : Int) != (R' : Int)) = true := by simp; omega
  clear hin hin2 hI hI' hne
  go_enter Try.func12, Try.ntmps12
  go_wp2
  go_quiet ((go_at_call 52; (first | with_reducible exact iok_quiet (.slice (some ⟨ga, oa, none⟩) R ca) _ _ _ true HI.out H1.out | with_reducible exact iok_quiet (.slice (some ⟨gb, ob, none⟩) R' cb) _ _ _ true HJ.out H2.out)))
  go_wp2
  go_ret
  exact ⟨rfl, below_draws (Below.refl _ _) _⟩
set_option maxRecDepth 100000 in
set_option maxHeartbeats 1000000 in
theorem implSameSums_cols (v u : Value) (R C C' : Nat) (f g : Nat → Nat → Int) (w : World) (hin : InMat w v (mkM R C f)) (hin2 : InMat w u (mkM R C' g)) (hI : Img R C f) (hI' : Img R C' g) (hne : C ≠ C') :
    Calls Try.prog 12 #[v, u] w fun e w' => e = .returned (.bool false) ∧ Below w.heap.size w w' := by
  have HI := hide hin; have HJ := hide hin2; have H1 := hide (img_ok hI); have H2 := hide (img_ok hI')
  have hR1 := hI.r1; have hC1 := hI.c1; have hR := hI.r2; have hC := hI.c2
  have hR1' := hI'.r1; have hC1' := hI'.c1; have hR' := hI'.r2; have hC' := hI'.c2
  obtain ⟨ga, oa, ca, rfl, hga, ha⟩ := inMat_img hin (by omega) (by omega)
  obtain ⟨gb, ob, cb, rfl, hgb, hb⟩ := inMat_img hin2 (by omega) (by omega)
  obtain ⟨ga', oa', ca', hxa, -, -⟩ := ha 0 (by omega)
  obtain ⟨gb', ob', cb', hxb, -, -⟩ := hb 0 (by omega)
  rw [Nat.add_zero] at hxa hxb
  have q1 : ((C : Int) == (C' : Int)) = false := by simp; omega
  have q2 : ((C : Int) != (C' : Int)) = true := by simp; omega
  have q3 : ((R : Int) != (R : Int)) = false := by simp
  have hR0 : 0 < R := by omega
  clear hin hin2 hI hI' hne ha hb
  go_enter Try.func12, Try.ntmps12
  go_wp2
  go_quiet ((go_at_call 52; (first | with_reducible exact iok_quiet (.slice (some ⟨ga, oa, none⟩) R ca) _ _ _ true HI.out H1.out | with_reducible exact iok_quiet (.slice (some ⟨gb, ob, none⟩) R cb) _ _ _ true HJ.out H2.out)))
  go_wp2
  go_ret
  exact ⟨rfl, below_draws (Below.refl _ _) _⟩
set_option maxRecDepth 100000 in
set_option maxHeartbeats 2000000 in
theorem implSameSums_same (v u : Value) (R C : Nat) (f g : Nat → Nat → Int) (w : World) (hin : InMat w v (mkM R C f)) (hin2 : InMat w u (mkM R C g)) (hI : Img R C f) (hI' : Img R C g) :
    Calls Try.prog 12 #[v, u] w fun e w' => e = .returned (.bool (sameL R C f g)) ∧ Below w.heap.size w w' := by
  have HI := hide hin; have HJ := hide hin2; have H1 := hide (img_ok hI); have H2 := hide (img_ok hI')
  have HA := hide hI; have HB := hide hI'
  have hR1 := hI.r1; have hC1 := hI.c1; have hR := hI.r2; have hC := hI.c2
  obtain ⟨ga, oa, ca, rfl, hga, ha⟩ := inMat_img hin (by omega) (by omega)
  obtain ⟨gb, ob, cb, rfl, hgb, hb⟩ := inMat_img hin2 (by omega) (by omega)
  obtain ⟨ga', oa', ca', hxa, -, -⟩ := ha 0 (by omega)
  obtain ⟨gb', ob', cb', hxb, -, -⟩ := hb 0 (by omega)
  rw [Nat.add_zero] at hxa hxb
  have q2 : ((C : Int) != (C : Int)) = false := by simp
  have q3 : ((R : Int) != (R : Int)) = false := by simp
  have hR0 : 0 < R := by omega
  have HSL := hide (same_lines (f := f) (g := g) hR hC)
  have HND : Hid (∀ d ∈ rc, Near d.1 d.2) := hide (by
    intro d hd
    simp only [rc, List.mem_cons, List.not_mem_nil, or_false] at hd
    rcases hd with rfl | rfl <;> exact ⟨by decide, by decide, by decide, by decide⟩)
  have HRG : Hid (∀ (h : Nat → Nat → Int) (k : Key), 0 ≤ linesC C h (R * C) k rc ∧ linesC C h (R * C) k rc ≤ 1000) := hide fun h k => by
    have h1 := linesC_range C h (R * C) k rc
    have h2 : ((R * C : Nat) : Int) * (rc.length : Int) ≤ 50 := by
      have : R * C * rc.length ≤ 25 * 2 := Nat.mul_le_mul (Nat.mul_le_mul hR hC) (by decide)
      exact_mod_cast this
    omega
  clear hin hin2 hI hI' ha hb
  go_enter Try.func12, Try.ntmps12
  go_wp2
  go_quiet ((go_at_call 52; (first | with_reducible exact iok_quiet (.slice (some ⟨ga, oa, none⟩) R ca) _ _ _ true HI.out H1.out | with_reducible exact iok_quiet (.slice (some ⟨gb, ob, none⟩) R cb) _ _ _ true HJ.out H2.out)))
  go_wp2_with fail
  refine (alongRows_any _).mono ?_
  rintro e w1 ⟨rfl, hb⟩
  have HB1 := hide ((below_draws (Below.refl w.heap.size w) nq).trans hb); clear hb
  go_wp2_with fail
  refine (alongCols_any _).mono ?_
  rintro e w2 ⟨rfl, hb⟩
  have HB2 := hide (HB1.out.trans (hb.mono HB1.out.size)); clear hb
  have HB3 := hide (HB2.out.alloc HB2.out.size (.cells #[.int .i64 1, .int .i64 0, .int .i64 0, .int .i64 1] 77))
  go_wp2_with fail
  refine (lineMapOf_any _ _ R C f rc _ (inMat_below HI.out HB3.out) HA.out (inDirs2 w2 1 0 0 1) (by decide) HND.out).mono ?_
  rintro e w4 ⟨b1, rfl, hg1, hl, hb⟩
  have hbw1 := lm_lt hl
  have HL4 := hide hl; have HB4 := hide (HB3.out.trans (hb.mono HB3.out.size)); have hbW : w.heap.size ≤ b1 := Nat.le_trans HB3.out.size hg1
  clear hl hb hg1
  go_wp2_with fail
  refine (alongRows_any _).mono ?_
  rintro e w5 ⟨rfl, hb⟩
  have HL5 := hide (lm_below HL4.out hb); have hs5 := hb.size; have HB5 := hide (HB4.out.trans (hb.mono HB4.out.size)); clear hb
  go_wp2_with fail
  refine (alongCols_any _).mono ?_
  rintro e w6 ⟨rfl, hb⟩
  have HL6 := hide (lm_below HL5.out hb); have hs6 := hb.size; have HB6 := hide (HB5.out.trans (hb.mono HB5.out.size)); clear hb
  have hal : Below w6.heap.size w6 (w6.alloc (.cells #[.int .i64 1, .int .i64 0, .int .i64 0, .int .i64 1] 77)) := (Below.refl _ _).alloc (Nat.le_refl _) _
  have HL7 := hide (lm_below HL6.out hal); have HB7 := hide (HB6.out.trans (hal.mono HB6.out.size)); have hs7 := hal.size
  clear hal
  go_wp2_with fail
  refine (lineMapOf_any _ _ R C g rc _ (inMat_below HJ.out HB7.out) HB.out (inDirs2 w6 1 0 0 1) (by decide) HND.out).mono ?_
  rintro e w8 ⟨b2, rfl, hg2, hl, hb⟩
  have hne : b1 ≠ b2 := by omega
  have HL8 := hide (lm_below HL7.out hb); have HM8 := hide hl; have HB8 := hide (HB7.out.trans (hb.mono HB7.out.size))
  clear hl hb hg2 hs5 hs6 hs7
  go_wp2_with fail
  refine (cancel_any b1 b2 50 50 _ _ _ _ HL8.out HM8.out hne (by decide) (by decide) (HRG.out f) (HRG.out g)).mono ?_
  rintro e w9 ⟨nn, rfl, hnn, hl, hgr⟩
  have HL9 := hide hl
  have HB9 := hide (HB8.out.trans (grown_below hgr (fun k hk => by cases hk; exact hbW) HB8.out.size))
  clear hl hgr
  go_wp2_with (at_len; refine wpList_lenLM _ rfl _ rfl rfl HL9.out ?_; intro s hs hiff; have HIF := hide (hiff.trans HSL.out); clear hiff)
  go_ret
  refine ⟨ret_bool ?_, HB9.out⟩
  cases e : sameL R C f g with
  | true => have := HIF.out.2 e; simp [this]
  | false =>
    have : s ≠ 0 := fun h => by have := HIF.out.1 h; rw [e] at this; cases this
    simp [this]
theorem implSameSums_any (v u : Value) (R C R' C' : Nat) (f g : Nat → Nat → Int) (w : World) (hin : InMat w v (mkM R C f)) (hin2 : InMat w u (mkM R' C' g)) (h : Img R C f) (h' : Img R' C' g) :
    Calls Try.prog 12 #[v, u] w fun e w' => e = .returned (.bool (if R = R' ∧ C = C' then sameL R C f g else false)) ∧ Below w.heap.size w w' := by
  by_cases hR : R = R'
  · subst hR
    by_cases hC : C = C'
    · subst hC
      rw [if_pos ⟨rfl, rfl⟩]
      exact implSameSums_same v u R C f g w hin hin2 h h'
    · rw [if_neg fun e => hC e.2]
      exact implSameSums_cols v u R C C' f g w hin hin2 h h' hC
  · rw [if_neg fun e => hR e.1]
    exact implSameSums_rows v u R C R' C' f g w hin hin2 h h' hR

set_option maxHeartbeats 400000 in
theorem specSameSums_neg (v u : Value) (w : World) (hd : Calls Try.prog 96 #[v, u] w fun e w' => e = .returned (.int .i64 (-1)) ∧ Below w.heap.size w w') :
    Calls Try.prog 63 #[v, u] w fun e w' => e = .returned (.bool false) ∧ Below w.heap.size w w' := by
  have HD := hide hd
  clear hd
  go_enter Try.func63, Try.ntmps63
  go_wp2_with fail
  refine HD.out.mono ?_
  rintro e w1 ⟨rfl, hb⟩
  have HB := hide hb
  clear hb
  go_wp2
  go_ret
  exact ⟨rfl, HB.out⟩
set_option maxHeartbeats 1000000 in
theorem specSameSums_same (v u : Value) (R C : Nat) (f g : Nat → Nat → Int) (w : World) (hin : InMat w v (mkM R C f)) (hin2 : InMat w u (mkM R C g)) (hI : Img R C f) (hI' : Img R C g) :
    Calls Try.prog 63 #[v, u] w fun e w' => e = .returned (.bool (sameL R C f g)) ∧ Below w.heap.size w w' := by
  have HI := hide hin; have HJ := hide hin2; have HA := hide hI; have HB := hide hI'
  have HD := hide (specDistanceOf_same v u R C f g w hin hin2 hI hI')
  have HS : Hid (sameL R C f g = ((rowsL R C f == rowsL R C g) && (rowsL C R (trM f) == rowsL C R (trM g)))) := hide rfl
  clear hin hin2 hI hI'
  go_enter Try.func63, Try.ntmps63
  go_wp2_with fail
  refine HD.out.mono ?_
  rintro e w1 ⟨rfl, hb⟩
  have HB1 := hide hb; clear hb
  generalize cnt (fun i => imgF R C f i != imgF R C g i) 25 = q
  have hq : 0 ≤ (q : Int) := by omega
  go_wp2_with fail
  refine (specRowSums_yes v R C f _ (inMat_below HI.out HB1.out) HA.out).mono ?_
  rintro e w2 ⟨x2, rfl, ho, hb⟩
  have HX2 := hide (inRow_own ho); have HB2 := hide (HB1.out.trans (hb.mono HB1.out.size)); clear ho hb
  go_wp2_with fail
  refine (specRowSums_yes u R C g _ (inMat_below HJ.out HB2.out) HB.out).mono ?_
  rintro e w3 ⟨x3, rfl, ho, hb⟩
  have HX3 := hide (inRow_own ho); have HY3 := hide (inRow_below HX2.out hb); have HB3 := hide (HB2.out.trans (hb.mono HB2.out.size)); clear ho hb
  go_wp2_with fail
  refine (l02Same_any x2 x3 _ _ _ HY3.out HX3.out).mono ?_
  rintro e w4 ⟨rfl, rfl⟩
  have HB4 := HB3
  cases e1 : (rowsL R C f == rowsL R C g) with
  | false =>
    have HF : Hid (sameL R C f g = false) := hide (by rw [HS.out, e1]; rfl)
    clear e1
    go_wp2
    go_ret
    exact ⟨ret_bool HF.out.symm, HB4.out⟩
  | true =>
    have HF : Hid (sameL R C f g = (rowsL C R (trM f) == rowsL C R (trM g))) := hide (by rw [HS.out, e1]; rfl)
    clear e1
    go_wp2_with fail
    refine (specColSums_yes v R C f _ (inMat_below HI.out HB4.out) HA.out).mono ?_
    rintro e w5 ⟨x5, rfl, ho, hb⟩
    have HX5 := hide (inRow_own ho); have HB5 := hide (HB4.out.trans (hb.mono HB4.out.size)); clear ho hb
    go_wp2_with fail
    refine (specColSums_yes u R C g _ (inMat_below HJ.out HB5.out) HB.out).mono ?_
    rintro e w6 ⟨x6, rfl, ho, hb⟩
    have HX6 := hide (inRow_own ho); have HY6 := hide (inRow_below HX5.out hb); have HB6 := hide (HB5.out.trans (hb.mono HB5.out.size)); clear ho hb
    go_wp2_with fail
    refine (l02Same_any x5 x6 _ _ _ HY6.out HX6.out).mono ?_
    rintro e w7 ⟨rfl, rfl⟩
    go_wp2
    go_ret
    exact ⟨ret_bool HF.out.symm, HB6.out⟩
theorem specSameSums_any (v u : Value) (R C R' C' : Nat) (f g : Nat → Nat → Int) (w : World) (hin : InMat w v (mkM R C f)) (hin2 : InMat w u (mkM R' C' g)) (h : Img R C f) (h' : Img R' C' g) :
    Calls Try.prog 63 #[v, u] w fun e w' => e = .returned (.bool (if R = R' ∧ C = C' then sameL R C f g else false)) ∧ Below w.heap.size w w' := by
  by_cases hR : R = R'
  · subst hR
    by_cases hC : C = C'
    · subst hC
      rw [if_pos ⟨rfl, rfl⟩]
      exact specSameSums_same v u R C f g w hin hin2 h h'
    · rw [if_neg fun e => hC e.2]
      exact specSameSums_neg v u w (specDistanceOf_cols v u R C C' f g w hin hin2 h h' hC)
  · rw [if_neg fun e => hR e.1]
    exact specSameSums_neg v u w (specDistanceOf_rows v u R C R' C' f g w hin hin2 h h' hR)
end Go.Proofs.Ytpfaaglaeholbaa
/-
  Whether two lists of lists are images with the same sums.
-/
namespace Go.Proofs.Ytpfaaglaeholbaa
open Go.RowKit

def sameB (m l : List (List Int)) : Bool := okB m && okB l && (decide (m.length = l.length) && decide (widthM m = widthM l) && sameL m.length (widthM m) (cellM m) (cellM l))
theorem rs_congr {C : Nat} {f g : Nat → Nat → Int} {y : Nat} (h : ∀ x, x < C → f y x = g y x) : rs C f y = rs C g y := cnt_congr fun x hx => by rw [h x hx]
theorem rowsL_congr {R C : Nat} {f g : Nat → Nat → Int} (h : ∀ y x, y < R → x < C → f y x = g y x) : rowsL R C f = rowsL R C g := rowF_congr fun y hy => by rw [rs_congr fun x hx => h y x hy hx]
theorem sameL_congr {R C : Nat} {f g f' g' : Nat → Nat → Int} (h : ∀ y x, y < R → x < C → f y x = f' y x) (h2 : ∀ y x, y < R → x < C → g y x = g' y x) : sameL R C f g = sameL R C f' g' := by
  unfold sameL
  rw [rowsL_congr h, rowsL_congr h2, rowsL_congr (f := trM f) (g := trM f') fun y x hy hx => h x y hx hy, rowsL_congr (f := trM g) (g := trM g') fun y x hy hx => h2 x y hx hy]
theorem width_mk {R C : Nat} {f : Nat → Nat → Int} (h : Img R C f) : widthM (mkM R C f) = C := by
  have := h.r1
  unfold widthM mkM
  obtain ⟨n, rfl⟩ : ∃ n, R = n + 1 := ⟨R - 1, by omega⟩
  simp [List.range_succ_eq_map, rowF]
theorem sameB_mk {R C R' C' : Nat} {f g : Nat → Nat → Int} (h : Img R C f) (h' : Img R' C' g) : sameB (mkM R C f) (mkM R' C' g) = if R = R' ∧ C = C' then sameL R C f g else false := by
  unfold sameB
  rw [img_ok h, img_ok h', width_mk h, width_mk h', mkM_len, mkM_len]
  by_cases e1 : R = R'
  · by_cases e2 : C = C'
    · subst e1; subst e2
      rw [if_pos ⟨rfl, rfl⟩, sameL_congr (fun y x hy hx => cell_mk R C f hy hx) (fun y x hy hx => cell_mk R C g hy hx)]
      simp
    · rw [if_neg fun e => e2 e.2]; simp [e2]
  · rw [if_neg fun e => e1 e.1]; simp [e1]
theorem rowF_inj {n : Nat} {f g : Nat → Int} (h : rowF n f = rowF n g) : ∀ i, i < n → f i = g i := fun i hi => by
  have h1 : (rowF n f)[i]? = (rowF n g)[i]? := by rw [h]
  simpa [rowF, hi] using h1
theorem sameB_yes {m l : List (List Int)} (h : sameB m l = true) : ∃ R C f g, m = mkM R C f ∧ l = mkM R C g ∧ Img R C f ∧ Img R C g ∧ SameF R C f g := by
  have h0 := h
  unfold sameB at h0
  simp only [Bool.and_eq_true] at h0
  obtain ⟨R, C, f, rfl, hI⟩ := ok_img h0.1.1
  obtain ⟨R', C', g, rfl, hJ⟩ := ok_img h0.1.2
  rw [sameB_mk hI hJ] at h
  by_cases e : R = R' ∧ C = C'
  · obtain ⟨rfl, rfl⟩ := e
    rw [if_pos ⟨rfl, rfl⟩] at h
    unfold sameL at h
    simp only [Bool.and_eq_true, beq_iff_eq] at h
    refine ⟨R, C, f, g, rfl, rfl, hI, hJ, fun y hy => ?_, fun x hx => ?_⟩
    · have := rowF_inj h.1 y hy; omega
    · have := rowF_inj h.2 x hx
      show rs R (trM f) x = rs R (trM g) x
      omega
  · rw [if_neg e] at h; cases h
theorem implSameB_any (v u : Value) (m l : List (List Int)) (w : World) (hin : InMat w v m) (hin2 : InMat w u l) :
    Calls Try.prog 12 #[v, u] w fun e w' => e = .returned (.bool (sameB m l)) ∧ Below w.heap.size w w' := by
  cases h : okB m && okB l with
  | false =>
    have := implSameSums_no v u m l w hin hin2 h
    unfold sameB
    rw [h, Bool.false_and]; exact this
  | true =>
    simp only [Bool.and_eq_true] at h
    obtain ⟨R, C, f, rfl, hI⟩ := ok_img h.1
    obtain ⟨R', C', g, rfl, hJ⟩ := ok_img h.2
    rw [sameB_mk hI hJ]
    exact implSameSums_any v u R C R' C' f g w hin hin2 hI hJ
theorem specSameB_any (v u : Value) (m l : List (List Int)) (w : World) (hin : InMat w v m) (hin2 : InMat w u l) :
    Calls Try.prog 63 #[v, u] w fun e w' => e = .returned (.bool (sameB m l)) ∧ Below w.heap.size w w' := by
  cases h : okB m && okB l with
  | false =>
    have := specSameSums_neg v u w (specDistanceOf_no v u m l w hin hin2 h)
    unfold sameB
    rw [h, Bool.false_and]; exact this
  | true =>
    simp only [Bool.and_eq_true] at h
    obtain ⟨R, C, f, rfl, hI⟩ := ok_img h.1
    obtain ⟨R', C', g, rfl, hJ⟩ := ok_img h.2
    rw [sameB_mk hI hJ]
    exact specSameSums_any v u R C R' C' f g w hin hin2 hI hJ
end Go.Proofs.Ytpfaaglaeholbaa
/-
  PathTo of the program.
-/
namespace Go.Proofs.Ytpfaaglaeholbaa
open Go.RowKit
set_option maxRecDepth 100000

def pathB (m l : List (List Int)) : Bool := sameB m l && (decide (m.length ≤ 4) && decide (widthM m ≤ 4))
/-- What PathTo answers. -/
def PathRes (m l : List (List Int)) (w : World) (e : Ending) (w' : World) : Prop :=
  ∃ v P, e = .returned (.tuple #[v, .bool (pathB m l)]) ∧ OwnSws w' w.heap.size v P ∧ Below w.heap.size w w' ∧ (pathB m l = true → Best m l P) ∧ (pathB m l = false → P = [])
theorem pathRes_no {m l : List (List Int)} {w w' : World} (h : pathB m l = false) (hb : Below w.heap.size w w') : PathRes m l w (.returned (.tuple #[.slice none 0 0, .bool false])) w' :=
  ⟨_, [], by rw [h], ownSws_nil _ _, hb, fun e => (by rw [h] at e; cases e), fun _ => rfl⟩
/-- The map of a search that has found t. -/
def mapF (R C : Nat) (m t : List (List Int)) : FactP := fun u w2 => ∃ b L V k K i, u = .map (some b) ∧ Bfs m L V k K ∧ i < L.length ∧ L.getD i [] = t ∧ ImgMap w2 b (ksOf R C L V)
theorem stable_mapF (R C : Nat) (m t : List (List Int)) : StableP (mapF R C m t) := fun _ _ _ hb h => by
  obtain ⟨b, L, V, k, K, i, h1, h2, h3, h4, h5⟩ := h
  exact ⟨b, L, V, k, K, i, h1, h2, h3, h4, imgMap_below h5 hb⟩
/-- A way to t that is the best one. -/
def wayF (base : Nat) (m t : List (List Int)) : FactP := fun u w2 => ∃ P, OwnSws w2 base u P ∧ Best m t P
theorem stable_wayF (base : Nat) (m t : List (List Int)) : StableP (wayF base m t) := fun _ _ _ hb h => ⟨h.choose, ownSws_below h.choose_spec.1 hb, h.choose_spec.2⟩
theorem way_map {R C : Nat} {m t : List (List Int)} (hm : Node R C m) (hR : R ≤ 4) (hC : C ≤ 4) (base : Nat) (u : Value) (w : World) (hbase : base ≤ w.heap.size) (h : mapF R C m t u w) :
    Calls Try.prog 51 #[u, .agg (vec 25 (imgC R C t))] w fun e w' => ∃ r, e = .returned r ∧ Below w.heap.size w w' ∧ wayF base m t r w' := by
  obtain ⟨b, L, V, k, K, i, rfl, h2, h3, rfl, h5⟩ := h
  refine (pathTo_any reverse_any w hm hR hC h2 h3 h5).mono ?_
  rintro e w' ⟨v, rfl, ho, hb⟩
  exact ⟨v, rfl, hb, V.getD i [], ownSws_base ho hbase, h2.best i h3⟩
theorem map_search {R C : Nat} {m t : List (List Int)} {q0 : List Sw} (w : World) (hm : Node R C m) (ht : Node R C t) (hR : R ≤ 4) (hC : C ≤ 4) (hq : goM m q0 = some t) :
    Calls Try.prog 50 #[.agg (vec 25 (imgC R C m)), .agg (vec 25 (imgC R C t))] w fun e w' => ∃ r, e = .returned r ∧ Below w.heap.size w w' ∧ mapF R C m t r w' := by
  refine (searched_any R C m t q0 w hm ht hR hC hq).mono ?_
  rintro e w' ⟨rfl, L, V, a, K, h1, h2, h3, h4⟩
  obtain ⟨i, hi, e⟩ := mem_getD [] h2
  exact ⟨_, rfl, h4, w.heap.size + 2, L, V, a, K, i, rfl, h1, hi, e, h3⟩
set_option maxHeartbeats 2000000 in
theorem implPathTo_any (v u : Value) (m l : List (List Int)) (w : World) (hin : InMat w v m) (hin2 : InMat w u l) :
    Calls Try.prog 11 #[v, u] w (PathRes m l w) := by
  have HSS := hide (fun w hin hin2 => implSameB_any v u m l w hin hin2)
  have HI := hide hin; have HI2 := hide hin2
  cases hs : sameB m l with
  | false =>
    have HF := hide (show pathB m l = false by unfold pathB; rw [hs]; rfl)
    have HS := hide hs
    clear hs hin hin2 HSS
    go_enter Try.func11, Try.ntmps11
    go_wp2_with ((with_reducible refine (implSameB_any v u m l _ HI.out HI2.out).mono ?_); rw [HS.out]; rintro e w1 ⟨rfl, hb⟩)
    go_ret2
    exact pathRes_no HF.out hb
  | true =>
    obtain ⟨R, C, f, g, rfl, rfl, hI, hJ, hsf⟩ := sameB_yes hs
    have HS := hide hs
    have hR := hI.r2; have hC := hI.c2; have hR1 := hI.r1; have hC1 := hI.c1
    have HP : Hid (pathB (mkM R C f) (mkM R C g) = (decide (R ≤ 4) && decide (C ≤ 4))) := hide (by unfold pathB; rw [hs, mkM_len, width_mk hI, Bool.true_and])
    obtain ⟨g0, o0, c0, rfl, hg0, hcell⟩ := inMat_img hin (by omega) (by omega)
    obtain ⟨g2, o2, k2, q2, hg2, -⟩ := hcell 0 (by omega)
    rw [Nat.add_zero] at q2
    have HIMG := hide hI; have HJMG := hide hJ; have HSF := hide hsf
    have hRI : (0 : Int) < R := by omega
    obtain ⟨q0, hq0, -⟩ := joined _ f g (Nat.le_refl _) hI hJ hsf
    have HQ0 := hide hq0
    clear hs hin hin2 hcell HSS hsf hq0
    by_cases h4 : R ≤ 4
    · by_cases h5 : C ≤ 4
      · have HF := hide (show pathB (mkM R C f) (mkM R C g) = true by rw [HP.out]; simp [h4, h5])
        have h4I : ¬ ((4 : Int) < R) := by omega
        have h5I : ¬ ((4 : Int) < C) := by omega
        have HMS := hide (fun w2 => map_search (q0 := q0) w2 ⟨f, rfl, hI⟩ ⟨g, rfl, hJ⟩ h4 h5 HQ0.out)
        have HWM := hide (fun u w2 hb h => way_map (t := mkM R C g) ⟨f, rfl, hI⟩ h4 h5 w.heap.size u w2 hb h)
        rw [imgC_mk, imgC_mk] at HMS
        rw [imgC_mk] at HWM
        have QC := fun w1 (hb : Below w.heap.size w w1) => below_cell hb hg0 q2
        clear h4 h5 hI hJ
        go_enter Try.func11, Try.ntmps11
        go_wp2_with (first | ((with_reducible refine (implSameB_any _ u _ _ _ HI.out HI2.out).mono ?_); rw [HS.out]; rintro e w1 ⟨rfl, hb⟩; have qc := QC _ hb; clear QC; have B1 := hide hb; have I1 := hide (inMat_below HI.out hb); have J1 := hide (inMat_below HI2.out hb); clear hb) | ((with_reducible refine (imageOf_yes _ R C f _ I1.out HIMG.out).mono ?_); rintro e w2 ⟨rfl, hb⟩; have B2 := hide (B1.out.trans (hb.mono B1.out.size)); have J2 := hide (inMat_below J1.out hb); clear hb I1 J1 B1 qc) | ((with_reducible refine wpList_allocVec 25 6 rfl rfl rfl Try.zeroImg ?_); intro w3 k3 b3 s3) | ((with_reducible refine wpList_storeVec k3 rfl (.tmp 6) (.tmp 29) rfl rfl rfl Try.sizeImg ?_); intro w4 k4 g4 s4; have bb := b3.trans (grown_below g4 (fun k hk => by cases hk; exact Nat.le_refl _) b3.size); have B3 := hide (B2.out.trans (bb.mono B2.out.size)); have J3 := hide (inMat_below J2.out bb); have K3 := hide k4; clear k3 b3 s3 k4 g4 s4 bb B2 J2) | ((with_reducible refine (imageOf_yes u R C g _ J3.out HJMG.out).mono ?_); rintro e w5 ⟨rfl, hb⟩; have B5 := hide (B3.out.trans (hb.mono B3.out.size)); have K5 := hide (blk_below K3.out hb); clear hb J3 B3 K3) | ((with_reducible refine wpList_allocVec 25 8 rfl rfl rfl Try.zeroImg ?_); intro w6 k6 b6 s6) | ((with_reducible refine wpList_storeVec k6 rfl (.tmp 8) (.tmp 34) rfl rfl rfl Try.sizeImg ?_); intro w7 k7 g7 s7; have bb := b6.trans (grown_below g7 (fun k hk => by cases hk; exact Nat.le_refl _) b6.size); have B7 := hide (B5.out.trans (bb.mono B5.out.size)); have K7 := hide (blk_below K5.out bb); have N7 := hide k7; clear k6 b6 s6 k7 g7 s7 bb B5 K5))
        obtain ⟨fs, hfs⟩ : ∃ fs : List FactP, fs = [isV (.agg (vec 25 (imgF R C f))), isV (.agg (vec 25 (imgF R C g))), mapF R C (mkM R C f) (mkM R C g), isV (.agg (vec 25 (imgF R C g))), wayF w.heap.size (mkM R C f) (mkM R C g), wayF w.heap.size (mkM R C f) (mkM R C g)] := ⟨_, rfl⟩
        have hst : ∀ f ∈ fs, StableP f := by
          rw [hfs]; intro f hf
          simp only [List.mem_cons, List.not_mem_nil, or_false] at hf
          rcases hf with rfl | rfl | rfl | rfl | rfl | rfl <;> first | exact stable_v _ | exact stable_mapF _ _ _ _ | exact stable_wayF _ _ _
        subst hfs
        refine wp_region_tail (S := fun w2 => Below w7.heap.size w7 w2) [isV (.agg (vec 25 (imgF R C f))), isV (.agg (vec 25 (imgF R C g))), mapF R C (mkM R C f) (mkM R C g), isV (.agg (vec 25 (imgF R C g))), wayF w.heap.size (mkM R C f) (mkM R C g), wayF w.heap.size (mkM R C f) (mkM R C g)] [(6, .pointer (some ⟨w2.heap.size, 0, none⟩)), (8, .pointer (some ⟨w5.heap.size, 0, none⟩))] _ _ 6 (by kernel_rfl) rfl rfl (by kernel_rfl) (by kernel_rfl) rfl (by kernel_rfl) ?base (below_drew (Below.refl _ _)) ?ob rfl ?fin
        case base =>
          intro t v ht
          simp only [List.lookup_cons, List.lookup_nil] at ht
          repeat' split at ht
          all_goals first | (cases ht; done) | (obtain rfl := Option.some.inj ht; rename_i hh; obtain rfl := eq_of_beq hh; rfl)
        case ob =>
          exact ⟨obt_one (.agg (vec 25 (imgF R C f))) rfl rfl (srt_b 6 rfl) (fun ρ w2 hS hx => exec_loadVec rfl hx (blk_below K7.out hS) Try.underlying65 Try.sizeImg),
            obt_one (.agg (vec 25 (imgF R C g))) rfl rfl (srt_b 8 rfl) (fun ρ w2 hS hx => exec_loadVec rfl hx (blk_below N7.out hS) Try.underlying65 Try.sizeImg),
            obt_call hst [.agg (vec 25 (imgF R C f)), .agg (vec 25 (imgF R C g))] rfl Try.func50 (by kernel_rfl) (by kernel_rfl) rfl ⟨(srt_j 0 rfl (by kernel_rfl) rfl), (srt_j 1 rfl (by kernel_rfl) rfl), trivial⟩ (fun w2 hS => (HMS.out w2).mono fun e w3 ⟨r, q1, q2, q3⟩ => ⟨r, q1, hS.trans (q2.mono hS.size), q2, q3⟩),
            obt_one (.agg (vec 25 (imgF R C g))) rfl rfl (srt_b 8 rfl) (fun ρ w2 hS hx => exec_loadVec rfl hx (blk_below N7.out hS) Try.underlying65 Try.sizeImg),
            obt_call_l hst 2 rfl Try.func51 (by kernel_rfl) (by kernel_rfl) rfl rfl (by kernel_rfl) (srt_j 3 rfl (by kernel_rfl) rfl) (fun v w2 hS hv => (HWM.out v w2 (Nat.le_trans B7.out.size hS.size) hv).mono fun e w3 ⟨r, q1, q2, q3⟩ => ⟨r, q1, hS.trans (q2.mono hS.size), q2, q3⟩),
            obt_from 4 rfl rfl (by kernel_rfl) (fun ρ w2 u hS hx hf => ⟨u, (by unfold execOp; simp only [hx]; rfl), hf⟩),
            trivial⟩
        case fin =>
          intro a' w' h1 h2 h3 hS h4 K hK
          refine tail_assign (v := .bool true) rfl rfl ?_ K hK
          obtain ⟨P, hP1, hP2⟩ := h4 5 4 rfl (by decide)
          go_wp2
          refine bodyPost_ret (results_tmp2 rfl _ _ _) ?_ ⟨a'.tmps.getD 4 undef, P, ?_, hP1, B7.out.trans (hS.mono B7.out.size), fun _ => hP2, fun e => (by rw [HF.out] at e; cases e)⟩
          · rfl
          · rw [HF.out]; simp [Array.getD_eq_getD_getElem?, h1]
      · have HF := hide (show pathB (mkM R C f) (mkM R C g) = false by rw [HP.out]; simp [h5])
        have h4I : ¬ ((4 : Int) < R) := by omega
        have h5I : (4 : Int) < C := by omega
        have QC := fun w1 (hb : Below w.heap.size w w1) => below_cell hb hg0 q2
        clear h4 h5 hI hJ
        go_enter Try.func11, Try.ntmps11
        go_wp2_with ((with_reducible refine (implSameB_any _ u _ _ _ HI.out HI2.out).mono ?_); rw [HS.out]; rintro e w1 ⟨rfl, hb⟩; have qc := QC _ hb; clear QC)
        go_ret2
        exact pathRes_no HF.out hb
    · have HF := hide (show pathB (mkM R C f) (mkM R C g) = false by rw [HP.out]; simp [h4])
      have h4I : (4 : Int) < R := by omega
      clear h4 hI hJ
      go_enter Try.func11, Try.ntmps11
      go_wp2_with ((with_reducible refine (implSameB_any _ u _ _ _ HI.out HI2.out).mono ?_); rw [HS.out]; rintro e w1 ⟨rfl, hb⟩)
      go_ret2
      exact pathRes_no HF.out hb

/-- What NextTo answers. -/
def NextRes (m l : List (List Int)) (w : World) (e : Ending) (w' : World) : Prop :=
  ∃ P : List Sw, e = .returned (.tuple #[swV (P.headD zeroSw), .bool (!P.isEmpty)]) ∧ Below w.heap.size w w' ∧ (pathB m l = true → Best m l P) ∧ (pathB m l = false → P = [])
theorem results_next {tmps : Array Value} {g : Nat} {s : Sw} {ok : Value} {w : World} (h4 : tmps.getD 4 undef = .pointer (some ⟨g, 0, none⟩)) (h5 : tmps.getD 5 undef = ok) (hs : SwAt w g s) :
    (results Try.f14 tmps).run Try.prog w = .ok (.tuple #[swV s, ok]) w := by
  have hl := run_loadVar_row (P := Try.prog) w g 32 32 (swA s) (0, 0) _ hs Try.underlying32 rfl Try.sizeSw
  rw [Array.getD_eq_getD_getElem?] at h4 h5
  simp [results, h4, h5, asAddr, hl, swV, Result.andThen]
set_option maxHeartbeats 2000000 in
theorem implNextTo_any (v u : Value) (m l : List (List Int)) (w : World) (hin : InMat w v m) (hin2 : InMat w u l) :
    Calls Try.prog 14 #[v, u] w (NextRes m l w) := by
  have HI := hide hin; have HI2 := hide hin2
  clear hin hin2
  go_enter Try.func14, Try.ntmps14
  go_wp2_with ((with_reducible refine wpList_allocSw 4 rfl rfl rfl ?_); intro w1 h1 b1 s1)
  refine (implPathTo_any v u m l _ (inMat_below HI.out b1) (inMat_below HI2.out b1)).mono ?_
  rintro e w2 ⟨pv, P, rfl, ho, hb, hy, hn⟩
  have HS := hide (swAt_below h1 hb); have HB := hide (b1.trans (hb.mono b1.size)); have HO := hide ho; have HY := hide hy; have HN := hide hn
  have HLO : Hid (w.heap.size < w1.heap.size) := hide (by omega)
  obtain ⟨pa, pc, rfl⟩ := ownA_slice ho
  clear hb hy hn h1 b1 s1
  cases P with
  | nil =>
    clear ho
    go_wp2_with (refine wpList_storeSw HS.out zeroSw rfl (.tmp 4) (.tmp 17) rfl rfl rfl ?_; intro w3 h3 g3 s3)
    have HB3 := hide (HB.out.trans (grown_below g3 (fun k hk => by cases hk; exact Nat.le_refl _) HB.out.size))
    refine bodyPost_ret (results_next rfl rfl h3) rfl ⟨[], rfl, HB3.out, HY.out, fun _ => rfl⟩
  | cons s P =>
    obtain ⟨gp, pc2, e, hg1, -⟩ := ownA_some ho (Nat.succ_pos _)
    obtain rfl : pa = some ⟨gp, 0, none⟩ := by injection e
    have hc := ownSws_cells ho 0 (Nat.succ_pos _)
    have hlen : ((s :: P).length : Int) = (P.length : Int) + 1 := by simp
    have HG : Hid (w1.heap.size ≤ gp) := hide hg1
    simp only [List.getElem_cons_zero, Nat.zero_mul] at hc
    clear ho e hg1
    go_wp2_with (first | (with_reducible refine wpList_loadSwC hc 20 rfl rfl _ rfl rfl ?_) | ((with_reducible refine wpList_storeSw HS.out s rfl (.tmp 4) (.tmp 20) rfl rfl rfl ?_); intro w3 h3 g3 s3))
    have HB3 := hide (HB.out.trans (grown_below g3 (fun k hk => by cases hk; exact Nat.le_refl _) HB.out.size))
    refine bodyPost_ret (results_next rfl rfl h3) rfl ⟨s :: P, rfl, HB3.out, HY.out, HN.out⟩
end Go.Proofs.Ytpfaaglaeholbaa
/-
  l06Find and l06Small of the model.
-/
namespace Go.Proofs.Ytpfaaglaeholbaa
open Go.RowKit
set_option maxRecDepth 100000

/-- A list of lists of lists that reads. -/
def InImgs (w : World) (v : Value) (L : List (List (List Int))) : Prop :=
  ∃ a c, v = .slice a L.length c ∧ L.length ≤ maxLen ∧ (L.length = 0 ∨ ∃ g o, a = some ⟨g, o, none⟩ ∧ g < w.heap.size ∧ ∀ i, (h : i < L.length) → ∃ u, w.cell? ⟨g, o + i, none⟩ = some u ∧ InMat w u L[i])
theorem inImgs_below {w w' : World} {v : Value} {L : List (List (List Int))} (h : InImgs w v L) (hb : Below w.heap.size w w') : InImgs w' v L := by
  obtain ⟨a, c, hv, hm, hp⟩ := h
  refine ⟨a, c, hv, hm, ?_⟩
  rcases hp with h0 | ⟨g, o, ha, hg, hc⟩
  · exact .inl h0
  · refine .inr ⟨g, o, ha, Nat.lt_of_lt_of_le hg hb.size, fun i hi => ?_⟩
    obtain ⟨u, h1, h2⟩ := hc i hi
    exact ⟨u, below_cell hb hg h1, inMat_below h2 hb⟩
/-- What l06Find answers. -/
def FindRes (L : List (List (List Int))) (m : List (List Int)) (w : World) (e : Ending) (w' : World) : Prop :=
  ∃ r : Int, e = .returned (.int .i64 r) ∧ Below w.heap.size w w' ∧ ((r = -1 ∧ m ∉ L) ∨ ∃ k : Nat, r = k ∧ ∃ h : k < L.length, L[k] = m)
set_option maxHeartbeats 1000000 in
theorem l06Find_any (v u : Value) (L : List (List (List Int))) (m : List (List Int)) (w : World) (hin : InImgs w v L) (hin2 : InMat w u m) :
    Calls Try.prog 66 #[v, u] w (FindRes L m w) := by
  obtain ⟨a, c, rfl, hmax, hp⟩ := hin
  unfold maxLen at hmax
  have HI2 := hide hin2; have HP := hide hp
  obtain ⟨n, hn⟩ : ∃ n, n = L.length := ⟨_, rfl⟩
  have HN := hide hn
  rw [← hn] at hmax ⊢
  clear hin2 hp hn
  go_enter Try.func66, Try.ntmps66
  go_wp2
  go_loopg [9] n (fun g i w' => ∃ k : Nat, k + g = n ∧ i = .int .i64 k ∧ (∀ t, (h : t < L.length) → t < k → L[t] ≠ m) ∧ Below w.heap.size w w')
  case atStart => exact ⟨0, by omega, rfl, fun t _ h => absurd h (Nat.not_lt_zero _), Below.refl _ _⟩
  case round =>
    obtain ⟨k, hkg, rfl, hall, hb⟩ := hrel
    have HALL := hide hall; have HB := hide hb
    clear hall hb
    cases gk with
    | zero =>
      obtain rfl : k = n := by omega
      have HNO : Hid (m ∉ L) := hide fun h => by
        obtain ⟨i, hi, e⟩ := List.getElem_of_mem h
        exact HALL.out i hi (by rw [HN.out]; exact hi) e
      go_wp2
      go_ret
      exact ⟨-1, rfl, HB.out, .inl ⟨rfl, HNO.out⟩⟩
    | succ g =>
      have hk : k < n := by omega
      have hkI : (k : Int) < n := by omega
      have hkL : k < L.length := by rw [← HN.out]; exact hk
      obtain ⟨ga, oa, rfl, hga, hc⟩ := HP.out.resolve_left (by omega)
      obtain ⟨ux, hx, hux⟩ := hc k hkL
      have hx2 := below_cell HB.out hga hx
      have HUX := hide (inMat_below hux HB.out); have HU := hide (inMat_below HI2.out HB.out)
      obtain ⟨x, hxx⟩ : ∃ x, x = L[k] := ⟨_, rfl⟩
      have HX := hide hxx
      rw [← hxx] at HUX
      clear hc hx hux hxx
      cases he : x == m with
      | true =>
        have HE := hide he
        go_wp2_with ((with_reducible refine (specSameImage_any ux u x m _ HUX.out HU.out).mono ?_); rw [HE.out]; rintro e w3 ⟨rfl, hb3⟩)
        go_ret
        exact ⟨k, rfl, HB.out.trans (hb3.mono HB.out.size), .inr ⟨k, rfl, hkL, by rw [← HX.out]; exact eq_of_beq HE.out⟩⟩
      | false =>
        have HE := hide he
        go_wp2_with ((with_reducible refine (specSameImage_any ux u x m _ HUX.out HU.out).mono ?_); rw [HE.out]; rintro e w3 ⟨rfl, hb3⟩)
        have HB3 := hide (HB.out.trans (hb3.mono HB.out.size))
        clear hb3
        go_roundg g
        case measure => exact Nat.lt_succ_self g
        case rel =>
          refine ⟨k + 1, by omega, by go_num, fun t h ht e => ?_, HB3.out⟩
          by_cases e2 : t = k
          · subst e2
            have := HE.out
            rw [HX.out, e, beq_self_eq_true] at this
            cases this
          · exact HALL.out t h (by omega) e
set_option maxHeartbeats 1000000 in
theorem l06Small_any (v : Value) (R C : Nat) (f : Nat → Nat → Int) (w : World) (hin : InMat w v (mkM R C f)) (hI : Img R C f) :
    Calls Try.prog 64 #[v] w fun e w' => e = .returned (.bool (decide (R ≤ 4) && decide (C ≤ 4))) ∧ Below w.heap.size w w' := by
  have hR := hI.r2; have hC := hI.c2; have hR1 := hI.r1; have hC1 := hI.c1
  obtain ⟨g0, o0, c0, rfl, hg0, hcell⟩ := inMat_img hin (by omega) (by omega)
  obtain ⟨g2, o2, k2, q2, hg2, -⟩ := hcell 0 (by omega)
  rw [Nat.add_zero] at q2
  have hRI : (0 : Int) < R := by omega
  clear hin hcell hI
  by_cases h4 : R ≤ 4
  · have h4I : (R : Int) ≤ 4 := by omega
    go_enter Try.func64, Try.ntmps64
    go_wp2
    go_ret
    exact ⟨ret_bool (by rw [Bool.eq_iff_iff]; simp; omega), Below.refl _ _⟩
  · have h4I : ¬ ((R : Int) ≤ 4) := by omega
    go_enter Try.func64, Try.ntmps64
    go_wp2
    go_ret
    exact ⟨ret_bool (by simp), Below.refl _ _⟩
end Go.Proofs.Ytpfaaglaeholbaa
/-
  PathTo and NextTo of the model, out of what its search leaves.
-/
namespace Go.Proofs.Ytpfaaglaeholbaa
open Go.RowKit
set_option maxRecDepth 100000

/-- Lists of switches of the call's own, one behind the other. -/
def OwnWays (w : World) (lo : Nat) (v : Value) (V : List (List Sw)) : Prop :=
  ∃ a c, v = .slice a V.length c ∧ (V.length = 0 ∨ ∃ g, a = some ⟨g, 0, none⟩ ∧ g < w.heap.size ∧ ∀ i, (h : i < V.length) → ∃ u, w.cell? ⟨g, i, none⟩ = some u ∧ OwnSws w lo u V[i])
theorem ownWays_below {w w' : World} {lo : Nat} {v : Value} {V : List (List Sw)} (h : OwnWays w lo v V) (hb : Below w.heap.size w w') : OwnWays w' lo v V := by
  obtain ⟨a, c, hv, hp⟩ := h
  refine ⟨a, c, hv, ?_⟩
  rcases hp with h0 | ⟨g, ha, hg, hc⟩
  · exact .inl h0
  · refine .inr ⟨g, ha, Nat.lt_of_lt_of_le hg hb.size, fun i hi => ?_⟩
    obtain ⟨u, h1, h2⟩ := hc i hi
    exact ⟨u, below_cell hb hg h1, ownSws_below h2 hb⟩
/-- What the model's search leaves. -/
def VisitRes (m : List (List Int)) (w : World) (e : Ending) (w' : World) : Prop :=
  ∃ vl vw L V K, e = .returned (.tuple #[vl, vw]) ∧ InImgs w' vl L ∧ OwnWays w' w.heap.size vw V ∧ Bfs m L V L.length K ∧ Below w.heap.size w w'
@[reducible] def VisitAt : Prop := ∀ (v : Value) (R C : Nat) (f : Nat → Nat → Int) (w : World), InMat w v (mkM R C f) → Img R C f → R ≤ 4 → C ≤ 4 → Calls Try.prog 65 #[v] w (VisitRes (mkM R C f) w)
set_option maxHeartbeats 2000000 in
theorem specPathTo_any (hv : VisitAt) (v u : Value) (m l : List (List Int)) (w : World) (hin : InMat w v m) (hin2 : InMat w u l) :
    Calls Try.prog 23 #[v, u] w (PathRes m l w) := by
  have HV := hide hv
  have HI := hide hin; have HI2 := hide hin2
  cases hs : sameB m l with
  | false =>
    have HF := hide (show pathB m l = false by unfold pathB; rw [hs]; rfl)
    have HS := hide hs
    clear hs hin hin2 hv HV
    go_enter Try.func23, Try.ntmps23
    go_wp2_with ((with_reducible refine (specSameB_any v u m l _ HI.out HI2.out).mono ?_); rw [HS.out]; rintro e w1 ⟨rfl, hb⟩)
    go_ret2
    exact pathRes_no HF.out hb
  | true =>
    obtain ⟨R, C, f, g, rfl, rfl, hI, hJ, hsf⟩ := sameB_yes hs
    have HS := hide hs
    have HP : Hid (pathB (mkM R C f) (mkM R C g) = (decide (R ≤ 4) && decide (C ≤ 4))) := hide (by unfold pathB; rw [hs, mkM_len, width_mk hI, Bool.true_and])
    have HIMG := hide hI
    obtain ⟨q0, hq0, -⟩ := joined _ f g (Nat.le_refl _) hI hJ hsf
    have HQ0 := hide hq0
    clear hs hin hin2 hsf hq0 hv hI hJ
    cases hsm : (decide (R ≤ 4) && decide (C ≤ 4)) with
    | false =>
      have HF := hide (show pathB (mkM R C f) (mkM R C g) = false by rw [HP.out, hsm])
      have HSM := hide hsm
      clear hsm
      go_enter Try.func23, Try.ntmps23
      go_wp2_with (first | ((with_reducible refine (specSameB_any v u _ _ _ HI.out HI2.out).mono ?_); rw [HS.out]; rintro e w1 ⟨rfl, hb⟩; have I1 := hide (inMat_below HI.out hb); have B1 := hide hb; clear hb) | ((with_reducible refine (l06Small_any v R C f _ I1.out HIMG.out).mono ?_); rw [HSM.out]; rintro e w2 ⟨rfl, hb⟩; have B2 := hide (B1.out.trans (hb.mono B1.out.size))))
      go_ret2
      exact pathRes_no HF.out B2.out
    | true =>
      have HF := hide (show pathB (mkM R C f) (mkM R C g) = true by rw [HP.out, hsm])
      have HSM := hide hsm
      simp only [Bool.and_eq_true, decide_eq_true_eq] at hsm
      have H4 := hide hsm
      clear hsm
      go_enter Try.func23, Try.ntmps23
      go_wp2_with (first | ((with_reducible refine (specSameB_any v u _ _ _ HI.out HI2.out).mono ?_); rw [HS.out]; rintro e w1 ⟨rfl, hb⟩; have I1 := hide (inMat_below HI.out hb); have J1 := hide (inMat_below HI2.out hb); have B1 := hide hb; clear hb) | ((with_reducible refine (l06Small_any v R C f _ I1.out HIMG.out).mono ?_); rw [HSM.out]; rintro e w2 ⟨rfl, hb⟩; have B2 := hide (B1.out.trans (hb.mono B1.out.size)); have I2 := hide (inMat_below I1.out hb); have J2 := hide (inMat_below J1.out hb); clear hb I1 J1 B1) | ((with_reducible refine (HV.out v R C f _ I2.out HIMG.out H4.out.1 H4.out.2).mono ?_); rintro e w3 ⟨vl, vw, L, V, K, rfl, hl, hw, hbf, hb⟩; have B3 := hide (B2.out.trans (hb.mono B2.out.size)); have J3 := hide (inMat_below J2.out hb); have L3 := hide hl; have W3 := hide hw; have HBF := hide hbf; have HB2 := hide B2.out.size; clear hb hl hw hbf I2 J2 B2))
      refine (l06Find_any vl u L (mkM R C g) _ L3.out J3.out).mono ?_
      rintro e w4 ⟨r, rfl, hb, hr⟩
      have hin := bfs_all HBF.out q0 HQ0.out
      rcases hr with ⟨rfl, hno⟩ | ⟨k, rfl, hk, hkl⟩
      · exact absurd hin hno
      · have hkV : k < V.length := by rw [HBF.out.len]; exact hk
        have B4 := hide (B3.out.trans (hb.mono B3.out.size))
        obtain ⟨a, c, rfl, hp⟩ := ownWays_below W3.out hb
        obtain ⟨gw, rfl, hgw, hc⟩ := hp.resolve_left (by omega)
        obtain ⟨x, hx, hox⟩ := hc k hkV
        have HOX := hide (ownSws_base hox HB2.out)
        have HBEST : Hid (Best (mkM R C f) (mkM R C g) V[k]) := hide (by
          have := HBF.out.best k hk
          rwa [show L.getD k [] = mkM R C g by rw [List.getD_eq_getElem?_getD, List.getElem?_eq_getElem hk]; exact hkl, show V.getD k [] = V[k] by rw [List.getD_eq_getElem?_getD, List.getElem?_eq_getElem hkV]; rfl] at this)
        obtain ⟨P, hP⟩ : ∃ P, P = V[k] := ⟨_, rfl⟩
        obtain ⟨N, hN⟩ : ∃ N, N = V.length := ⟨_, rfl⟩
        rw [← hP] at HOX HBEST
        rw [← hN]
        have hkN : k < N := by rw [hN]; exact hkV
        have hkI : (k : Int) < N := by omega
        clear hb hin hk hkl hkV hp hc hox hP hN HBF L3 W3 J3
        go_wp2
        go_ret2
        exact ⟨x, P, by rw [HF.out]; rfl, HOX.out, B4.out, fun _ => HBEST.out, fun e => by rw [HF.out] at e; cases e⟩
theorem results_nextS {tmps : Array Value} {g : Nat} {s : Sw} {ok : Value} {w : World} (h4 : tmps.getD 4 undef = .pointer (some ⟨g, 0, none⟩)) (h5 : tmps.getD 5 undef = ok) (hs : SwAt w g s) :
    (results Try.f19 tmps).run Try.prog w = .ok (.tuple #[swV s, ok]) w := by
  have hl := run_loadVar_row (P := Try.prog) w g 32 32 (swA s) (0, 0) _ hs Try.underlying32 rfl Try.sizeSw
  rw [Array.getD_eq_getD_getElem?] at h4 h5
  simp [results, h4, h5, asAddr, hl, swV, Result.andThen]
set_option maxHeartbeats 2000000 in
theorem specNextTo_any (hv : VisitAt) (v u : Value) (m l : List (List Int)) (w : World) (hin : InMat w v m) (hin2 : InMat w u l) :
    Calls Try.prog 19 #[v, u] w (NextRes m l w) := by
  have HI := hide hin; have HI2 := hide hin2
  clear hin hin2
  go_enter Try.func19, Try.ntmps19
  go_wp2_with ((with_reducible refine wpList_allocSw 4 rfl rfl rfl ?_); intro w1 h1 b1 s1)
  refine (specPathTo_any hv v u m l _ (inMat_below HI.out b1) (inMat_below HI2.out b1)).mono ?_
  rintro e w2 ⟨pv, P, rfl, ho, hb, hy, hn⟩
  have HS := hide (swAt_below h1 hb); have HB := hide (b1.trans (hb.mono b1.size)); have HY := hide hy; have HN := hide hn
  obtain ⟨pa, pc, rfl⟩ := ownA_slice ho
  clear hv hb hy hn h1 b1 s1
  have fin : ∀ w3 : World, w2.grownBy w3 (some w.heap.size) → Below w.heap.size w w3 := fun w3 g3 => HB.out.trans (grown_below g3 (fun k hk => by cases hk; exact Nat.le_refl _) HB.out.size)
  have FIN := hide fin
  clear fin
  cases hp : pathB m l with
  | false =>
    obtain rfl := HN.out hp
    have HP := hide hp
    clear hp ho
    go_wp2_with (refine wpList_storeSw HS.out zeroSw rfl (.tmp 4) (.tmp 21) rfl rfl rfl ?_; intro w3 h3 g3 s3)
    refine bodyPost_ret (results_nextS rfl rfl h3) rfl ⟨[], rfl, FIN.out w3 g3, fun e => (by rw [HP.out] at e; cases e), fun _ => rfl⟩
  | true =>
    have HBEST := hide (HY.out hp)
    have HP := hide hp
    clear hp
    cases P with
    | nil =>
      clear ho
      go_wp2_with (refine wpList_storeSw HS.out zeroSw rfl (.tmp 4) (.tmp 21) rfl rfl rfl ?_; intro w3 h3 g3 s3)
      refine bodyPost_ret (results_nextS rfl rfl h3) rfl ⟨[], rfl, FIN.out w3 g3, fun _ => HBEST.out, fun _ => rfl⟩
    | cons s P =>
      obtain ⟨gp, pc2, e, -⟩ := ownA_some ho (Nat.succ_pos _)
      obtain rfl : pa = some ⟨gp, 0, none⟩ := by injection e
      have hc := ownSws_cells ho 0 (Nat.succ_pos _)
      have hlen : ((s :: P).length : Int) = (P.length : Int) + 1 := by simp
      simp only [List.getElem_cons_zero, Nat.zero_mul] at hc
      clear ho e
      go_wp2_with (first | (with_reducible refine wpList_loadSwC hc 24 rfl rfl _ rfl rfl ?_) | ((with_reducible refine wpList_storeSw HS.out s rfl (.tmp 4) (.tmp 24) rfl rfl rfl ?_); intro w3 h3 g3 s3))
      refine bodyPost_ret (results_nextS rfl rfl h3) rfl ⟨s :: P, rfl, FIN.out w3 g3, fun _ => HBEST.out, HN.out⟩
end Go.Proofs.Ytpfaaglaeholbaa
/-
  PutCell of the model.
-/
namespace Go.Proofs.Ytpfaaglaeholbaa
open Go.RowKit

set_option maxRecDepth 100000 in
set_option maxHeartbeats 1000000 in
theorem l02Copy_any (v : Value) (R C : Nat) (f : Nat → Nat → Int) (w : World) (hin : InMat w v (mkM R C f)) (hI : Img R C f) :
    Calls Try.prog 45 #[v] w (MatRes (mkM R C f) w) := by
  have hR1 := hI.r1; have hC1 := hI.c1; have hR := hI.r2; have hC := hI.c2
  obtain ⟨g, o, c, rfl, hg, hcell⟩ := inMat_img hin (by omega) (by omega)
  have HC := hide hcell
  clear hin hI hcell
  go_enter Try.func45, Try.ntmps45
  go_wp2
  go_loopw [3, 9] (fun u i w' => ∃ (y : Nat) (v : Value), y ≤ R ∧ i = .int .i64 y ∧ v = u ∧ OwnMat w' w.heap.size w'.heap.size v (mkM y C f) ∧ Below w.heap.size w w') (fun _ i _ => R - (intOf i).toNat)
  case atStart => exact ⟨0, _, by omega, rfl, rfl, ⟨[], World.ownsRow_made (base := w.heap.size) w #[] 0 (Nat.le_refl _) (Nat.zero_le _) rfl, (fun k e => by simp [Value.ownBlock] at e; subst e; simp), (fun i h => absurd h (Nat.not_lt_zero _)), fun i j _ h => absurd h (Nat.not_lt_zero _)⟩, (Below.refl _ _).alloc (Nat.le_refl _) _⟩
  case round =>
    obtain ⟨y, v, hy, rfl, rfl, hown, hb⟩ := hrel
    have HO := hide hown; have HB := hide hb
    clear hown hb
    by_cases hlt : y < R
    · have hyI : (y : Int) < R := by omega
      have hsz := HB.out.size
      obtain ⟨g', o', c', hx, hg', hcc⟩ := HC.out y hlt
      have hx := below_cell HB.out hg hx
      have HCC : Hid (∀ j, (h : j < (rowF C (f y)).length) → (wr.alloc (.cells #[] 3)).cell? ⟨g', o' + j, none⟩ = some (.int .i64 (rowF C (f y))[j])) := hide (fun j h => by
        rw [rowF_at, below_cell (w := wr) ((Below.refl _ _).alloc (Nat.le_refl _) _) (by omega) (below_cell HB.out hg' (hcc j (by rw [rowF_len] at h; exact h)))])
      have HE : Hid ((wr.alloc (.cells #[] 3)).ownsRow wr.heap.size 3 1 (.slice (some ⟨wr.heap.size, 0, none⟩) 0 0) 0 []) := hide (World.ownsRow_made (base := wr.heap.size) wr #[] 0 (Nat.le_refl _) (Nat.zero_le _) rfl)
      have HLN := hide (rowF_len C (f y))
      have HB1 := hide (HB.out.alloc hsz (.cells #[] 3))
      have HW1 := hide (below_cell (w := wr) (w' := wr.alloc (.cells #[] 3)) ((Below.refl _ _).alloc (Nat.le_refl _) _) (show g < wr.heap.size by omega) hx)
      have HO1 := hide (ownMat_below HO.out ((Below.refl wr.heap.size wr).alloc (Nat.le_refl _) (.cells #[] 3)))
      have hs0 : (wr.alloc (.cells #[] 3)).heap.size = wr.heap.size + 1 := by simp
      have HS0 := hide hs0
      clear hcc hs0
      go_wp2_with (first | (refine wpList_appendRow 16 rfl HE.out (rowF C (f y)) g' o' c' (.int .i64 0) rfl _ _ rfl Try.underlying44 Try.infoInt rfl (by decide) rfl (by rw [HLN.out]; rfl) HCC.out (by rw [HLN.out]; omega) (by rw [HS0.out]; omega) ?_; intro u2 w2 hu2 hb2 hg2; rw [HLN.out, Nat.zero_add, List.nil_append] at hu2; obtain ⟨ua, uc, rfl⟩ := own_slice hu2; have HU := hide hu2; have O2 := hide (ownMat_within HO1.out (within_grown (lo := wr.heap.size) (hi := wr.heap.size + 1) hg2 fun k e => by simp [Value.ownBlock] at e; omega) (.inl (Nat.le_refl _))); have B2 := hide (HB1.out.trans (hb2.mono hsz)); have hs2 := hb2.size; rw [HS0.out] at hs2; clear hu2 hb2 hg2; obtain ⟨vs, hv, hvh, hvr, hva⟩ := O2.out; have hvl := mkM_len y C f; rw [hvl] at hv; have HV := hide hv; have HVR := hide hvr; have HVA := hide hva; clear hv hvh hvr hva hvl) | (at_builtin; refine wpList_push HV.out (.slice ua C uc) (.slice none 0 0) rfl _ _ rfl Try.underlying23 Try.infoInts rfl (by decide) rfl rfl rfl (by omega) (by omega) ?_; intro v' w6 hown1 hb1 hg1))
      go_roundw
      case rel =>
        have hs6 := hb1.size
        have hp := ownMat_push (r := rowF C (f y)) (hi' := w6.heap.size) HVR.out HVA.out (by rw [mkM_len]; exact HV.out) (by rw [HLN.out]; exact HU.out) hsz (by omega) (by omega) hg1 (by rw [mkM_len]; exact hown1) (fun k e => (hown1.lt k e).2)
        rw [← mkM_succ] at hp
        exact ⟨y + 1, _, by omega, by go_num, rfl, hp, B2.out.trans (hb1.mono (by omega))⟩
      case measure => simp [intOf]; omega
    · obtain rfl : y = R := by omega
      go_wp2
      go_ret
      exact ⟨_, rfl, HO.out, HB.out⟩

theorem cellOk_in (c : Int) : decide (0 ≤ c ∧ c ≤ 1) = cellOk c := by
  unfold cellOk
  by_cases h0 : c = 0
  · subst h0; rfl
  · by_cases h1 : c = 1
    · subst h1; rfl
    · rw [decide_eq_false (by omega)]; simp [h0, h1]
theorem mkM_put (R C : Nat) (f : Nat → Nat → Int) (y x : Nat) (c : Int) : (mkM R C fun a b => if a = y ∧ b = x then c else f a b) = mkM R C (putM f y x c) := rfl
end Go.Proofs.Ytpfaaglaeholbaa
/-
  l06Apply of the model: an image after one of its switches.
-/
namespace Go.Proofs.Ytpfaaglaeholbaa
open Go.RowKit

/-- The cells after the first n of the four. -/
def stepM (f : Nat → Nat → Int) (a b c d : Nat) : Nat → Nat → Nat → Int
  | 0 => f
  | n + 1 => fun y x => if y = pickN a b (n / 2) ∧ x = pickN c d (n % 2) then 1 - f y x else stepM f a b c d n y x
theorem stepM_all (f : Nat → Nat → Int) (a b c d : Nat) : stepM f a b c d 4 = flipN f a b c d := by
  have e : stepM f a b c d 4 = fun y x => if y = b ∧ x = d then 1 - f y x else if y = b ∧ x = c then 1 - f y x else if y = a ∧ x = d then 1 - f y x else if y = a ∧ x = c then 1 - f y x else f y x := rfl
  rw [e]
  funext y x
  unfold flipN
  by_cases h1 : y = a <;> by_cases h2 : y = b <;> by_cases h3 : x = c <;> by_cases h4 : x = d <;> simp [h1, h2, h3, h4]
theorem stepM_cell {R C : Nat} {f : Nat → Nat → Int} (h : Img R C f) (a b c d : Nat) : ∀ n, Img R C (stepM f a b c d n)
  | 0 => h
  | n + 1 => ⟨h.r1, h.r2, h.c1, h.c2, fun y x hy hx => by
    have := h.cell y x hy hx
    have := (stepM_cell h a b c d n).cell y x hy hx
    unfold stepM
    split <;> omega⟩

/-- Two integers in a block. -/
def PairAt (w : World) (g a b : Nat) : Prop := w.heap[g]? = some (.cells #[.int .i64 (a : Int), .int .i64 (b : Int)] 3 (0, 0))
theorem pair_lt {w : World} {g a b : Nat} (h : PairAt w g a b) : g < w.heap.size := (Array.getElem?_eq_some_iff.1 h).1
theorem pair_below {w w' : World} {g a b : Nat} (h : PairAt w g a b) (hb : Below w.heap.size w w') : PairAt w' g a b := by
  unfold PairAt; rw [hb.block g (pair_lt h)]; exact h
theorem pair_set {w : World} {g a b : Nat} (h : PairAt w g a b) (p : Addr) (v : Value) (hne : g ≠ p.block) : PairAt (w.setCell p v) g a b := by
  unfold PairAt; rw [heap_setCell_other w p g v hne]; exact h
theorem pair_cell {w : World} {g a b : Nat} (h : PairAt w g a b) (i : Nat) (hi : i < 2) : w.cell? ⟨g, i, none⟩ = some (.int .i64 ((pickN a b i : Nat) : Int)) := by
  rw [cell_of_row w g i _ _ _ h]
  have : i = 0 ∨ i = 1 := by omega
  rcases this with rfl | rfl <;> rfl
set_option maxRecDepth 100000 in
set_option maxHeartbeats 4000000 in
theorem l06Apply_any (v : Value) (R C : Nat) (f : Nat → Nat → Int) (a b c d : Nat) (w : World) (hin : InMat w v (mkM R C f)) (hI : Img R C f) (ha : a < R) (hb : b < R) (hc : c < C) (hd : d < C) :
    Calls Try.prog 48 #[v, swV ⟨a, b, c, d⟩] w (MatRes (mkM R C (flipN f a b c d)) w) := by
  rw [← stepM_all]
  have hR := hI.r2; have hC := hI.c2; have hR1 := hI.r1; have hC1 := hI.c1
  have HPA : Hid (∀ i, pickN a b i < R) := hide fun i => by unfold pickN; split <;> omega
  have HPC : Hid (∀ i, pickN c d i < C) := hide fun i => by unfold pickN; split <;> omega
  have HSTEP : Hid (∀ n, stepM f a b c d (n + 1) = fun y x => if y = pickN a b (n / 2) ∧ x = pickN c d (n % 2) then 1 - f y x else stepM f a b c d n y x) := hide fun _ => rfl
  have HZERO : Hid (stepM f a b c d 0 = f) := hide rfl
  obtain ⟨G, hG⟩ : ∃ G, G = stepM f a b c d := ⟨_, rfl⟩
  rw [← hG] at HSTEP HZERO ⊢
  clear hG
  have HI := hide hin; have H := hide hI
  have HCELL := hide hI.cell
  obtain ⟨g0, o0, c0, rfl, hg0, hcell⟩ := inMat_img hin (by omega) (by omega)
  have HC := hide hcell
  obtain ⟨s, hs⟩ : ∃ s : Sw, s = ⟨a, b, c, d⟩ := ⟨_, rfl⟩
  have HSW := hide hs
  rw [← hs]
  clear hs hin hI hcell
  go_enter Try.func48, Try.ntmps48
  go_wp2_with (first | (with_reducible refine wpList_boxSw s 3 rfl rfl (.tmp 1) rfl rfl ?_; intro w0 hs0 b0 s0) | ((with_reducible refine (l02Copy_any _ R C f _ (inMat_below HI.out b0) H.out).mono ?_); rintro e w1 ⟨u, rfl, hu, hb1⟩; obtain ⟨g, cap, rfl⟩ := ownMat_some hu (by rw [mkM_len]; omega); rw [mkM_len] at hu ⊢; have hs1 := swAt_below hs0 hb1; have hb2 := b0.trans (hb1.mono b0.size); have hsz1 := hb1.size; obtain ⟨d0, d1, d2, d3⟩ := swAt_cells hs1; rw [HSW.out] at d0 d1 d2 d3))
  obtain ⟨w2, hw2⟩ : ∃ w2, w2 = w1.alloc (.cells #[.int .i64 (a : Int), .int .i64 (b : Int)] 3) := ⟨_, rfl⟩
  obtain ⟨gy, hgy⟩ : ∃ gy, gy = w1.heap.size := ⟨_, rfl⟩
  have hal := (Below.refl w1.heap.size w1).alloc (Nat.le_refl _) (.cells #[.int .i64 (a : Int), .int .i64 (b : Int)] 3)
  have HO := hide (ownMat_below hu hal)
  have HPY : Hid (PairAt (w1.alloc (.cells #[.int .i64 (a : Int), .int .i64 (b : Int)] 3)) w1.heap.size a b) := hide (heap_alloc_new w1 _)
  have HS := hide (swAt_below hs1 hal)
  have HB := hide (hb2.trans (hal.mono hb2.size))
  rw [← hw2, s0, ← hgy, ← HZERO.out] at HO
  rw [← hw2, ← hgy] at HPY
  rw [← hw2] at HS HB
  rw [← hw2, ← hgy]
  have hgyw : w.heap.size + 1 ≤ gy := by rw [hgy]; omega
  clear hw2 hgy hal hu hs1 hb2 hb1 hs0 b0 s0 hsz1 d0 d1 d2 d3
  go_loopw [18] (fun u w' => ∃ i : Nat, i ≤ 2 ∧ u = .int .i64 i ∧ OwnMat w' (w.heap.size + 1) gy (.slice (some ⟨g, 0, none⟩) R cap) (mkM R C (G (2 * i))) ∧ PairAt w' gy a b ∧ SwAt w' w.heap.size s ∧ Below w.heap.size w w') (fun u _ => 2 - (intOf u).toNat)
  case atStart => exact ⟨0, by omega, rfl, HO.out, HPY.out, HS.out, HB.out⟩
  case round =>
    clear HO HPY HS HB
    obtain ⟨i, hi, rfl, ho, hpy, hsw, hbw⟩ := hrel
    have HO := hide ho; have HPY := hide hpy; have HS := hide hsw; have HB := hide hbw
    clear ho hpy hsw hbw
    by_cases hlt : i < 2
    · have hiI : (i : Int) < 2 := by omega
      have hcy := pair_cell HPY.out i hlt
      obtain ⟨d0, d1, d2, d3⟩ := swAt_cells HS.out
      rw [HSW.out] at d0 d1 d2 d3
      have hgy1 := pair_lt HPY.out
      go_wp2
      obtain ⟨w3, hw3⟩ : ∃ w3, w3 = wr.alloc (.cells #[.int .i64 (c : Int), .int .i64 (d : Int)] 3) := ⟨_, rfl⟩
      obtain ⟨gx, hgx⟩ : ∃ gx, gx = wr.heap.size := ⟨_, rfl⟩
      have hal := (Below.refl wr.heap.size wr).alloc (Nat.le_refl _) (.cells #[.int .i64 (c : Int), .int .i64 (d : Int)] 3)
      have HPX : Hid (PairAt (wr.alloc (.cells #[.int .i64 (c : Int), .int .i64 (d : Int)] 3)) wr.heap.size c d) := hide (heap_alloc_new wr _)
      replace HO := hide (ownMat_below HO.out hal); replace HPY := hide (pair_below HPY.out hal); replace HS := hide (swAt_below HS.out hal)
      replace HB := hide (HB.out.trans (hal.mono HB.out.size))
      rw [← hw3, ← hgx] at HPX
      rw [← hw3] at HO HPY HS HB
      rw [← hw3, ← hgx]
      have hgxy : gy < gx := by rw [hgx]; exact hgy1
      clear hw3 hgx hal d0 d1 d2 d3 hcy hgy1
      go_loopw [28] (fun u w' => ∃ j : Nat, j ≤ 2 ∧ u = .int .i64 j ∧ OwnMat w' (w.heap.size + 1) gy (.slice (some ⟨g, 0, none⟩) R cap) (mkM R C (G (2 * i + j))) ∧ PairAt w' gy a b ∧ PairAt w' gx c d ∧ SwAt w' w.heap.size s ∧ Below w.heap.size w w') (fun u _ => 2 - (intOf u).toNat)
      case atStart => exact ⟨0, by omega, rfl, HO.out, HPY.out, HPX.out, HS.out, HB.out⟩
      case round =>
        clear HO HPY HPX HS HB
        obtain ⟨j, hj, rfl, ho, hpy, hpx, hsw, hbw⟩ := hrel
        have HO := hide ho; have HPY := hide hpy; have HPX := hide hpx; have HS := hide hsw; have HB := hide hbw
        clear ho hpy hpx hsw hbw
        by_cases hlj : j < 2
        · have hjI : (j : Int) < 2 := by omega
          have hcx := pair_cell HPX.out j hlj
          have hyR := HPA.out i
          have hxC := HPC.out j
          obtain ⟨g1, k1, q1, hcl, hfr, hg1, hg1h, hset⟩ := ownMat_cell HO.out _ _ hyR hxC
          obtain ⟨g2, o2, k2, q2, hg2, hcc⟩ := HC.out _ hyR
          have q3 := below_cell HB.out hg2 (hcc _ hxC)
          replace q2 := below_cell HB.out hg0 q2
          obtain ⟨z, hz⟩ : ∃ z, z = f (pickN a b i) (pickN c d j) := ⟨_, rfl⟩
          have hz01 : 0 ≤ z ∧ z ≤ 1 := by have := HCELL.out _ _ hyR hxC; omega
          obtain ⟨hz0, hz1⟩ := hz01
          have hwz : IntKind.i64.wrap (1 - z) = 1 - z := IntWalk.i64_in _ (by omega)
          have HST : Hid ((fun y x => if y = pickN a b i ∧ x = pickN c d j then 1 - z else G (2 * i + j) y x) = G (2 * i + (j + 1))) := hide (by
            have := HSTEP.out (2 * i + j)
            rw [show (2 * i + j) / 2 = i by omega, show (2 * i + j) % 2 = j by omega] at this
            rw [← Nat.add_assoc, this]
            funext y x
            by_cases e : y = pickN a b i ∧ x = pickN c d j
            · rw [if_pos e, if_pos e, hz, e.1, e.2]
            · rw [if_neg e, if_neg e])
          rw [← hz] at q3
          have hyI : ((pickN a b i : Nat) : Int) < R := by omega
          have hxI : ((pickN c d j : Nat) : Int) < C := by omega
          obtain ⟨z0, hz0'⟩ : ∃ z0, z0 = G (2 * i + j) (pickN a b i) (pickN c d j) := ⟨_, rfl⟩
          rw [← hz0'] at hcl
          clear hcc hz hz0'
          go_wp2
          obtain ⟨fs, hfs⟩ : ∃ fs : List FactP, fs = [isV (.slice (some ⟨g, 0, none⟩) R cap), isV (.int .i64 ((pickN a b i : Nat) : Int)), isV (.pointer (some ⟨g, pickN a b i, none⟩)), isV (.slice (some ⟨g1, 0, none⟩) C k1), isV (.int .i64 ((pickN c d j : Nat) : Int)), isV (.slice (some ⟨g0, o0, none⟩) R c0), isV (.int .i64 ((pickN a b i : Nat) : Int)), isV (.pointer (some ⟨g0, o0 + pickN a b i, none⟩)), isV (.slice (some ⟨g2, o2, none⟩) C k2), isV (.int .i64 ((pickN c d j : Nat) : Int)), isV (.pointer (some ⟨g2, o2 + pickN c d j, none⟩)), isV (.int .i64 z), isV (.int .i64 (1 - z)), isV (.pointer (some ⟨g1, pickN c d j, none⟩))] := ⟨_, rfl⟩
          have hst : ∀ f ∈ fs, StableP f := by
            rw [hfs]; intro f hf
            simp only [List.mem_cons, List.not_mem_nil, or_false] at hf
            rcases hf with rfl | rfl | rfl | rfl | rfl | rfl | rfl | rfl | rfl | rfl | rfl | rfl | rfl | rfl <;> exact stable_v _
          subst hfs
          refine wp_region_tail (S := fun w2 => w2 = wr.drew) [isV (.slice (some ⟨g, 0, none⟩) R cap), isV (.int .i64 ((pickN a b i : Nat) : Int)), isV (.pointer (some ⟨g, pickN a b i, none⟩)), isV (.slice (some ⟨g1, 0, none⟩) C k1), isV (.int .i64 ((pickN c d j : Nat) : Int)), isV (.slice (some ⟨g0, o0, none⟩) R c0), isV (.int .i64 ((pickN a b i : Nat) : Int)), isV (.pointer (some ⟨g0, o0 + pickN a b i, none⟩)), isV (.slice (some ⟨g2, o2, none⟩) C k2), isV (.int .i64 ((pickN c d j : Nat) : Int)), isV (.pointer (some ⟨g2, o2 + pickN c d j, none⟩)), isV (.int .i64 z), isV (.int .i64 (1 - z)), isV (.pointer (some ⟨g1, pickN c d j, none⟩))] [(0, .slice (some ⟨g0, o0, none⟩) R c0), (5, .slice (some ⟨g, 0, none⟩) R cap), (7, .int .i64 ((pickN a b i : Nat) : Int)), (9, .int .i64 ((pickN c d j : Nat) : Int))] _ _ 14 (by kernel_rfl) rfl rfl (by kernel_rfl) (by kernel_rfl) rfl (by kernel_rfl) ?base rfl ?ob rfl ?fin
          case base =>
            intro t v ht
            simp only [List.lookup_cons, List.lookup_nil] at ht
            repeat' split at ht
            all_goals first | (cases ht; done) | (obtain rfl := Option.some.inj ht; rename_i hh; obtain rfl := eq_of_beq hh; rfl)
          case ob =>
            exact ⟨obt_move (.slice (some ⟨g, 0, none⟩) R cap) rfl rfl rfl (srt_b 5 rfl),
              obt_move (.int .i64 ((pickN a b i : Nat) : Int)) rfl rfl rfl (srt_b 7 rfl),
              obt_two (.pointer (some ⟨g, pickN a b i, none⟩)) rfl rfl (srt_j 0 rfl (by kernel_rfl) rfl) (srt_j 1 rfl (by kernel_rfl) rfl) (fun ρ w2 hS hx hy => by go_simp),
              obt_one (.slice (some ⟨g1, 0, none⟩) C k1) rfl rfl (srt_j 2 rfl (by kernel_rfl) rfl) (fun ρ w2 hS hx => by subst hS; go_simp),
              obt_move (.int .i64 ((pickN c d j : Nat) : Int)) rfl rfl rfl (srt_b 9 rfl),
              obt_move (.slice (some ⟨g0, o0, none⟩) R c0) rfl rfl rfl (srt_b 0 rfl),
              obt_move (.int .i64 ((pickN a b i : Nat) : Int)) rfl rfl rfl (srt_b 7 rfl),
              obt_two (.pointer (some ⟨g0, o0 + pickN a b i, none⟩)) rfl rfl (srt_j 5 rfl (by kernel_rfl) rfl) (srt_j 6 rfl (by kernel_rfl) rfl) (fun ρ w2 hS hx hy => by go_simp),
              obt_one (.slice (some ⟨g2, o2, none⟩) C k2) rfl rfl (srt_j 7 rfl (by kernel_rfl) rfl) (fun ρ w2 hS hx => by subst hS; go_simp),
              obt_move (.int .i64 ((pickN c d j : Nat) : Int)) rfl rfl rfl (srt_b 9 rfl),
              obt_two (.pointer (some ⟨g2, o2 + pickN c d j, none⟩)) rfl rfl (srt_j 8 rfl (by kernel_rfl) rfl) (srt_j 9 rfl (by kernel_rfl) rfl) (fun ρ w2 hS hx hy => by go_simp),
              obt_one (.int .i64 z) rfl rfl (srt_j 10 rfl (by kernel_rfl) rfl) (fun ρ w2 hS hx => by subst hS; go_simp),
              obt_two (.int .i64 (1 - z)) rfl rfl (srt_c (v := .int .i64 1)) (srt_j 11 rfl (by kernel_rfl) rfl) (fun ρ w2 hS hx hy => by go_simp),
              obt_two (.pointer (some ⟨g1, pickN c d j, none⟩)) rfl rfl (srt_j 3 rfl (by kernel_rfl) rfl) (srt_j 4 rfl (by kernel_rfl) rfl) (fun ρ w2 hS hx hy => by go_simp),
              trivial⟩
          case fin =>
            intro a' w' h1 h2 h3 hS h4 K hK
            have ha := frame_ov rfl h1 h2 h3 [(32, .slice (some ⟨g, 0, none⟩) R cap), (33, .int .i64 ((pickN a b i : Nat) : Int)), (34, .pointer (some ⟨g, pickN a b i, none⟩)), (35, .slice (some ⟨g1, 0, none⟩) C k1), (36, .int .i64 ((pickN c d j : Nat) : Int)), (37, .slice (some ⟨g0, o0, none⟩) R c0), (38, .int .i64 ((pickN a b i : Nat) : Int)), (39, .pointer (some ⟨g0, o0 + pickN a b i, none⟩)), (40, .slice (some ⟨g2, o2, none⟩) C k2), (41, .int .i64 ((pickN c d j : Nat) : Int)), (42, .pointer (some ⟨g2, o2 + pickN c d j, none⟩)), (43, .int .i64 z), (44, .int .i64 (1 - z)), (45, .pointer (some ⟨g1, pickN c d j, none⟩))] (by kernel_rfl) ⟨h4 0 32 rfl (by decide), h4 1 33 rfl (by decide), h4 2 34 rfl (by decide), h4 3 35 rfl (by decide), h4 4 36 rfl (by decide), h4 5 37 rfl (by decide), h4 6 38 rfl (by decide), h4 7 39 rfl (by decide), h4 8 40 rfl (by decide), h4 9 41 rfl (by decide), h4 10 42 rfl (by decide), h4 11 43 rfl (by decide), h4 12 44 rfl (by decide), h4 13 45 rfl (by decide), trivial⟩
            dsimp only [ov, List.lookup, Nat.reduceBEq, Nat.reduceAdd] at ha
            have v45 : a'.tmps.getD 45 undef = .pointer (some ⟨g1, pickN c d j, none⟩) := h4 13 45 rfl (by decide)
            have v44 : a'.tmps.getD 44 undef = .int .i64 (1 - z) := h4 12 44 rfl (by decide)
            subst hS
            refine run_skip (exec_storeInt (u := z0) rfl v45 v44 hcl hfr) (hK undef _ ?_)
            show Exit.inBlock _ _ Exit.normal a' _
            have E1 : Hid (OwnMat (wr.drew.setCell ⟨g1, pickN c d j, none⟩ (.int .i64 (1 - z))) (w.heap.size + 1) gy (.slice (some ⟨g, 0, none⟩) R cap) (mkM R C (G (2 * i + (j + 1))))) := hide (by have := hset (1 - z); rw [HST.out] at this; exact this)
            have E2 : Hid (PairAt (wr.drew.setCell ⟨g1, pickN c d j, none⟩ (.int .i64 (1 - z))) gy a b) := hide (pair_set HPY.out _ _ (by simp; omega))
            have E3 : Hid (PairAt (wr.drew.setCell ⟨g1, pickN c d j, none⟩ (.int .i64 (1 - z))) gx c d) := hide (pair_set HPX.out _ _ (by simp; omega))
            have E4 : Hid (SwAt (wr.drew.setCell ⟨g1, pickN c d j, none⟩ (.int .i64 (1 - z))) w.heap.size s) := hide (swAt_set (swAt_below HS.out (below_drew (Below.refl _ _))) _ _ (by simp; omega))
            have E5 : Hid (Below w.heap.size w (wr.drew.setCell ⟨g1, pickN c d j, none⟩ (.int .i64 (1 - z)))) := hide ((below_drew HB.out).setCell (by simp only; omega) _)
            clear v44 v45
            generalize wr.drew.setCell ⟨g1, pickN c d j, none⟩ (.int .i64 (1 - z)) = w9 at E1 E2 E3 E4 E5 ⊢
            rw [ha]
            clear ha h1 h2 h3 h4 hst hK
            go_wp2
            go_roundw
            case rel => exact ⟨j + 1, by omega, by go_num, E1.out, E2.out, E3.out, E4.out, E5.out⟩
            case measure => simp [intOf]; omega
        · obtain rfl : j = 2 := by omega
          go_wp2
          go_roundw
          case rel => exact ⟨i + 1, by omega, by go_num, HO.out, HPY.out, HS.out, HB.out⟩
          case measure => simp [intOf]; omega
    · obtain rfl : i = 2 := by omega
      go_wp2
      go_ret
      exact ⟨_, rfl, ownMat_mono HO.out (Nat.le_succ _) (Nat.le_of_lt (pair_lt HPY.out)), HB.out⟩
theorem specApply_img (v : Value) (R C : Nat) (f : Nat → Nat → Int) (s : Sw) (w : World) (hin : InMat w v (mkM R C f)) (hI : Img R C f) (hs : swF R C f s = true) :
    Calls Try.prog 48 #[v, swV s] w (MatRes (mkM R C (flipF f s)) w) := by
  obtain ⟨a, b, c, d, rfl, h⟩ := swF_iff.1 hs
  obtain ⟨h1, h2, h3, h4, -⟩ := four_iff.1 h
  exact l06Apply_any v R C f a b c d w hin hI (by omega) h3 (by omega) h4
end Go.Proofs.Ytpfaaglaeholbaa
