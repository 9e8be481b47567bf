/-
  Texts of this claim, one behind the other: SpecD, SameS, SameB, Fix, LawsX.
-/
import Derived.Test.YtpfaaglaeholbaaPackI
import Derived.Test.YtpfaaglaeholbaaPackM
import Derived.Test.YtpfaaglaeholbaaPackH
import Derived.Test.YtpfaaglaeholbaaPackJ
import Derived.Test.YtpfaaglaeholbaaPackB
/-
  DistanceOf of the model.
-/
namespace Go.Proofs.Ytpfaaglaeholbaa
open Go.RowKit

theorem ok_quiet (v : Value) (m : List (List Int)) (w : World) (n : Nat) (b : Bool) (hin : InMat w v m) (hb : okB m = b) :
    Calls Try.prog 85 #[v] (w.drewN n) fun e w'' => e = .returned (.bool b) ∧ ∃ k, w'' = w.drewN k := by
  refine Calls.quiet_of_same ((specImageOk_any v m (w.drewN n) hin).mono ?_)
  rintro e w' ⟨rfl, rfl⟩
  exact ⟨by rw [hb], rfl⟩

set_option maxHeartbeats 1000000 in
theorem specDistanceOf_no (v u : Value) (m l : List (List Int)) (w : World) (hin : InMat w v m) (hin2 : InMat w u l) (h : (okB m && okB l) = false) :
    Calls Try.prog 96 #[v, u] w fun e w' => e = .returned (.int .i64 (-1)) ∧ Below w.heap.size w w' := by
  have HI := hide hin; have HJ := hide hin2
  clear hin hin2
  cases h1 : okB m with
  | false =>
    have H1 := hide h1
    clear h h1
    go_enter Try.func96, Try.ntmps96
    go_wp2
    go_quiet ((go_at_call 85; exact ok_quiet _ m _ _ false HI.out H1.out))
    go_wp2
    go_ret
    exact ⟨rfl, below_draws (Below.refl _ _) _⟩
  | true =>
    have h2 : okB l = false := by rw [h1] at h; simpa using h
    have H1 := hide h1; have H2 := hide h2
    clear h h1 h2
    go_enter Try.func96, Try.ntmps96
    go_wp2
    go_quiet ((go_at_call 85; (first | with_reducible exact ok_quiet v m _ _ true HI.out H1.out | with_reducible exact ok_quiet u l _ _ false HJ.out H2.out)))
    go_wp2
    go_ret
    exact ⟨rfl, below_draws (Below.refl _ _) _⟩

set_option maxHeartbeats 1000000 in
theorem specDistanceOf_rows (v u : Value) (R C R' C' : Nat) (f g : Nat → Nat → Int) (w : World) (hin : InMat w v (mkM R C f)) (hin2 : InMat w u (mkM R' C' g)) (hI : Img R C f) (hI' : Img R' C' g) (hne : R ≠ R') :
    Calls Try.prog 96 #[v, u] w fun e w' => e = .returned (.int .i64 (-1)) ∧ Below w.heap.size w w' := by
  have HI := hide hin; have HJ := hide hin2; have H1 := hide (img_ok hI); have H2 := hide (img_ok hI')
  have hR1 := hI.r1; have hC1 := hI.c1; have hR := hI.r2; have hC := hI.c2
  have hR1' := hI'.r1; have hC1' := hI'.c1; have hR' := hI'.r2; have hC' := hI'.c2
  obtain ⟨ga, oa, ca, rfl, hga, -⟩ := inMat_img hin (by omega) (by omega)
  obtain ⟨gb, ob, cb, rfl, hgb, -⟩ := inMat_img hin2 (by omega) (by omega)
  have q1 : ((R : Int) == (R' : Int)) = false := by simp; omega
  have q2 : ((R : Int) != (R' : Int)) = true := by simp; omega
  clear hin hin2 hI hI' hne
  go_enter Try.func96, Try.ntmps96
  go_wp2
  go_quiet ((go_at_call 85; (first | with_reducible exact ok_quiet (.slice (some ⟨ga, oa, none⟩) R ca) _ _ _ true HI.out H1.out | with_reducible exact ok_quiet (.slice (some ⟨gb, ob, none⟩) R' cb) _ _ _ true HJ.out H2.out)))
  go_wp2
  go_ret
  exact ⟨rfl, below_draws (Below.refl _ _) _⟩
set_option maxHeartbeats 1000000 in
theorem specDistanceOf_cols (v u : Value) (R C C' : Nat) (f g : Nat → Nat → Int) (w : World) (hin : InMat w v (mkM R C f)) (hin2 : InMat w u (mkM R C' g)) (hI : Img R C f) (hI' : Img R C' g) (hne : C ≠ C') :
    Calls Try.prog 96 #[v, u] w fun e w' => e = .returned (.int .i64 (-1)) ∧ Below w.heap.size w w' := by
  have HI := hide hin; have HJ := hide hin2; have H1 := hide (img_ok hI); have H2 := hide (img_ok hI')
  have hR1 := hI.r1; have hC1 := hI.c1; have hR := hI.r2; have hC := hI.c2
  have hC1' := hI'.c1; have hC' := hI'.c2
  obtain ⟨ga, oa, ca, rfl, hga, hca⟩ := inMat_img hin (by omega) (by omega)
  obtain ⟨gb, ob, cb, rfl, hgb, hcb⟩ := inMat_img hin2 (by omega) (by omega)
  obtain ⟨g0, o0, c0, hx0, -⟩ := hca 0 (by omega)
  obtain ⟨g1, o1, c1, hx1, -⟩ := hcb 0 (by omega)
  rw [Nat.add_zero] at hx0 hx1
  have q1 : ((C : Int) == (C' : Int)) = false := by simp; omega
  have q2 : ((C : Int) != (C' : Int)) = true := by simp; omega
  clear hin hin2 hI hI' hne hca hcb
  go_enter Try.func96, Try.ntmps96
  go_wp2
  go_quiet ((go_at_call 85; (first | with_reducible exact ok_quiet (.slice (some ⟨ga, oa, none⟩) R ca) _ _ _ true HI.out H1.out | with_reducible exact ok_quiet (.slice (some ⟨gb, ob, none⟩) R cb) _ _ _ true HJ.out H2.out)))
  go_wp2
  go_ret
  exact ⟨rfl, below_draws (Below.refl _ _) _⟩
set_option maxRecDepth 100000 in
set_option maxHeartbeats 1000000 in
theorem specDistanceOf_same (v u : Value) (R C : Nat) (f g : Nat → Nat → Int) (w : World) (hin : InMat w v (mkM R C f)) (hin2 : InMat w u (mkM R C g)) (hI : Img R C f) (hI' : Img R C g) :
    Calls Try.prog 96 #[v, u] w fun e w' => e = .returned (.int .i64 (cnt (fun i => imgF R C f i != imgF R C g i) 25 : Nat)) ∧ Below w.heap.size w w' := by
  have HI := hide hin; have HJ := hide hin2; have H1 := hide (img_ok hI); have H2 := hide (img_ok hI')
  have hR1 := hI.r1; have hC1 := hI.c1; have hR := hI.r2; have hC := hI.c2
  obtain ⟨ga, oa, ca, rfl, hga, hca⟩ := inMat_img hin (by omega) (by omega)
  obtain ⟨gb, ob, cb, rfl, hgb, hcb⟩ := inMat_img hin2 (by omega) (by omega)
  obtain ⟨g0, o0, c0, hx0, -⟩ := hca 0 (by omega)
  obtain ⟨g1, o1, c1, hx1, -⟩ := hcb 0 (by omega)
  rw [Nat.add_zero] at hx0 hx1
  have HA := hide hca; have HB := hide hcb
  obtain ⟨p, hp⟩ : ∃ p : Nat → Bool, p = fun i => imgF R C f i != imgF R C g i := ⟨_, rfl⟩
  have HP : Hid (∀ i, p i = (imgF R C f i != imgF R C g i)) := hide fun i => by rw [hp]
  have HN : Hid (∀ i, imgF R C f i = -1 → p i = false) := hide fun i e => by
    have e2 : imgF R C g i = -1 := (imgF_none hI' i).2 ((imgF_none hI i).1 e)
    rw [HP.out, e, e2]; rfl
  rw [← hp]
  clear hin hin2 hI hI' hca hcb hp
  go_enter Try.func96, Try.ntmps96
  go_wp2
  go_quiet ((go_at_call 85; (first | with_reducible exact ok_quiet (.slice (some ⟨ga, oa, none⟩) R ca) _ _ _ true HI.out H1.out | with_reducible exact ok_quiet (.slice (some ⟨gb, ob, none⟩) R cb) _ _ _ true HJ.out H2.out)))
  clear hx0 hx1
  go_wp2
  go_loopw [5, 38] (fun n i w' => ∃ y : Nat, y ≤ R ∧ i = .int .i64 y ∧ n = .int .i64 (cnt p (5 * y)) ∧ Below w.heap.size w w') (fun _ i _ => R - (intOf i).toNat)
  case atStart => exact ⟨0, by omega, rfl, rfl, below_draws (Below.refl _ _) _⟩
  case round =>
    obtain ⟨y, hy, rfl, rfl, hb⟩ := hrel
    have HBB := hide hb
    clear hb
    by_cases hlt : y < R
    · have hyI : (y : Int) < R := by omega
      obtain ⟨g', o', c', hx, hg', hcc⟩ := HA.out y hlt
      have hx := below_cell HBB.out hga hx
      have HCC := hide hcc
      clear hcc
      obtain ⟨wo, rfl⟩ : ∃ wo : World, wo = wr := ⟨_, rfl⟩
      go_wp2
      go_loopw [5, 45] (fun n i w' => ∃ x : Nat, x ≤ C ∧ i = .int .i64 x ∧ n = .int .i64 (cnt p (5 * y + x)) ∧ Below w.heap.size w w') (fun _ i _ => C - (intOf i).toNat)
      case atStart => exact ⟨0, by omega, rfl, rfl, HBB.out⟩
      case round =>
        clear HBB hx
        obtain ⟨x, hxx, rfl, rfl, hb⟩ := hrel
        have HBB := hide hb
        clear hb
        have hle := cnt_le p (5 * y + x)
        by_cases hlx : x < C
        · have hxI : (x : Int) < C := by omega
          have hz := below_cell HBB.out hg' (HCC.out x hlx)
          obtain ⟨g2, o2, c2, hx2, hg2, hc2⟩ := HB.out y hlt
          have hx2 := below_cell HBB.out hgb hx2
          have hz2 := below_cell HBB.out hg2 (hc2 x hlx)
          have HV : Hid (p (5 * y + x) = (f y x != g y x)) := hide (by rw [HP.out, imgF_at _ _ _ _ _ (by omega), imgF_at _ _ _ _ _ (by omega), if_pos ⟨hlt, hlx⟩, if_pos ⟨hlt, hlx⟩])
          clear hc2
          obtain ⟨s, hs⟩ : ∃ s, s = f y x := ⟨_, rfl⟩
          obtain ⟨t, ht⟩ : ∃ t, t = g y x := ⟨_, rfl⟩
          rw [← hs, ← ht] at HV
          rw [← hs] at hz
          rw [← ht] at hz2
          clear hs ht
          by_cases e : s = t
          · subst e
            have HS := hide (cnt_no (p := p) (k := 5 * y + x) (by rw [HV.out]; simp))
            go_wp2
            go_roundw
            case rel => exact ⟨x + 1, by omega, by go_num, by rw [← Nat.add_assoc, HS.out], HBB.out⟩
            case measure => simp [intOf]; omega
          · have hne2 : (s != t) = true := by simpa using e
            have hne1 : (s == t) = false := by simpa using e
            have HS := hide (cnt_yes (p := p) (k := 5 * y + x) (by rw [HV.out]; exact hne2))
            clear e
            go_wp2
            go_roundw
            case rel => exact ⟨x + 1, by omega, by go_num, by rw [← Nat.add_assoc, HS.out]; go_num, HBB.out⟩
            case measure => simp [intOf]; omega
        · obtain rfl : x = C := by omega
          have HS := hide (cnt_row p HN.out y hC)
          go_wp2
          go_roundw
          case rel => exact ⟨y + 1, by omega, by go_num, by rw [HS.out], HBB.out⟩
          case measure => simp [intOf]; omega
    · obtain rfl : y = R := by omega
      have HS := hide (cnt_end p HN.out hR)
      go_wp2
      go_ret
      exact ⟨ret_int (by rw [HS.out]), HBB.out⟩
theorem specDistanceOf_yes (v u : Value) (R C R' C' : Nat) (f g : Nat → Nat → Int) (w : World) (hin : InMat w v (mkM R C f)) (hin2 : InMat w u (mkM R' C' g)) (h : Img R C f) (h' : Img R' C' g) :
    Calls Try.prog 96 #[v, u] w fun e w' => e = .returned (.int .i64 (if R = R' ∧ C = C' then (cnt (fun i => imgF R C f i != imgF R' C' g i) 25 : Nat) else -1)) ∧ Below w.heap.size w w' := by
  by_cases hR : R = R'
  · subst hR
    by_cases hC : C = C'
    · subst hC
      rw [if_pos ⟨rfl, rfl⟩]
      exact specDistanceOf_same v u R C f g w hin hin2 h h'
    · rw [if_neg fun e => hC e.2]
      exact specDistanceOf_cols v u R C C' f g w hin hin2 h h' hC
  · rw [if_neg fun e => hR e.1]
    exact specDistanceOf_rows v u R C R' C' f g w hin hin2 h h' hR
end Go.Proofs.Ytpfaaglaeholbaa
/-
  SameSums of both.
-/
namespace Go.Proofs.Ytpfaaglaeholbaa
open Go.RowKit Go.Maps

/-- The rows' and the columns' directions. -/
def rc : List (Int × Int) := [(1, 0), (0, 1)]
theorem lines_row (R C : Nat) (f : Nat → Nat → Int) (n : Int) : linesC C f (R * C) ⟨1, 0, n⟩ rc = if 0 ≤ n ∧ n < R then ((rs C f n.toNat : Nat) : Int) else 0 := by
  have h : lineC C f (1, 0) (R * C) ⟨1, 0, n⟩ = (cnt (onL C f (1, 0) n) (C * R) : Nat) := by rw [Nat.mul_comm R C]; exact if_pos ⟨rfl, rfl⟩
  have h2 : lineC C f (0, 1) (R * C) ⟨1, 0, n⟩ = 0 := if_neg (fun h => by cases h.1)
  rw [rc, linesC, linesC, linesC, h, h2, cnt_rows]
  split <;> simp
theorem lines_col (R C : Nat) (f : Nat → Nat → Int) (n : Int) : linesC C f (R * C) ⟨0, 1, n⟩ rc = if 0 ≤ n ∧ n < C then ((cs R f (C - 1 - n.toNat) : Nat) : Int) else 0 := by
  have h : lineC C f (0, 1) (R * C) ⟨0, 1, n⟩ = (cnt (onL C f (0, 1) n) (C * R) : Nat) := by rw [Nat.mul_comm R C]; exact if_pos ⟨rfl, rfl⟩
  have h2 : lineC C f (1, 0) (R * C) ⟨0, 1, n⟩ = 0 := if_neg (fun h => by cases h.1)
  rw [rc, linesC, linesC, linesC, h, h2, cnt_cols]
  split <;> simp
theorem lines_none (C : Nat) (f : Nat → Nat → Int) (N : Nat) (k : Key) (h1 : ¬ (k.x = 1 ∧ k.y = 0)) (h2 : ¬ (k.x = 0 ∧ k.y = 1)) : linesC C f N k rc = 0 := by
  simp only [rc, linesC, lineC]
  rw [if_neg h1, if_neg h2]; rfl
theorem rowsL_eq {R C : Nat} {f g : Nat → Nat → Int} : (rowsL R C f == rowsL R C g) = true ↔ ∀ y, y < R → rs C f y = rs C g y := by
  rw [beq_iff_eq]
  constructor
  · intro h y hy
    have h1 := congrArg (fun l => l[y]?) h
    simp only [rowsL, rowF, List.getElem?_map, List.getElem?_range hy, Option.map_some, Option.some.injEq] at h1
    omega
  · intro h
    exact rowF_congr fun y hy => by rw [h y hy]
def sameL (R C : Nat) (f g : Nat → Nat → Int) : Bool := (rowsL R C f == rowsL R C g) && (rowsL C R (trM f) == rowsL C R (trM g))
theorem same_lines {R C : Nat} {f g : Nat → Nat → Int} (hR : R ≤ 5) (hC : C ≤ 5) : (∀ k : Key, k.wf → thereK (fun k => linesC C f (R * C) k rc - linesC C g (R * C) k rc) k = false) ↔ sameL R C f g = true := by
  have hcs : ∀ (f : Nat → Nat → Int) x, rs R (trM f) x = cs R f x := fun _ _ => rfl
  unfold sameL
  rw [Bool.and_eq_true, rowsL_eq, rowsL_eq]
  constructor
  · intro h
    have h0 : ∀ k : Key, k.wf → linesC C f (R * C) k rc = linesC C g (R * C) k rc := fun k hk => by
      have := h k hk
      simp only [thereK, decide_eq_false_iff_not, ne_eq, Decidable.not_not] at this
      omega
    refine ⟨fun y hy => ?_, fun x hx => ?_⟩
    · have := h0 ⟨1, 0, y⟩ (key_wf (by decide) (by decide) (WalkArith.wf_i64 (by omega)))
      rw [lines_row, lines_row, if_pos (by omega), if_pos (by omega)] at this
      have e : ((y : Int)).toNat = y := by omega
      rw [e] at this; omega
    · rw [hcs, hcs]
      have := h0 ⟨0, 1, (C - 1 - x : Nat)⟩ (key_wf (by decide) (by decide) (WalkArith.wf_i64 (by omega)))
      rw [lines_col, lines_col, if_pos (by omega), if_pos (by omega)] at this
      have e : C - 1 - (((C - 1 - x : Nat) : Int)).toNat = x := by omega
      rw [e] at this; omega
  · rintro ⟨h1, h2⟩ k -
    simp only [thereK, decide_eq_false_iff_not, ne_eq, Decidable.not_not]
    obtain ⟨kx, ky, n⟩ := k
    by_cases e1 : kx = 1 ∧ ky = 0
    · obtain ⟨rfl, rfl⟩ := e1
      rw [lines_row, lines_row]
      split
      · rename_i hn; rw [h1 n.toNat (by omega)]; omega
      · rfl
    · by_cases e2 : kx = 0 ∧ ky = 1
      · obtain ⟨rfl, rfl⟩ := e2
        rw [lines_col, lines_col]
        split
        · rename_i hn
          have := h2 (C - 1 - n.toNat) (by omega)
          rw [hcs, hcs] at this
          rw [this]; omega
        · rfl
      · rw [lines_none C f (R * C) _ e1 e2, lines_none C g (R * C) _ e1 e2]; rfl

theorem iok_quiet (v : Value) (m : List (List Int)) (w : World) (n : Nat) (b : Bool) (hin : InMat w v m) (hb : okB m = b) :
    Calls Try.prog 52 #[v] (w.drewN n) fun e w'' => e = .returned (.bool b) ∧ ∃ k, w'' = w.drewN k := by
  refine Calls.quiet_of_same ((implImageOk_any v m (w.drewN n) hin).mono ?_)
  rintro e w' ⟨rfl, rfl⟩
  exact ⟨by rw [hb], rfl⟩
set_option maxRecDepth 100000 in
set_option maxHeartbeats 1000000 in
theorem implSameSums_no (v u : Value) (m l : List (List Int)) (w : World) (hin : InMat w v m) (hin2 : InMat w u l) (h : (okB m && okB l) = false) :
    Calls Try.prog 12 #[v, u] w fun e w' => e = .returned (.bool false) ∧ Below w.heap.size w w' := by
  have HI := hide hin; have HJ := hide hin2
  clear hin hin2
  cases h1 : okB m with
  | false =>
    have H1 := hide h1
    clear h h1
    go_enter Try.func12, Try.ntmps12
    go_wp2
    go_quiet ((go_at_call 52; exact iok_quiet _ m _ _ false HI.out H1.out))
    go_wp2
    go_ret
    exact ⟨rfl, below_draws (Below.refl _ _) _⟩
  | true =>
    have h2 : okB l = false := by rw [h1] at h; simpa using h
    have H1 := hide h1; have H2 := hide h2
    clear h h1 h2
    go_enter Try.func12, Try.ntmps12
    go_wp2
    go_quiet ((go_at_call 52; (first | with_reducible exact iok_quiet v m _ _ true HI.out H1.out | with_reducible exact iok_quiet u l _ _ false HJ.out H2.out)))
    go_wp2
    go_ret
    exact ⟨rfl, below_draws (Below.refl _ _) _⟩
set_option maxRecDepth 100000 in
set_option maxHeartbeats 1000000 in
theorem implSameSums_rows (v u : Value) (R C R' C' : Nat) (f g : Nat → Nat → Int) (w : World) (hin : InMat w v (mkM R C f)) (hin2 : InMat w u (mkM R' C' g)) (hI : Img R C f) (hI' : Img R' C' g) (hne : R ≠ R') :
    Calls Try.prog 12 #[v, u] w fun e w' => e = .returned (.bool false) ∧ Below w.heap.size w w' := by
  have HI := hide hin; have HJ := hide hin2; have H1 := hide (img_ok hI); have H2 := hide (img_ok hI')
  have hR1 := hI.r1; have hC1 := hI.c1; have hR := hI.r2; have hC := hI.c2
  have hR1' := hI'.r1; have hC1' := hI'.c1; have hR' := hI'.r2; have hC' := hI'.c2
  obtain ⟨ga, oa, ca, rfl, hga, -⟩ := inMat_img hin (by omega) (by omega)
  obtain ⟨gb, ob, cb, rfl, hgb, -⟩ := inMat_img hin2 (by omega) (by omega)
  have q1 : ((R : Int) == (R' : Int)) = false := by simp; omega
  have q2 : ((R : Int) != (R' : Int)) = true := by simp; omega
  clear hin hin2 hI hI' hne
  go_enter Try.func12, Try.ntmps12
  go_wp2
  go_quiet ((go_at_call 52; (first | with_reducible exact iok_quiet (.slice (some ⟨ga, oa, none⟩) R ca) _ _ _ true HI.out H1.out | with_reducible exact iok_quiet (.slice (some ⟨gb, ob, none⟩) R' cb) _ _ _ true HJ.out H2.out)))
  go_wp2
  go_ret
  exact ⟨rfl, below_draws (Below.refl _ _) _⟩
set_option maxRecDepth 100000 in
set_option maxHeartbeats 1000000 in
theorem implSameSums_cols (v u : Value) (R C C' : Nat) (f g : Nat → Nat → Int) (w : World) (hin : InMat w v (mkM R C f)) (hin2 : InMat w u (mkM R C' g)) (hI : Img R C f) (hI' : Img R C' g) (hne : C ≠ C') :
    Calls Try.prog 12 #[v, u] w fun e w' => e = .returned (.bool false) ∧ Below w.heap.size w w' := by
  have HI := hide hin; have HJ := hide hin2; have H1 := hide (img_ok hI); have H2 := hide (img_ok hI')
  have hR1 := hI.r1; have hC1 := hI.c1; have hR := hI.r2; have hC := hI.c2
  have hR1' := hI'.r1; have hC1' := hI'.c1; have hR' := hI'.r2; have hC' := hI'.c2
  obtain ⟨ga, oa, ca, rfl, hga, ha⟩ := inMat_img hin (by omega) (by omega)
  obtain ⟨gb, ob, cb, rfl, hgb, hb⟩ := inMat_img hin2 (by omega) (by omega)
  obtain ⟨ga', oa', ca', hxa, -, -⟩ := ha 0 (by omega)
  obtain ⟨gb', ob', cb', hxb, -, -⟩ := hb 0 (by omega)
  rw [Nat.add_zero] at hxa hxb
  have q1 : ((C : Int) == (C' : Int)) = false := by simp; omega
  have q2 : ((C : Int) != (C' : Int)) = true := by simp; omega
  have q3 : ((R : Int) != (R : Int)) = false := by simp
  have hR0 : 0 < R := by omega
  clear hin hin2 hI hI' hne ha hb
  go_enter Try.func12, Try.ntmps12
  go_wp2
  go_quiet ((go_at_call 52; (first | with_reducible exact iok_quiet (.slice (some ⟨ga, oa, none⟩) R ca) _ _ _ true HI.out H1.out | with_reducible exact iok_quiet (.slice (some ⟨gb, ob, none⟩) R cb) _ _ _ true HJ.out H2.out)))
  go_wp2
  go_ret
  exact ⟨rfl, below_draws (Below.refl _ _) _⟩
set_option maxRecDepth 100000 in
set_option maxHeartbeats 2000000 in
theorem implSameSums_same (v u : Value) (R C : Nat) (f g : Nat → Nat → Int) (w : World) (hin : InMat w v (mkM R C f)) (hin2 : InMat w u (mkM R C g)) (hI : Img R C f) (hI' : Img R C g) :
    Calls Try.prog 12 #[v, u] w fun e w' => e = .returned (.bool (sameL R C f g)) ∧ Below w.heap.size w w' := by
  have HI := hide hin; have HJ := hide hin2; have H1 := hide (img_ok hI); have H2 := hide (img_ok hI')
  have HA := hide hI; have HB := hide hI'
  have hR1 := hI.r1; have hC1 := hI.c1; have hR := hI.r2; have hC := hI.c2
  obtain ⟨ga, oa, ca, rfl, hga, ha⟩ := inMat_img hin (by omega) (by omega)
  obtain ⟨gb, ob, cb, rfl, hgb, hb⟩ := inMat_img hin2 (by omega) (by omega)
  obtain ⟨ga', oa', ca', hxa, -, -⟩ := ha 0 (by omega)
  obtain ⟨gb', ob', cb', hxb, -, -⟩ := hb 0 (by omega)
  rw [Nat.add_zero] at hxa hxb
  have q2 : ((C : Int) != (C : Int)) = false := by simp
  have q3 : ((R : Int) != (R : Int)) = false := by simp
  have hR0 : 0 < R := by omega
  have HSL := hide (same_lines (f := f) (g := g) hR hC)
  have HND : Hid (∀ d ∈ rc, Near d.1 d.2) := hide (by
    intro d hd
    simp only [rc, List.mem_cons, List.not_mem_nil, or_false] at hd
    rcases hd with rfl | rfl <;> exact ⟨by decide, by decide, by decide, by decide⟩)
  have HRG : Hid (∀ (h : Nat → Nat → Int) (k : Key), 0 ≤ linesC C h (R * C) k rc ∧ linesC C h (R * C) k rc ≤ 1000) := hide fun h k => by
    have h1 := linesC_range C h (R * C) k rc
    have h2 : ((R * C : Nat) : Int) * (rc.length : Int) ≤ 50 := by
      have : R * C * rc.length ≤ 25 * 2 := Nat.mul_le_mul (Nat.mul_le_mul hR hC) (by decide)
      exact_mod_cast this
    omega
  clear hin hin2 hI hI' ha hb
  go_enter Try.func12, Try.ntmps12
  go_wp2
  go_quiet ((go_at_call 52; (first | with_reducible exact iok_quiet (.slice (some ⟨ga, oa, none⟩) R ca) _ _ _ true HI.out H1.out | with_reducible exact iok_quiet (.slice (some ⟨gb, ob, none⟩) R cb) _ _ _ true HJ.out H2.out)))
  go_wp2_with fail
  refine (alongRows_any _).mono ?_
  rintro e w1 ⟨rfl, hb⟩
  have HB1 := hide ((below_draws (Below.refl w.heap.size w) nq).trans hb); clear hb
  go_wp2_with fail
  refine (alongCols_any _).mono ?_
  rintro e w2 ⟨rfl, hb⟩
  have HB2 := hide (HB1.out.trans (hb.mono HB1.out.size)); clear hb
  have HB3 := hide (HB2.out.alloc HB2.out.size (.cells #[.int .i64 1, .int .i64 0, .int .i64 0, .int .i64 1] 77))
  go_wp2_with fail
  refine (lineMapOf_any _ _ R C f rc _ (inMat_below HI.out HB3.out) HA.out (inDirs2 w2 1 0 0 1) (by decide) HND.out).mono ?_
  rintro e w4 ⟨b1, rfl, hg1, hl, hb⟩
  have hbw1 := lm_lt hl
  have HL4 := hide hl; have HB4 := hide (HB3.out.trans (hb.mono HB3.out.size)); have hbW : w.heap.size ≤ b1 := Nat.le_trans HB3.out.size hg1
  clear hl hb hg1
  go_wp2_with fail
  refine (alongRows_any _).mono ?_
  rintro e w5 ⟨rfl, hb⟩
  have HL5 := hide (lm_below HL4.out hb); have hs5 := hb.size; have HB5 := hide (HB4.out.trans (hb.mono HB4.out.size)); clear hb
  go_wp2_with fail
  refine (alongCols_any _).mono ?_
  rintro e w6 ⟨rfl, hb⟩
  have HL6 := hide (lm_below HL5.out hb); have hs6 := hb.size; have HB6 := hide (HB5.out.trans (hb.mono HB5.out.size)); clear hb
  have hal : Below w6.heap.size w6 (w6.alloc (.cells #[.int .i64 1, .int .i64 0, .int .i64 0, .int .i64 1] 77)) := (Below.refl _ _).alloc (Nat.le_refl _) _
  have HL7 := hide (lm_below HL6.out hal); have HB7 := hide (HB6.out.trans (hal.mono HB6.out.size)); have hs7 := hal.size
  clear hal
  go_wp2_with fail
  refine (lineMapOf_any _ _ R C g rc _ (inMat_below HJ.out HB7.out) HB.out (inDirs2 w6 1 0 0 1) (by decide) HND.out).mono ?_
  rintro e w8 ⟨b2, rfl, hg2, hl, hb⟩
  have hne : b1 ≠ b2 := by omega
  have HL8 := hide (lm_below HL7.out hb); have HM8 := hide hl; have HB8 := hide (HB7.out.trans (hb.mono HB7.out.size))
  clear hl hb hg2 hs5 hs6 hs7
  go_wp2_with fail
  refine (cancel_any b1 b2 50 50 _ _ _ _ HL8.out HM8.out hne (by decide) (by decide) (HRG.out f) (HRG.out g)).mono ?_
  rintro e w9 ⟨nn, rfl, hnn, hl, hgr⟩
  have HL9 := hide hl
  have HB9 := hide (HB8.out.trans (grown_below hgr (fun k hk => by cases hk; exact hbW) HB8.out.size))
  clear hl hgr
  go_wp2_with (at_len; refine wpList_lenLM _ rfl _ rfl rfl HL9.out ?_; intro s hs hiff; have HIF := hide (hiff.trans HSL.out); clear hiff)
  go_ret
  refine ⟨ret_bool ?_, HB9.out⟩
  cases e : sameL R C f g with
  | true => have := HIF.out.2 e; simp [this]
  | false =>
    have : s ≠ 0 := fun h => by have := HIF.out.1 h; rw [e] at this; cases this
    simp [this]
theorem implSameSums_any (v u : Value) (R C R' C' : Nat) (f g : Nat → Nat → Int) (w : World) (hin : InMat w v (mkM R C f)) (hin2 : InMat w u (mkM R' C' g)) (h : Img R C f) (h' : Img R' C' g) :
    Calls Try.prog 12 #[v, u] w fun e w' => e = .returned (.bool (if R = R' ∧ C = C' then sameL R C f g else false)) ∧ Below w.heap.size w w' := by
  by_cases hR : R = R'
  · subst hR
    by_cases hC : C = C'
    · subst hC
      rw [if_pos ⟨rfl, rfl⟩]
      exact implSameSums_same v u R C f g w hin hin2 h h'
    · rw [if_neg fun e => hC e.2]
      exact implSameSums_cols v u R C C' f g w hin hin2 h h' hC
  · rw [if_neg fun e => hR e.1]
    exact implSameSums_rows v u R C R' C' f g w hin hin2 h h' hR

set_option maxHeartbeats 400000 in
theorem specSameSums_neg (v u : Value) (w : World) (hd : Calls Try.prog 96 #[v, u] w fun e w' => e = .returned (.int .i64 (-1)) ∧ Below w.heap.size w w') :
    Calls Try.prog 63 #[v, u] w fun e w' => e = .returned (.bool false) ∧ Below w.heap.size w w' := by
  have HD := hide hd
  clear hd
  go_enter Try.func63, Try.ntmps63
  go_wp2_with fail
  refine HD.out.mono ?_
  rintro e w1 ⟨rfl, hb⟩
  have HB := hide hb
  clear hb
  go_wp2
  go_ret
  exact ⟨rfl, HB.out⟩
set_option maxHeartbeats 1000000 in
theorem specSameSums_same (v u : Value) (R C : Nat) (f g : Nat → Nat → Int) (w : World) (hin : InMat w v (mkM R C f)) (hin2 : InMat w u (mkM R C g)) (hI : Img R C f) (hI' : Img R C g) :
    Calls Try.prog 63 #[v, u] w fun e w' => e = .returned (.bool (sameL R C f g)) ∧ Below w.heap.size w w' := by
  have HI := hide hin; have HJ := hide hin2; have HA := hide hI; have HB := hide hI'
  have HD := hide (specDistanceOf_same v u R C f g w hin hin2 hI hI')
  have HS : Hid (sameL R C f g = ((rowsL R C f == rowsL R C g) && (rowsL C R (trM f) == rowsL C R (trM g)))) := hide rfl
  clear hin hin2 hI hI'
  go_enter Try.func63, Try.ntmps63
  go_wp2_with fail
  refine HD.out.mono ?_
  rintro e w1 ⟨rfl, hb⟩
  have HB1 := hide hb; clear hb
  generalize cnt (fun i => imgF R C f i != imgF R C g i) 25 = q
  have hq : 0 ≤ (q : Int) := by omega
  go_wp2_with fail
  refine (specRowSums_yes v R C f _ (inMat_below HI.out HB1.out) HA.out).mono ?_
  rintro e w2 ⟨x2, rfl, ho, hb⟩
  have HX2 := hide (inRow_own ho); have HB2 := hide (HB1.out.trans (hb.mono HB1.out.size)); clear ho hb
  go_wp2_with fail
  refine (specRowSums_yes u R C g _ (inMat_below HJ.out HB2.out) HB.out).mono ?_
  rintro e w3 ⟨x3, rfl, ho, hb⟩
  have HX3 := hide (inRow_own ho); have HY3 := hide (inRow_below HX2.out hb); have HB3 := hide (HB2.out.trans (hb.mono HB2.out.size)); clear ho hb
  go_wp2_with fail
  refine (l02Same_any x2 x3 _ _ _ HY3.out HX3.out).mono ?_
  rintro e w4 ⟨rfl, rfl⟩
  have HB4 := HB3
  cases e1 : (rowsL R C f == rowsL R C g) with
  | false =>
    have HF : Hid (sameL R C f g = false) := hide (by rw [HS.out, e1]; rfl)
    clear e1
    go_wp2
    go_ret
    exact ⟨ret_bool HF.out.symm, HB4.out⟩
  | true =>
    have HF : Hid (sameL R C f g = (rowsL C R (trM f) == rowsL C R (trM g))) := hide (by rw [HS.out, e1]; rfl)
    clear e1
    go_wp2_with fail
    refine (specColSums_yes v R C f _ (inMat_below HI.out HB4.out) HA.out).mono ?_
    rintro e w5 ⟨x5, rfl, ho, hb⟩
    have HX5 := hide (inRow_own ho); have HB5 := hide (HB4.out.trans (hb.mono HB4.out.size)); clear ho hb
    go_wp2_with fail
    refine (specColSums_yes u R C g _ (inMat_below HJ.out HB5.out) HB.out).mono ?_
    rintro e w6 ⟨x6, rfl, ho, hb⟩
    have HX6 := hide (inRow_own ho); have HY6 := hide (inRow_below HX5.out hb); have HB6 := hide (HB5.out.trans (hb.mono HB5.out.size)); clear ho hb
    go_wp2_with fail
    refine (l02Same_any x5 x6 _ _ _ HY6.out HX6.out).mono ?_
    rintro e w7 ⟨rfl, rfl⟩
    go_wp2
    go_ret
    exact ⟨ret_bool HF.out.symm, HB6.out⟩
theorem specSameSums_any (v u : Value) (R C R' C' : Nat) (f g : Nat → Nat → Int) (w : World) (hin : InMat w v (mkM R C f)) (hin2 : InMat w u (mkM R' C' g)) (h : Img R C f) (h' : Img R' C' g) :
    Calls Try.prog 63 #[v, u] w fun e w' => e = .returned (.bool (if R = R' ∧ C = C' then sameL R C f g else false)) ∧ Below w.heap.size w w' := by
  by_cases hR : R = R'
  · subst hR
    by_cases hC : C = C'
    · subst hC
      rw [if_pos ⟨rfl, rfl⟩]
      exact specSameSums_same v u R C f g w hin hin2 h h'
    · rw [if_neg fun e => hC e.2]
      exact specSameSums_neg v u w (specDistanceOf_cols v u R C C' f g w hin hin2 h h' hC)
  · rw [if_neg fun e => hR e.1]
    exact specSameSums_neg v u w (specDistanceOf_rows v u R C R' C' f g w hin hin2 h h' hR)
end Go.Proofs.Ytpfaaglaeholbaa
/-
  Whether two lists of lists are images with the same sums.
-/
namespace Go.Proofs.Ytpfaaglaeholbaa
open Go.RowKit

def sameB (m l : List (List Int)) : Bool := okB m && okB l && (decide (m.length = l.length) && decide (widthM m = widthM l) && sameL m.length (widthM m) (cellM m) (cellM l))
theorem rs_congr {C : Nat} {f g : Nat → Nat → Int} {y : Nat} (h : ∀ x, x < C → f y x = g y x) : rs C f y = rs C g y := cnt_congr fun x hx => by rw [h x hx]
theorem rowsL_congr {R C : Nat} {f g : Nat → Nat → Int} (h : ∀ y x, y < R → x < C → f y x = g y x) : rowsL R C f = rowsL R C g := rowF_congr fun y hy => by rw [rs_congr fun x hx => h y x hy hx]
theorem sameL_congr {R C : Nat} {f g f' g' : Nat → Nat → Int} (h : ∀ y x, y < R → x < C → f y x = f' y x) (h2 : ∀ y x, y < R → x < C → g y x = g' y x) : sameL R C f g = sameL R C f' g' := by
  unfold sameL
  rw [rowsL_congr h, rowsL_congr h2, rowsL_congr (f := trM f) (g := trM f') fun y x hy hx => h x y hx hy, rowsL_congr (f := trM g) (g := trM g') fun y x hy hx => h2 x y hx hy]
theorem width_mk {R C : Nat} {f : Nat → Nat → Int} (h : Img R C f) : widthM (mkM R C f) = C := by
  have := h.r1
  unfold widthM mkM
  obtain ⟨n, rfl⟩ : ∃ n, R = n + 1 := ⟨R - 1, by omega⟩
  simp [List.range_succ_eq_map, rowF]
theorem sameB_mk {R C R' C' : Nat} {f g : Nat → Nat → Int} (h : Img R C f) (h' : Img R' C' g) : sameB (mkM R C f) (mkM R' C' g) = if R = R' ∧ C = C' then sameL R C f g else false := by
  unfold sameB
  rw [img_ok h, img_ok h', width_mk h, width_mk h', mkM_len, mkM_len]
  by_cases e1 : R = R'
  · by_cases e2 : C = C'
    · subst e1; subst e2
      rw [if_pos ⟨rfl, rfl⟩, sameL_congr (fun y x hy hx => cell_mk R C f hy hx) (fun y x hy hx => cell_mk R C g hy hx)]
      simp
    · rw [if_neg fun e => e2 e.2]; simp [e2]
  · rw [if_neg fun e => e1 e.1]; simp [e1]
theorem rowF_inj {n : Nat} {f g : Nat → Int} (h : rowF n f = rowF n g) : ∀ i, i < n → f i = g i := fun i hi => by
  have h1 : (rowF n f)[i]? = (rowF n g)[i]? := by rw [h]
  simpa [rowF, hi] using h1
theorem sameB_yes {m l : List (List Int)} (h : sameB m l = true) : ∃ R C f g, m = mkM R C f ∧ l = mkM R C g ∧ Img R C f ∧ Img R C g ∧ SameF R C f g := by
  have h0 := h
  unfold sameB at h0
  simp only [Bool.and_eq_true] at h0
  obtain ⟨R, C, f, rfl, hI⟩ := ok_img h0.1.1
  obtain ⟨R', C', g, rfl, hJ⟩ := ok_img h0.1.2
  rw [sameB_mk hI hJ] at h
  by_cases e : R = R' ∧ C = C'
  · obtain ⟨rfl, rfl⟩ := e
    rw [if_pos ⟨rfl, rfl⟩] at h
    unfold sameL at h
    simp only [Bool.and_eq_true, beq_iff_eq] at h
    refine ⟨R, C, f, g, rfl, rfl, hI, hJ, fun y hy => ?_, fun x hx => ?_⟩
    · have := rowF_inj h.1 y hy; omega
    · have := rowF_inj h.2 x hx
      show rs R (trM f) x = rs R (trM g) x
      omega
  · rw [if_neg e] at h; cases h
theorem implSameB_any (v u : Value) (m l : List (List Int)) (w : World) (hin : InMat w v m) (hin2 : InMat w u l) :
    Calls Try.prog 12 #[v, u] w fun e w' => e = .returned (.bool (sameB m l)) ∧ Below w.heap.size w w' := by
  cases h : okB m && okB l with
  | false =>
    have := implSameSums_no v u m l w hin hin2 h
    unfold sameB
    rw [h, Bool.false_and]; exact this
  | true =>
    simp only [Bool.and_eq_true] at h
    obtain ⟨R, C, f, rfl, hI⟩ := ok_img h.1
    obtain ⟨R', C', g, rfl, hJ⟩ := ok_img h.2
    rw [sameB_mk hI hJ]
    exact implSameSums_any v u R C R' C' f g w hin hin2 hI hJ
theorem specSameB_any (v u : Value) (m l : List (List Int)) (w : World) (hin : InMat w v m) (hin2 : InMat w u l) :
    Calls Try.prog 63 #[v, u] w fun e w' => e = .returned (.bool (sameB m l)) ∧ Below w.heap.size w w' := by
  cases h : okB m && okB l with
  | false =>
    have := specSameSums_neg v u w (specDistanceOf_no v u m l w hin hin2 h)
    unfold sameB
    rw [h, Bool.false_and]; exact this
  | true =>
    simp only [Bool.and_eq_true] at h
    obtain ⟨R, C, f, rfl, hI⟩ := ok_img h.1
    obtain ⟨R', C', g, rfl, hJ⟩ := ok_img h.2
    rw [sameB_mk hI hJ]
    exact specSameSums_any v u R C R' C' f g w hin hin2 hI hJ
end Go.Proofs.Ytpfaaglaeholbaa
/-
  IsFixed of both.
-/
namespace Go.Proofs.Ytpfaaglaeholbaa
open Go.RowKit
set_option maxRecDepth 100000

theorem S_cnt (g : Nat → Int) : ∀ n, (∀ i, i < n → g i = 0 ∨ g i = 1) → Mx.S n g = (cnt (fun i => g i == 1) n : Nat)
  | 0, _ => rfl
  | n + 1, h => by
    rw [Mx.S, S_cnt g n fun i hi => h i (Nat.lt_succ_of_lt hi), cnt]
    rcases h n (Nat.lt_succ_self n) with e | e <;> simp [e]
theorem rowF_getD {n : Nat} {g : Nat → Int} {i : Nat} (h : i < n) : (rowF n g).getD i 0 = g i := by simp [rowF, h]
section
variable {R C : Nat} {f : Nat → Nat → Int}
theorem rows_len (R C : Nat) (f : Nat → Nat → Int) : (rowsL R C f).length = R := rowF_len _ _
theorem rowsL_at (hI : Img R C f) {y : Nat} (hy : y < R) : (rowsL R C f).getD y 0 = Mx.S C (f y) := by
  unfold rowsL
  rw [rowF_getD hy, S_cnt _ _ fun x hx => hI.cell y x hy hx]; rfl
theorem colsL_at (hI : Img R C f) {x : Nat} (hx : x < C) : (rowsL C R (trM f)).getD x 0 = Mx.S R fun y => f y x := by
  unfold rowsL
  rw [rowF_getD hx, S_cnt _ _ fun y hy => hI.cell y x hy hx]; rfl
theorem imgF_iff (hI : Img R C f) (g : Nat → Nat → Int) : ImgF (rowsL R C f) (rowsL C R (trM f)) g ↔ (∀ y x, y < R → x < C → g y x = 0 ∨ g y x = 1) ∧ (∀ y, y < R → Mx.S C (g y) = Mx.S C (f y)) ∧ ∀ x, x < C → Mx.S R (fun y => g y x) = Mx.S R fun y => f y x := by
  constructor
  · rintro ⟨h1, h2, h3⟩
    rw [rows_len, rows_len] at h1
    refine ⟨h1, fun y hy => ?_, fun x hx => ?_⟩
    · have := h2 y (by rw [rows_len]; exact hy)
      rw [rows_len, rowsL_at hI hy] at this; exact this
    · have := h3 x (by rw [rows_len]; exact hx)
      rw [rows_len, colsL_at hI hx] at this; exact this
  · rintro ⟨h1, h2, h3⟩
    refine ⟨by rw [rows_len, rows_len]; exact h1, fun y hy => ?_, fun x hx => ?_⟩
    · rw [rows_len] at hy
      rw [rows_len, rowsL_at hI hy]; exact h2 y hy
    · rw [rows_len] at hx
      rw [rows_len, colsL_at hI hx]; exact h3 x hx
theorem imgF_self (hI : Img R C f) : ImgF (rowsL R C f) (rowsL C R (trM f)) f := (imgF_iff hI f).2 ⟨hI.cell, fun _ _ => rfl, fun _ _ => rfl⟩
end
theorem listF_at {n C : Nat} {m : Nat → Nat → Int} {y x : Nat} (hy : y < n) (hx : x < C) : ((listF n C m).getD y []).getD x 0 = m y x := by
  simp [listF, tabL, hy, hx]
theorem place_img {r c : List Int} {y x : Nat} (v : Int) (hr : 1 ≤ r.length ∧ r.length ≤ 5) (hc : 1 ≤ c.length ∧ c.length ≤ 5) (hy : y < r.length) (hx : x < c.length) (h : HasImg r c) : placeOf r c y x v = true ↔ ∃ g, ImgF r c g ∧ g y x = v := by
  unfold placeOf
  rw [exists_of_img hr hc h, decide_eq_true (show (0 : Int) ≤ y ∧ (y : Int) < r.length ∧ (0 : Int) ≤ x ∧ (x : Int) < c.length by omega), Int.toNat_natCast, Int.toNat_natCast, ← place_iff v hr.2 hc hy h, Bool.true_and, Bool.true_and, List.any_eq_true]
  constructor
  · rintro ⟨l, hl, e⟩
    exact ⟨_, (all_sound r c hr.2 hc h l hl).2.2, by simpa using e⟩
  · rintro ⟨g, hg, e⟩
    exact ⟨_, all_complete r c hr.2 hc g hg, by rw [listF_at hy hx, e]; simp⟩
theorem fix_rch {R C : Nat} {f : Nat → Nat → Int} (hI : Img R C f) {y x : Nat} (hy : y < R) (hx : x < C) : placeOf (rowsL R C f) (rowsL C R (trM f)) y x (1 - f y x) = true ↔ if f y x = 1 then Rch R C f (R + x) y else Rch R C f y (R + x) := by
  rw [place_img _ (by rw [rows_len]; exact ⟨hI.r1, hI.r2⟩) (by rw [rows_len]; exact ⟨hI.c1, hI.c2⟩) (by rw [rows_len]; exact hy) (by rw [rows_len]; exact hx) ⟨f, imgF_self hI⟩]
  constructor
  · rintro ⟨g, hg, e⟩
    obtain ⟨h1, h2, h3⟩ := (imgF_iff hI g).1 hg
    exact rch_of_free hI.cell hy hx h1 h2 h3 e
  · intro h
    obtain ⟨g, h1, h2, h3, h4⟩ := free_of_rch hI.cell hy hx h
    exact ⟨g, (imgF_iff hI g).2 ⟨h1, h2, h3⟩, h4⟩
/-- Whether a cell is fixed. -/
def fixB (R C : Nat) (f : Nat → Nat → Int) (y x : Int) : Bool := decide (0 ≤ y ∧ y < R ∧ 0 ≤ x ∧ x < C) && !placeOf (rowsL R C f) (rowsL C R (trM f)) y x (1 - atM R C f y x)
theorem fixB_in {R C : Nat} {f : Nat → Nat → Int} {y x : Nat} (hy : y < R) (hx : x < C) : fixB R C f y x = !placeOf (rowsL R C f) (rowsL C R (trM f)) y x (1 - f y x) := by
  unfold fixB atM
  have h : (0 : Int) ≤ y ∧ (y : Int) < R ∧ (0 : Int) ≤ x ∧ (x : Int) < C := by omega
  rw [decide_eq_true h, if_pos h, Int.toNat_natCast, Int.toNat_natCast, Bool.true_and]
set_option maxHeartbeats 1000000 in
theorem specIsFixed_no (v : Value) (m : List (List Int)) (y x : Int) (w : World) (hin : InMat w v m) (h : okB m = false) :
    Calls Try.prog 41 #[v, .int .i64 y, .int .i64 x] w fun e w' => e = .returned (.bool false) ∧ Below w.heap.size w w' := by
  have HI := hide hin; have H := hide h
  clear hin h
  go_enter Try.func41, Try.ntmps41
  go_wp2_with ((with_reducible refine (l02In_no v m y x _ HI.out H.out).mono ?_); rintro e w' ⟨rfl, rfl⟩)
  go_ret
  exact ⟨rfl, Below.refl _ _⟩
set_option maxHeartbeats 2000000 in
theorem specIsFixed_yes (v : Value) (R C : Nat) (f : Nat → Nat → Int) (y x : Int) (w : World) (hin : InMat w v (mkM R C f)) (hI : Img R C f) :
    Calls Try.prog 41 #[v, .int .i64 y, .int .i64 x] w fun e w' => e = .returned (.bool (fixB R C f y x)) ∧ Below w.heap.size w w' := by
  by_cases hb : 0 ≤ y ∧ y < R ∧ 0 ≤ x ∧ x < C
  · obtain ⟨y, rfl⟩ : ∃ k : Nat, y = k := ⟨y.toNat, by omega⟩
    obtain ⟨x, rfl⟩ : ∃ k : Nat, x = k := ⟨x.toNat, by omega⟩
    have hy : y < R := by omega
    have hx : x < C := by omega
    have hyI : (y : Int) < R := by omega
    have hxI : (x : Int) < C := by omega
    have H1 := hide (l02In_img v R C f y x w hin hI true ⟨fun _ => hb, fun _ => rfl⟩)
    have HR := hide (fun (s : Nat) (hs : s < R + C) => l07Reach_any v R C f s w hin hI hs)
    have HFR := hide (fix_rch hI hy hx)
    have HFB := hide (fixB_in (f := f) hy hx)
    have HCL := hide (hI.cell y x hy hx)
    obtain ⟨g0, o0, c0, rfl, hg0, hcell⟩ := inMat_img hin (by omega) (by omega)
    obtain ⟨g1, o1, k1, hr, hg1, hc⟩ := hcell y hy
    have hz := hc x hx
    obtain ⟨s, hs⟩ : ∃ s, s = R + x := ⟨_, rfl⟩
    have hsI : (R : Int) + (x : Int) = (s : Int) := by omega
    have hsn : s < R + C := by omega
    have hR5 := hI.r2; have hC5 := hI.c2
    obtain ⟨pl, hpl⟩ : ∃ pl, pl = placeOf (rowsL R C f) (rowsL C R (trM f)) y x (1 - f y x) := ⟨_, rfl⟩
    rw [← hpl] at HFR HFB
    rw [HFB.out]
    rw [← hs] at HFR
    obtain ⟨z, hzz⟩ : ∃ z, z = f y x := ⟨_, rfl⟩
    rw [← hzz] at hz HCL HFR
    obtain ⟨N, hN⟩ : ∃ N, N = R + C := ⟨_, rfl⟩
    have HN := hide hN
    have hsN : s < N := by omega
    have hsNI : (s : Int) < (N : Int) := by omega
    have hyN : y < N := by omega
    have hyNI : (y : Int) < (N : Int) := by omega
    clear hin hI hcell hc hpl hzz hs HFB hN
    rcases HCL.out with rfl | rfl
    · have hF := HFR.out
      rw [if_neg (by decide)] at hF
      have HF := hide hF
      clear HCL HFR hF
      go_enter Try.func41, Try.ntmps41
      go_wp2_with (first | ((with_reducible refine H1.out.mono ?_); rintro e w' ⟨rfl, rfl⟩) | ((with_reducible refine (HR.out y (by omega)).mono ?_); rintro e w3 ⟨g, b, rfl, hm, hb3, hbv⟩; rw [← HN.out] at hm; have hcm := (marks_cell hm hsN).1; have HBV := hide (hbv s hsn); have HB3 := hide hb3; rw [← HN.out]; obtain ⟨q, hq⟩ : ∃ q, q = b s := ⟨_, rfl⟩; rw [← hq] at hcm HBV; clear hm hbv hb3 hq))
      go_ret
      refine ⟨?_, HB3.out⟩
      have : pl = q := by rw [Bool.eq_iff_iff, HF.out, HBV.out]
      rw [this]; rfl
    · have hF := HFR.out
      rw [if_pos rfl] at hF
      have HF := hide hF
      clear HCL HFR hF
      go_enter Try.func41, Try.ntmps41
      go_wp2_with (first | ((with_reducible refine H1.out.mono ?_); rintro e w' ⟨rfl, rfl⟩) | ((with_reducible refine (HR.out s hsn).mono ?_); rintro e w3 ⟨g, b, rfl, hm, hb3, hbv⟩; rw [← HN.out] at hm; have hcm := (marks_cell hm hyN).1; have HBV := hide (hbv y (by omega)); have HB3 := hide hb3; rw [← HN.out]; obtain ⟨q, hq⟩ : ∃ q, q = b y := ⟨_, rfl⟩; rw [← hq] at hcm HBV; clear hm hbv hb3 hq))
      go_ret
      refine ⟨?_, HB3.out⟩
      have : pl = q := by rw [Bool.eq_iff_iff, HF.out, HBV.out]
      rw [this]; rfl
  · have H1 := hide (l02In_img v R C f y x w hin hI false ⟨fun h => (by cases h), fun h => absurd h hb⟩)
    have HF : Hid (fixB R C f y x = false) := hide (by unfold fixB; rw [decide_eq_false hb]; rfl)
    rw [HF.out]
    clear hin hI hb HF
    go_enter Try.func41, Try.ntmps41
    go_wp2_with ((with_reducible refine H1.out.mono ?_); rintro e w' ⟨rfl, rfl⟩)
    go_ret
    exact ⟨rfl, Below.refl _ _⟩
/-- Whether a cell is fixed, in any list of lists. -/
def fixM (m : List (List Int)) (y x : Int) : Bool := okB m && fixB m.length (widthM m) (cellM m) y x
theorem fixB_congr {R C : Nat} {f g : Nat → Nat → Int} (h : ∀ y x, y < R → x < C → f y x = g y x) (y x : Int) : fixB R C f y x = fixB R C g y x := by
  unfold fixB
  by_cases hb : 0 ≤ y ∧ y < R ∧ 0 ≤ x ∧ x < C
  · rw [rowsL_congr h, rowsL_congr (f := trM f) (g := trM g) fun y x hy hx => h x y hx hy]
    unfold atM
    rw [if_pos hb, if_pos hb, h _ _ (by omega) (by omega)]
  · rw [decide_eq_false hb]; rfl
theorem fixM_mk {R C : Nat} {f : Nat → Nat → Int} (hI : Img R C f) (y x : Int) : fixM (mkM R C f) y x = fixB R C f y x := by
  unfold fixM
  rw [img_ok hI, mkM_len, width_mk hI, Bool.true_and]
  exact fixB_congr (fun y x hy hx => cell_mk R C f hy hx) y x
theorem specIsFixed_any (v : Value) (m : List (List Int)) (y x : Int) (w : World) (hin : InMat w v m) :
    Calls Try.prog 41 #[v, .int .i64 y, .int .i64 x] w fun e w' => e = .returned (.bool (fixM m y x)) ∧ Below w.heap.size w w' := by
  cases h : okB m with
  | false => unfold fixM; rw [h]; exact specIsFixed_no v m y x w hin h
  | true =>
    obtain ⟨R, C, f, rfl, hI⟩ := ok_img h
    rw [fixM_mk hI]; exact specIsFixed_yes v R C f y x w hin hI
set_option maxHeartbeats 1000000 in
theorem implIsFixed_no (v : Value) (m : List (List Int)) (y x : Int) (w : World) (hin : InMat w v m) (h : okB m = false) :
    Calls Try.prog 42 #[v, .int .i64 y, .int .i64 x] w fun e w' => e = .returned (.bool false) ∧ Below w.heap.size w w' := by
  have HI := hide hin; have H := hide h
  clear hin h
  go_enter Try.func42, Try.ntmps42
  go_wp2_with ((with_reducible refine (implCellAt_no v m y x _ HI.out H.out).mono ?_); rintro e w' ⟨rfl, hb⟩)
  go_ret
  exact ⟨rfl, hb⟩
set_option maxHeartbeats 2000000 in
theorem implIsFixed_yes (v : Value) (R C : Nat) (f : Nat → Nat → Int) (y x : Int) (w : World) (hin : InMat w v (mkM R C f)) (hI : Img R C f) :
    Calls Try.prog 42 #[v, .int .i64 y, .int .i64 x] w fun e w' => e = .returned (.bool (fixB R C f y x)) ∧ Below w.heap.size w w' := by
  have HI := hide hin; have H := hide hI
  obtain ⟨z, hz⟩ : ∃ z, z = atM R C f y x := ⟨_, rfl⟩
  have HZ := hide hz
  have hz1 : 0 ≤ y ∧ y < R ∧ 0 ≤ x ∧ x < C → z = 0 ∨ z = 1 := fun hb => by
    rw [hz]; unfold atM; rw [if_pos hb]; exact hI.cell _ _ (by omega) (by omega)
  have HFB : Hid (fixB R C f y x = (decide (0 ≤ y ∧ y < R ∧ 0 ≤ x ∧ x < C) && !placeOf (rowsL R C f) (rowsL C R (trM f)) y x (1 - z))) := hide (by rw [hz]; rfl)
  rw [HFB.out]
  by_cases hb : 0 ≤ y ∧ y < R ∧ 0 ≤ x ∧ x < C
  · have hz01 := hz1 hb
    have hne : z ≠ -1 := by omega
    have hsub : IntKind.i64.wrap (1 - z) = 1 - z := IntWalk.i64_in _ (by omega)
    rw [decide_eq_true hb, Bool.true_and]
    clear hin hI hz hz1 HFB hb
    go_enter Try.func42, Try.ntmps42
    go_wp2_with fail
    refine (implCellAt_yes v R C f y x _ HI.out H.out).mono ?_
    rintro e w1 ⟨rfl, hb1⟩
    rw [← HZ.out]
    have I1 := hide (inMat_below HI.out hb1); have B1 := hide hb1
    clear hb1
    go_wp2_with fail
    refine (implRowSums_yes v R C f _ I1.out H.out).mono ?_
    rintro e w2 ⟨rv, rfl, hr, hb2⟩
    have I2 := hide (inMat_below I1.out hb2); have B2 := hide (B1.out.trans (hb2.mono B1.out.size)); have R2 := hide (inRow_own hr)
    clear hb2 hr
    go_wp2_with fail
    refine (implColSums_yes v R C f _ I2.out H.out).mono ?_
    rintro e w3 ⟨cv, rfl, hc, hb3⟩
    have B3 := hide (B2.out.trans (hb3.mono B2.out.size)); have R3 := hide (inRow_below R2.out hb3); have C3 := hide (inRow_own hc)
    clear hb3 hc
    go_wp2_with fail
    refine (implPlace_any rv cv _ _ y x (1 - z) _ R3.out C3.out).mono ?_
    rintro e w4 ⟨rfl, hb4⟩
    have B4 := hide (B3.out.trans (hb4.mono B3.out.size))
    clear hb4
    go_wp2
    go_ret
    refine ⟨?_, B4.out⟩
    have hbz : (z != -1) = true := by simpa using hne
    show Ending.returned (.bool (z != -1 && !placeOf (rowsL R C f) (rowsL C R (trM f)) y x (1 - z))) = _
    rw [hbz, Bool.true_and]
  · have hm : z = -1 := by rw [hz]; unfold atM; rw [if_neg hb]
    subst hm
    rw [decide_eq_false hb, Bool.false_and]
    clear hin hI hz hz1 HFB hb
    go_enter Try.func42, Try.ntmps42
    go_wp2_with fail
    refine (implCellAt_yes v R C f y x _ HI.out H.out).mono ?_
    rintro e w1 ⟨rfl, hb1⟩
    rw [← HZ.out]
    go_wp2
    go_ret
    exact ⟨rfl, hb1⟩
theorem implIsFixed_any (v : Value) (m : List (List Int)) (y x : Int) (w : World) (hin : InMat w v m) :
    Calls Try.prog 42 #[v, .int .i64 y, .int .i64 x] w fun e w' => e = .returned (.bool (fixM m y x)) ∧ Below w.heap.size w w' := by
  cases h : okB m with
  | false => unfold fixM; rw [h]; exact implIsFixed_no v m y x w hin h
  | true =>
    obtain ⟨R, C, f, rfl, hI⟩ := ok_img h
    rw [fixM_mk hI]; exact implIsFixed_yes v R C f y x w hin hI
end Go.Proofs.Ytpfaaglaeholbaa
/-
  The exact law on IsFixed, walked.
-/
namespace Go.Proofs.Ytpfaaglaeholbaa
open Go.RowKit
set_option linter.unusedVariables false

set_option maxRecDepth 100000 in
set_option maxHeartbeats 4000000 in
theorem lawIsFixed_walk (a : Option Addr) (n c : Nat) (m : List (List Int)) (y x : Int) (w : World) (hin : InMat w (.slice a n c) m) (_ : (Lit.int .i64 y).wf = true) (_ : (Lit.int .i64 x).wf = true) :
    Calls Try.prog 9 #[.slice a n c, .int .i64 y, .int .i64 x] w fun e w' => e = .returned (.bool true) ∧ Below w.heap.size w w' := by
  have HI := hide hin
  obtain ⟨val, hval⟩ : ∃ val, val = fixM m y x := ⟨_, rfl⟩
  have HS := hide fun v w h => specIsFixed_any v m y x w h
  have HM := hide fun v w h => implIsFixed_any v m y x w h
  rw [← hval] at HS HM
  clear hin hval
  go_enter Try.func9, Try.ntmps9
  have HB := hide (Below.refl w.heap.size w)
  go_wp2_with fail
  refine (szIntSS_any _ m 1048576 _ (by omega) HI.out).mono ?_
  rintro e w1 ⟨r, rfl, hr, hb⟩
  have hs1 := hb.size
  replace HB := hide (HB.out.trans (hb.mono HB.out.size))
  clear hb
  rcases hr with rfl | ⟨hsz, rfl⟩
  · go_wp2
    go_ret
    exact ⟨rfl, HB.out⟩
  · go_wp2_with fail
    refine (toIntSS_any _ m _ (by omega) (inMat_below HI.out HB.out)).mono ?_
    rintro e w2 ⟨v1, rfl, hv, hb⟩
    have hs2 := hb.size
    replace HB := hide (HB.out.trans (hb.mono HB.out.size))
    have HV1 := hide (hv)
    clear hb
    clear hv
    go_wp2_with fail
    refine (HS.out v1 _ (inMat_own HV1.out)).mono ?_
    rintro e w3 ⟨rfl, hb⟩
    have hs3 := hb.size
    replace HV1 := hide (ownMat_below HV1.out hb)
    replace HB := hide (HB.out.trans (hb.mono HB.out.size))
    clear hb
    go_wp2_with fail
    refine (toIntSS_any _ m _ (by omega) (inMat_below HI.out HB.out)).mono ?_
    rintro e w4 ⟨v2, rfl, hv, hb⟩
    have hs4 := hb.size
    replace HV1 := hide (ownMat_below HV1.out hb)
    replace HB := hide (HB.out.trans (hb.mono HB.out.size))
    have HV2 := hide (hv)
    clear hb
    clear hv
    go_wp2_with fail
    refine (HM.out v2 _ (inMat_own HV2.out)).mono ?_
    rintro e w5 ⟨rfl, hb⟩
    have hs5 := hb.size
    replace HV1 := hide (ownMat_below HV1.out hb)
    replace HV2 := hide (ownMat_below HV2.out hb)
    replace HB := hide (HB.out.trans (hb.mono HB.out.size))
    clear hb
    go_wp2_with fail
    refine (toIntSS_any _ m _ (by omega) (inMat_below HI.out HB.out)).mono ?_
    rintro e w6 ⟨v3, rfl, hv, hb⟩
    have hs6 := hb.size
    replace HV1 := hide (ownMat_below HV1.out hb)
    replace HV2 := hide (ownMat_below HV2.out hb)
    replace HB := hide (HB.out.trans (hb.mono HB.out.size))
    have HV3 := hide (hv)
    clear hb
    clear hv
    go_wp2_with fail
    refine (eqIntSS_same v2 v3 m _ (inMat_own HV2.out) (inMat_own HV3.out)).mono ?_
    rintro e w7 ⟨rfl, hb⟩
    have hs7 := hb.size
    replace HV1 := hide (ownMat_below HV1.out hb)
    replace HV2 := hide (ownMat_below HV2.out hb)
    replace HV3 := hide (ownMat_below HV3.out hb)
    replace HB := hide (HB.out.trans (hb.mono HB.out.size))
    clear hb
    go_wp2
    go_ret
    exact ⟨rfl, HB.out⟩
end Go.Proofs.Ytpfaaglaeholbaa
