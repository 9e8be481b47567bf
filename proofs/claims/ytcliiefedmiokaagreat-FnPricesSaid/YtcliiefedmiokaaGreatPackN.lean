/-
  Texts of this claim, one behind the other: SameS, SameB, DelI, DelR, PushL, RowsS, Subs.
-/
import Derived.Test.YtcliiefedmiokaaGreatPackF
import Derived.Test.YtcliiefedmiokaaGreatPackM
import Derived.Test.YtcliiefedmiokaaGreatPackG
import Derived.Test.YtcliiefedmiokaaGreatPackC
import Derived.Shelf.Slices.Delete
import Derived.Shelf.Slices.Cells
import Derived.Lib.OwnBridge
import Derived.Test.YtcliiefedmiokaaGreatPackJ
import Derived.Test.YtcliiefedmiokaaGreatPackD
import Derived.Laws.AppendOwnNone
import Derived.Test.YtcliiefedmiokaaGreatPackL
/-
  SameSums of both.
-/
namespace Go.Proofs.YtcliiefedmiokaaGreat
open Go.RowKit Go.Maps

/-- The rows' and the columns' directions. -/
def rc : List (Int × Int) := [(1, 0), (0, 1)]
theorem lines_row (R C : Nat) (f : Nat → Nat → Int) (n : Int) : linesC C f (R * C) ⟨1, 0, n⟩ rc = if 0 ≤ n ∧ n < R then ((rs C f n.toNat : Nat) : Int) else 0 := by
  have h : lineC C f (1, 0) (R * C) ⟨1, 0, n⟩ = (cnt (onL C f (1, 0) n) (C * R) : Nat) := by rw [Nat.mul_comm R C]; exact if_pos ⟨rfl, rfl⟩
  have h2 : lineC C f (0, 1) (R * C) ⟨1, 0, n⟩ = 0 := if_neg (fun h => by cases h.1)
  rw [rc, linesC, linesC, linesC, h, h2, cnt_rows]
  split <;> simp
theorem lines_col (R C : Nat) (f : Nat → Nat → Int) (n : Int) : linesC C f (R * C) ⟨0, 1, n⟩ rc = if 0 ≤ n ∧ n < C then ((cs R f (C - 1 - n.toNat) : Nat) : Int) else 0 := by
  have h : lineC C f (0, 1) (R * C) ⟨0, 1, n⟩ = (cnt (onL C f (0, 1) n) (C * R) : Nat) := by rw [Nat.mul_comm R C]; exact if_pos ⟨rfl, rfl⟩
  have h2 : lineC C f (1, 0) (R * C) ⟨0, 1, n⟩ = 0 := if_neg (fun h => by cases h.1)
  rw [rc, linesC, linesC, linesC, h, h2, cnt_cols]
  split <;> simp
theorem lines_none (C : Nat) (f : Nat → Nat → Int) (N : Nat) (k : Key) (h1 : ¬ (k.x = 1 ∧ k.y = 0)) (h2 : ¬ (k.x = 0 ∧ k.y = 1)) : linesC C f N k rc = 0 := by
  simp only [rc, linesC, lineC]
  rw [if_neg h1, if_neg h2]; rfl
theorem rowsL_eq {R C : Nat} {f g : Nat → Nat → Int} : (rowsL R C f == rowsL R C g) = true ↔ ∀ y, y < R → rs C f y = rs C g y := by
  rw [beq_iff_eq]
  constructor
  · intro h y hy
    have h1 := congrArg (fun l => l[y]?) h
    simp only [rowsL, rowF, List.getElem?_map, List.getElem?_range hy, Option.map_some, Option.some.injEq] at h1
    omega
  · intro h
    exact rowF_congr fun y hy => by rw [h y hy]
def sameL (R C : Nat) (f g : Nat → Nat → Int) : Bool := (rowsL R C f == rowsL R C g) && (rowsL C R (trM f) == rowsL C R (trM g))
theorem same_lines {R C : Nat} {f g : Nat → Nat → Int} (hR : R ≤ 5) (hC : C ≤ 5) : (∀ k : Key, k.wf → thereK (fun k => linesC C f (R * C) k rc - linesC C g (R * C) k rc) k = false) ↔ sameL R C f g = true := by
  have hcs : ∀ (f : Nat → Nat → Int) x, rs R (trM f) x = cs R f x := fun _ _ => rfl
  unfold sameL
  rw [Bool.and_eq_true, rowsL_eq, rowsL_eq]
  constructor
  · intro h
    have h0 : ∀ k : Key, k.wf → linesC C f (R * C) k rc = linesC C g (R * C) k rc := fun k hk => by
      have := h k hk
      simp only [thereK, decide_eq_false_iff_not, ne_eq, Decidable.not_not] at this
      omega
    refine ⟨fun y hy => ?_, fun x hx => ?_⟩
    · have := h0 ⟨1, 0, y⟩ (key_wf (by decide) (by decide) (WalkArith.wf_i64 (by omega)))
      rw [lines_row, lines_row, if_pos (by omega), if_pos (by omega)] at this
      have e : ((y : Int)).toNat = y := by omega
      rw [e] at this; omega
    · rw [hcs, hcs]
      have := h0 ⟨0, 1, (C - 1 - x : Nat)⟩ (key_wf (by decide) (by decide) (WalkArith.wf_i64 (by omega)))
      rw [lines_col, lines_col, if_pos (by omega), if_pos (by omega)] at this
      have e : C - 1 - (((C - 1 - x : Nat) : Int)).toNat = x := by omega
      rw [e] at this; omega
  · rintro ⟨h1, h2⟩ k -
    simp only [thereK, decide_eq_false_iff_not, ne_eq, Decidable.not_not]
    obtain ⟨kx, ky, n⟩ := k
    by_cases e1 : kx = 1 ∧ ky = 0
    · obtain ⟨rfl, rfl⟩ := e1
      rw [lines_row, lines_row]
      split
      · rename_i hn; rw [h1 n.toNat (by omega)]; omega
      · rfl
    · by_cases e2 : kx = 0 ∧ ky = 1
      · obtain ⟨rfl, rfl⟩ := e2
        rw [lines_col, lines_col]
        split
        · rename_i hn
          have := h2 (C - 1 - n.toNat) (by omega)
          rw [hcs, hcs] at this
          rw [this]; omega
        · rfl
      · rw [lines_none C f (R * C) _ e1 e2, lines_none C g (R * C) _ e1 e2]; rfl

theorem iok_quiet (v : Value) (m : List (List Int)) (w : World) (n : Nat) (b : Bool) (hin : InMat w v m) (hb : okB m = b) :
    Calls Tryz.prog 37 #[v] (w.drewN n) fun e w'' => e = .returned (.bool b) ∧ ∃ k, w'' = w.drewN k := by
  refine Calls.quiet_of_same ((implImageOk_any v m (w.drewN n) hin).mono ?_)
  rintro e w' ⟨rfl, rfl⟩
  exact ⟨by rw [hb], rfl⟩
set_option maxRecDepth 100000 in
set_option maxHeartbeats 1000000 in
theorem implSameSums_no (v u : Value) (m l : List (List Int)) (w : World) (hin : InMat w v m) (hin2 : InMat w u l) (h : (okB m && okB l) = false) :
    Calls Tryz.prog 17 #[v, u] w fun e w' => e = .returned (.bool false) ∧ Below w.heap.size w w' := by
  have HI := hide hin; have HJ := hide hin2
  clear hin hin2
  cases h1 : okB m with
  | false =>
    have H1 := hide h1
    clear h h1
    go_enter Tryz.func17, Tryz.ntmps17
    go_wp2
    go_quiet ((go_at_call 37; exact iok_quiet _ m _ _ false HI.out H1.out))
    go_wp2
    go_ret
    exact ⟨rfl, below_draws (Below.refl _ _) _⟩
  | true =>
    have h2 : okB l = false := by rw [h1] at h; simpa using h
    have H1 := hide h1; have H2 := hide h2
    clear h h1 h2
    go_enter Tryz.func17, Tryz.ntmps17
    go_wp2
    go_quiet ((go_at_call 37; (first | with_reducible exact iok_quiet v m _ _ true HI.out H1.out | with_reducible exact iok_quiet u l _ _ false HJ.out H2.out)))
    go_wp2
    go_ret
    exact ⟨rfl, below_draws (Below.refl _ _) _⟩
set_option maxRecDepth 100000 in
set_option maxHeartbeats 1000000 in
theorem implSameSums_rows (v u : Value) (R C R' C' : Nat) (f g : Nat → Nat → Int) (w : World) (hin : InMat w v (mkM R C f)) (hin2 : InMat w u (mkM R' C' g)) (hI : Img R C f) (hI' : Img R' C' g) (hne : R ≠ R') :
    Calls Tryz.prog 17 #[v, u] w fun e w' => e = .returned (.bool false) ∧ Below w.heap.size w w' := by
  have HI := hide hin; have HJ := hide hin2; have H1 := hide (img_ok hI); have H2 := hide (img_ok hI')
  have hR1 := hI.r1; have hC1 := hI.c1; have hR := hI.r2; have hC := hI.c2
  have hR1' := hI'.r1; have hC1' := hI'.c1; have hR' := hI'.r2; have hC' := hI'.c2
  obtain ⟨ga, oa, ca, rfl, hga, -⟩ := inMat_img hin (by omega) (by omega)
  obtain ⟨gb, ob, cb, rfl, hgb, -⟩ := inMat_img hin2 (by omega) (by omega)
  have q1 : ((R : Int) == (R' : Int)) = false := by simp; omega
  have q2 : ((R : Int) != (R' : Int)) = true := by simp; omega
  clear hin hin2 hI hI' hne
  go_enter Tryz.func17, Tryz.ntmps17
  go_wp2
  go_quiet ((go_at_call 37; (first | with_reducible exact iok_quiet (.slice (some ⟨ga, oa, none⟩) R ca) _ _ _ true HI.out H1.out | with_reducible exact iok_quiet (.slice (some ⟨gb, ob, none⟩) R' cb) _ _ _ true HJ.out H2.out)))
  go_wp2
  go_ret
  exact ⟨rfl, below_draws (Below.refl _ _) _⟩
set_option maxRecDepth 100000 in
set_option maxHeartbeats 1000000 in
theorem implSameSums_cols (v u : Value) (R C C' : Nat) (f g : Nat → Nat → Int) (w : World) (hin : InMat w v (mkM R C f)) (hin2 : InMat w u (mkM R C' g)) (hI : Img R C f) (hI' : Img R C' g) (hne : C ≠ C') :
    Calls Tryz.prog 17 #[v, u] w fun e w' => e = .returned (.bool false) ∧ Below w.heap.size w w' := by
  have HI := hide hin; have HJ := hide hin2; have H1 := hide (img_ok hI); have H2 := hide (img_ok hI')
  have hR1 := hI.r1; have hC1 := hI.c1; have hR := hI.r2; have hC := hI.c2
  have hR1' := hI'.r1; have hC1' := hI'.c1; have hR' := hI'.r2; have hC' := hI'.c2
  obtain ⟨ga, oa, ca, rfl, hga, ha⟩ := inMat_img hin (by omega) (by omega)
  obtain ⟨gb, ob, cb, rfl, hgb, hb⟩ := inMat_img hin2 (by omega) (by omega)
  obtain ⟨ga', oa', ca', hxa, -, -⟩ := ha 0 (by omega)
  obtain ⟨gb', ob', cb', hxb, -, -⟩ := hb 0 (by omega)
  rw [Nat.add_zero] at hxa hxb
  have q1 : ((C : Int) == (C' : Int)) = false := by simp; omega
  have q2 : ((C : Int) != (C' : Int)) = true := by simp; omega
  have q3 : ((R : Int) != (R : Int)) = false := by simp
  have hR0 : 0 < R := by omega
  clear hin hin2 hI hI' hne ha hb
  go_enter Tryz.func17, Tryz.ntmps17
  go_wp2
  go_quiet ((go_at_call 37; (first | with_reducible exact iok_quiet (.slice (some ⟨ga, oa, none⟩) R ca) _ _ _ true HI.out H1.out | with_reducible exact iok_quiet (.slice (some ⟨gb, ob, none⟩) R cb) _ _ _ true HJ.out H2.out)))
  go_wp2
  go_ret
  exact ⟨rfl, below_draws (Below.refl _ _) _⟩
set_option maxRecDepth 100000 in
set_option maxHeartbeats 2000000 in
theorem implSameSums_same (v u : Value) (R C : Nat) (f g : Nat → Nat → Int) (w : World) (hin : InMat w v (mkM R C f)) (hin2 : InMat w u (mkM R C g)) (hI : Img R C f) (hI' : Img R C g) :
    Calls Tryz.prog 17 #[v, u] w fun e w' => e = .returned (.bool (sameL R C f g)) ∧ Below w.heap.size w w' := by
  have HI := hide hin; have HJ := hide hin2; have H1 := hide (img_ok hI); have H2 := hide (img_ok hI')
  have HA := hide hI; have HB := hide hI'
  have hR1 := hI.r1; have hC1 := hI.c1; have hR := hI.r2; have hC := hI.c2
  obtain ⟨ga, oa, ca, rfl, hga, ha⟩ := inMat_img hin (by omega) (by omega)
  obtain ⟨gb, ob, cb, rfl, hgb, hb⟩ := inMat_img hin2 (by omega) (by omega)
  obtain ⟨ga', oa', ca', hxa, -, -⟩ := ha 0 (by omega)
  obtain ⟨gb', ob', cb', hxb, -, -⟩ := hb 0 (by omega)
  rw [Nat.add_zero] at hxa hxb
  have q2 : ((C : Int) != (C : Int)) = false := by simp
  have q3 : ((R : Int) != (R : Int)) = false := by simp
  have hR0 : 0 < R := by omega
  have HSL := hide (same_lines (f := f) (g := g) hR hC)
  have HND : Hid (∀ d ∈ rc, Near d.1 d.2) := hide (by
    intro d hd
    simp only [rc, List.mem_cons, List.not_mem_nil, or_false] at hd
    rcases hd with rfl | rfl <;> exact ⟨by decide, by decide, by decide, by decide⟩)
  have HRG : Hid (∀ (h : Nat → Nat → Int) (k : Key), 0 ≤ linesC C h (R * C) k rc ∧ linesC C h (R * C) k rc ≤ 1000) := hide fun h k => by
    have h1 := linesC_range C h (R * C) k rc
    have h2 : ((R * C : Nat) : Int) * (rc.length : Int) ≤ 50 := by
      have : R * C * rc.length ≤ 25 * 2 := Nat.mul_le_mul (Nat.mul_le_mul hR hC) (by decide)
      exact_mod_cast this
    omega
  clear hin hin2 hI hI' ha hb
  go_enter Tryz.func17, Tryz.ntmps17
  go_wp2
  go_quiet ((go_at_call 37; (first | with_reducible exact iok_quiet (.slice (some ⟨ga, oa, none⟩) R ca) _ _ _ true HI.out H1.out | with_reducible exact iok_quiet (.slice (some ⟨gb, ob, none⟩) R cb) _ _ _ true HJ.out H2.out)))
  go_wp2_with fail
  refine (alongRows_any _).mono ?_
  rintro e w1 ⟨rfl, hb⟩
  have HB1 := hide ((below_draws (Below.refl w.heap.size w) nq).trans hb); clear hb
  go_wp2_with fail
  refine (alongCols_any _).mono ?_
  rintro e w2 ⟨rfl, hb⟩
  have HB2 := hide (HB1.out.trans (hb.mono HB1.out.size)); clear hb
  have HB3 := hide (HB2.out.alloc HB2.out.size (.cells #[.int .i64 1, .int .i64 0, .int .i64 0, .int .i64 1] 58))
  go_wp2_with fail
  refine (lineMapOf_any _ _ R C f rc _ (inMat_below HI.out HB3.out) HA.out (inDirs2 w2 1 0 0 1) (by decide) HND.out).mono ?_
  rintro e w4 ⟨b1, rfl, hg1, hl, hb⟩
  have hbw1 := lm_lt hl
  have HL4 := hide hl; have HB4 := hide (HB3.out.trans (hb.mono HB3.out.size)); have hbW : w.heap.size ≤ b1 := Nat.le_trans HB3.out.size hg1
  clear hl hb hg1
  go_wp2_with fail
  refine (alongRows_any _).mono ?_
  rintro e w5 ⟨rfl, hb⟩
  have HL5 := hide (lm_below HL4.out hb); have hs5 := hb.size; have HB5 := hide (HB4.out.trans (hb.mono HB4.out.size)); clear hb
  go_wp2_with fail
  refine (alongCols_any _).mono ?_
  rintro e w6 ⟨rfl, hb⟩
  have HL6 := hide (lm_below HL5.out hb); have hs6 := hb.size; have HB6 := hide (HB5.out.trans (hb.mono HB5.out.size)); clear hb
  have hal : Below w6.heap.size w6 (w6.alloc (.cells #[.int .i64 1, .int .i64 0, .int .i64 0, .int .i64 1] 58)) := (Below.refl _ _).alloc (Nat.le_refl _) _
  have HL7 := hide (lm_below HL6.out hal); have HB7 := hide (HB6.out.trans (hal.mono HB6.out.size)); have hs7 := hal.size
  clear hal
  go_wp2_with fail
  refine (lineMapOf_any _ _ R C g rc _ (inMat_below HJ.out HB7.out) HB.out (inDirs2 w6 1 0 0 1) (by decide) HND.out).mono ?_
  rintro e w8 ⟨b2, rfl, hg2, hl, hb⟩
  have hne : b1 ≠ b2 := by omega
  have HL8 := hide (lm_below HL7.out hb); have HM8 := hide hl; have HB8 := hide (HB7.out.trans (hb.mono HB7.out.size))
  clear hl hb hg2 hs5 hs6 hs7
  go_wp2_with fail
  refine (cancel_any b1 b2 50 50 _ _ _ _ HL8.out HM8.out hne (by decide) (by decide) (HRG.out f) (HRG.out g)).mono ?_
  rintro e w9 ⟨nn, rfl, hnn, hl, hgr⟩
  have HL9 := hide hl
  have HB9 := hide (HB8.out.trans (grown_below hgr (fun k hk => by cases hk; exact hbW) HB8.out.size))
  clear hl hgr
  go_wp2_with (at_len; refine wpList_lenLM _ rfl _ rfl rfl HL9.out ?_; intro s hs hiff; have HIF := hide (hiff.trans HSL.out); clear hiff)
  go_ret
  refine ⟨ret_bool ?_, HB9.out⟩
  cases e : sameL R C f g with
  | true => have := HIF.out.2 e; simp [this]
  | false =>
    have : s ≠ 0 := fun h => by have := HIF.out.1 h; rw [e] at this; cases this
    simp [this]
theorem implSameSums_any (v u : Value) (R C R' C' : Nat) (f g : Nat → Nat → Int) (w : World) (hin : InMat w v (mkM R C f)) (hin2 : InMat w u (mkM R' C' g)) (h : Img R C f) (h' : Img R' C' g) :
    Calls Tryz.prog 17 #[v, u] w fun e w' => e = .returned (.bool (if R = R' ∧ C = C' then sameL R C f g else false)) ∧ Below w.heap.size w w' := by
  by_cases hR : R = R'
  · subst hR
    by_cases hC : C = C'
    · subst hC
      rw [if_pos ⟨rfl, rfl⟩]
      exact implSameSums_same v u R C f g w hin hin2 h h'
    · rw [if_neg fun e => hC e.2]
      exact implSameSums_cols v u R C C' f g w hin hin2 h h' hC
  · rw [if_neg fun e => hR e.1]
    exact implSameSums_rows v u R C R' C' f g w hin hin2 h h' hR

end Go.Proofs.YtcliiefedmiokaaGreat
/-
  Whether two lists of lists are images with the same sums.
-/
namespace Go.Proofs.YtcliiefedmiokaaGreat
open Go.RowKit

def sameB (m l : List (List Int)) : Bool := okB m && okB l && (decide (m.length = l.length) && decide (widthM m = widthM l) && sameL m.length (widthM m) (cellM m) (cellM l))
theorem rs_congr {C : Nat} {f g : Nat → Nat → Int} {y : Nat} (h : ∀ x, x < C → f y x = g y x) : rs C f y = rs C g y := cnt_congr fun x hx => by rw [h x hx]
theorem rowsL_congr {R C : Nat} {f g : Nat → Nat → Int} (h : ∀ y x, y < R → x < C → f y x = g y x) : rowsL R C f = rowsL R C g := rowF_congr fun y hy => by rw [rs_congr fun x hx => h y x hy hx]
theorem sameL_congr {R C : Nat} {f g f' g' : Nat → Nat → Int} (h : ∀ y x, y < R → x < C → f y x = f' y x) (h2 : ∀ y x, y < R → x < C → g y x = g' y x) : sameL R C f g = sameL R C f' g' := by
  unfold sameL
  rw [rowsL_congr h, rowsL_congr h2, rowsL_congr (f := trM f) (g := trM f') fun y x hy hx => h x y hx hy, rowsL_congr (f := trM g) (g := trM g') fun y x hy hx => h2 x y hx hy]
theorem width_mk {R C : Nat} {f : Nat → Nat → Int} (h : Img R C f) : widthM (mkM R C f) = C := by
  have := h.r1
  unfold widthM mkM
  obtain ⟨n, rfl⟩ : ∃ n, R = n + 1 := ⟨R - 1, by omega⟩
  simp [List.range_succ_eq_map, rowF]
theorem sameB_mk {R C R' C' : Nat} {f g : Nat → Nat → Int} (h : Img R C f) (h' : Img R' C' g) : sameB (mkM R C f) (mkM R' C' g) = if R = R' ∧ C = C' then sameL R C f g else false := by
  unfold sameB
  rw [img_ok h, img_ok h', width_mk h, width_mk h', mkM_len, mkM_len]
  by_cases e1 : R = R'
  · by_cases e2 : C = C'
    · subst e1; subst e2
      rw [if_pos ⟨rfl, rfl⟩, sameL_congr (fun y x hy hx => cell_mk R C f hy hx) (fun y x hy hx => cell_mk R C g hy hx)]
      simp
    · rw [if_neg fun e => e2 e.2]; simp [e2]
  · rw [if_neg fun e => e1 e.1]; simp [e1]
theorem rowF_inj {n : Nat} {f g : Nat → Int} (h : rowF n f = rowF n g) : ∀ i, i < n → f i = g i := fun i hi => by
  have h1 : (rowF n f)[i]? = (rowF n g)[i]? := by rw [h]
  simpa [rowF, hi] using h1
theorem sameB_yes {m l : List (List Int)} (h : sameB m l = true) : ∃ R C f g, m = mkM R C f ∧ l = mkM R C g ∧ Img R C f ∧ Img R C g ∧ SameF R C f g := by
  have h0 := h
  unfold sameB at h0
  simp only [Bool.and_eq_true] at h0
  obtain ⟨R, C, f, rfl, hI⟩ := ok_img h0.1.1
  obtain ⟨R', C', g, rfl, hJ⟩ := ok_img h0.1.2
  rw [sameB_mk hI hJ] at h
  by_cases e : R = R' ∧ C = C'
  · obtain ⟨rfl, rfl⟩ := e
    rw [if_pos ⟨rfl, rfl⟩] at h
    unfold sameL at h
    simp only [Bool.and_eq_true, beq_iff_eq] at h
    refine ⟨R, C, f, g, rfl, rfl, hI, hJ, fun y hy => ?_, fun x hx => ?_⟩
    · have := rowF_inj h.1 y hy; omega
    · have := rowF_inj h.2 x hx
      show rs R (trM f) x = rs R (trM g) x
      omega
  · rw [if_neg e] at h; cases h
theorem implSameB_any (v u : Value) (m l : List (List Int)) (w : World) (hin : InMat w v m) (hin2 : InMat w u l) :
    Calls Tryz.prog 17 #[v, u] w fun e w' => e = .returned (.bool (sameB m l)) ∧ Below w.heap.size w w' := by
  cases h : okB m && okB l with
  | false =>
    have := implSameSums_no v u m l w hin hin2 h
    unfold sameB
    rw [h, Bool.false_and]; exact this
  | true =>
    simp only [Bool.and_eq_true] at h
    obtain ⟨R, C, f, rfl, hI⟩ := ok_img h.1
    obtain ⟨R', C', g, rfl, hJ⟩ := ok_img h.2
    rw [sameB_mk hI hJ]
    exact implSameSums_any v u R C R' C' f g w hin hin2 hI hJ
end Go.Proofs.YtcliiefedmiokaaGreat
/-
  slices.Delete at integers, of a slice that the call owns; owned slices cut, and many of their cells written.
-/
namespace Go.Proofs.YtcliiefedmiokaaGreat
open Go.RowKit Go.Shelf

def Tryz.laysDel_ren : Go.Shelf.Ren := ⟨fun | 23 => 102 | n => n, fun | 22 => 30 | 3 => 3 | 4 => 4 | 0 => 0 | n => n, fun | n => n⟩
theorem Tryz.laysDel : Go.Proofs.Lays2.n23 Tryz.prog Tryz.laysDel_ren := {
  mixed := by kernel_rfl
  f23 := Tryz.func102.trans (congrArg some (by kernel_rfl))
  t0 := Tryz.underlying0
  a0 := Tryz.isAgg0
  z0 := Tryz.sizeOf0
  v0 := Tryz.zeroValue0
  t3 := Tryz.underlying3
  a3 := Tryz.isAgg3
  z3 := Tryz.sizeOf3
  v3 := Tryz.zeroValue3
  t4 := Tryz.underlying4
  a4 := Tryz.isAgg4
  z4 := Tryz.sizeOf4
  v4 := Tryz.zeroValue4
  t22 := Tryz.underlying30
  a22 := Tryz.isAgg30
  z22 := Tryz.sizeOf30
  v22 := Tryz.zeroValue30
  i3 := by kernel_rfl }
theorem delete_any (B : Nat) (v : Value) (r : List Int) (y : Nat) (w : World) (hown : w.ownsRow B 3 1 v r.length (ints r)) (hy : y < r.length) :
    Calls Tryz.prog 102 #[v, .int .i64 y, .int .i64 (y + 1 : Nat)] w fun e w' => ∃ u, e = .returned u ∧ w'.ownsRow B 3 1 u (r.eraseIdx y).length (ints (r.eraseIdx y)) ∧ Below B w w' := by
  have hne : v ≠ .slice none 0 0 := by
    rintro rfl
    rcases hown.2 with ⟨-, h0⟩ | ⟨g, cap, cur, h, _⟩
    · omega
    · cases h
  obtain ⟨g, cap, rfl, hb, hlt, hcap, hm, hl, hH⟩ := Lib.holds_of_ownsRow (enc := Value.int .i64) (zs := r) hown hne
  refine (Any.slices_Delete_int Tryz.laysDel g 0 cap y (y + 1) r w hH hcap hm (by omega) (by omega)).mono ?_
  rintro e w' ⟨rfl, q, rfl⟩
  refine ⟨_, rfl, ?_, Lib.below_putRow (Below.refl _ _) hb⟩
  have h := Lib.ownsRow_putRow (enc := Value.int .i64) (zs := r) (q := q) (k := r.length - 1) (ys := r.take y ++ r.drop (y + 1) ++ List.replicate (y + 1 - y) 0) hown (by simp; omega) (by omega)
  have e1 : (r.take y ++ r.drop (y + 1) ++ List.replicate (y + 1 - y) (0 : Int)).take (r.length - 1) = r.eraseIdx y := by
    rw [List.eraseIdx_eq_take_drop_succ, List.take_append_of_le_length (by simp; omega), List.take_of_length_le (by simp; omega)]
  rw [e1] at h
  rw [show (r.eraseIdx y).length = r.length - 1 from List.length_eraseIdx_of_lt hy, show r.length - (y + 1 - y) = r.length - 1 by omega]
  exact h

/-- The first k elements of an owned slice. -/
theorem own_cut {w : World} {base e g n c k : Nat} {xs : List Value} (h : w.ownsRow base e 1 (.slice (some ⟨g, 0, none⟩) n c) n xs) (hk : k ≤ n) : w.ownsRow base e 1 (.slice (some ⟨g, 0, none⟩) k c) k (xs.take k) := by
  rcases h.2 with ⟨e0, _⟩ | ⟨g', cap', cur, e0, hb, hg, hn, hm, hs, ht⟩
  · cases e0
  · cases e0
    refine ⟨by rw [List.length_take]; have := h.1; omega, .inr ⟨_, _, cur, rfl, hb, hg, by omega, hm, hs, ?_⟩⟩
    rw [← ht, List.take_take]; congr 1; omega
/-- Cells of an owned slice written one behind the other. -/
theorem own_setCells {base e g n c : Nat} : ∀ (zs : List Value) (i : Nat) (w : World) (xs : List Value), w.ownsRow base e 1 (.slice (some ⟨g, 0, none⟩) n c) n xs →
    ∃ ys, (w.setCells g i zs).ownsRow base e 1 (.slice (some ⟨g, 0, none⟩) n c) n ys ∧ ys.take i = xs.take i ∧ w.grownBy (w.setCells g i zs) (some g)
  | [], i, w, xs, h => ⟨xs, h, rfl, rfl, rfl, rfl, Nat.le_refl _, fun _ _ _ => rfl⟩
  | z :: zs, i, w, xs, h => by
    obtain ⟨h1, h2⟩ := h.stored i z
    obtain ⟨ys, g1, g2, g3⟩ := own_setCells zs (i + 1) _ _ h1
    refine ⟨ys, g1, ?_, grown_trans h2 g3⟩
    have : (ys.take (i + 1)).take i = ((xs.set i z).take (i + 1)).take i := by rw [g2]
    rw [List.take_take, List.take_take, Nat.min_eq_left (by omega), List.take_set_of_le (by omega)] at this
    exact this
end Go.Proofs.YtcliiefedmiokaaGreat
/-
  slices.DeleteFunc over rows that the call owns; the predicate may make memory.
-/
namespace Go.Proofs.YtcliiefedmiokaaGreat
open Go.RowKit Go.Shelf

/-- A list of rows that lie from lo on. -/
def MatT (w : World) (lo : Nat) (v : Value) (m : List (List Int)) : Prop :=
  ∃ vs : List Value, w.ownsRow lo 30 1 v m.length vs ∧ ∀ i, (h : i < m.length) → w.ownsRow lo 3 1 (vs.getD i undef) m[i].length (ints m[i])
theorem matT_own {w : World} {lo hi : Nat} {v : Value} {m : List (List Int)} (h : OwnMat w lo hi v m) : MatT w lo v m := by
  obtain ⟨vs, h1, -, h3, -⟩ := h
  exact ⟨vs, h1, fun i hi => (h3 i hi).1⟩
theorem inMat_matT {w : World} {lo : Nat} {v : Value} {m : List (List Int)} (h : MatT w lo v m) : InMat w v m := by
  obtain ⟨vs, ho, hr⟩ := h
  rcases ho.2 with ⟨rfl, h0⟩ | ⟨g, cap, cur, rfl, hbg, hg, hc, hm, _⟩
  · exact ⟨none, 0, by rw [h0], by omega, .inl h0⟩
  · refine ⟨_, _, rfl, by omega, .inr ⟨g, 0, rfl, (Array.getElem?_eq_some_iff.1 hg).1, fun i hi => ⟨vs.getD i undef, ?_, inRow_own (hr i hi)⟩⟩⟩
    rw [Nat.zero_add]; exact cell_held ho hi
theorem matT_below {w w' : World} {lo : Nat} {v : Value} {m : List (List Int)} (h : MatT w lo v m) (hb : Below w.heap.size w w') : MatT w' lo v m := by
  obtain ⟨vs, h1, h2⟩ := h
  exact ⟨vs, own_below h1 hb, fun i hi => own_below (h2 i hi) hb⟩
theorem matT_base {w : World} {lo lo' : Nat} {v : Value} {m : List (List Int)} (h : MatT w lo v m) (hl : lo' ≤ lo) : MatT w lo' v m := by
  obtain ⟨vs, h1, h2⟩ := h
  exact ⟨vs, own_base h1 hl, fun i hi => own_base (h2 i hi) hl⟩
theorem matT_kept {w w' : World} {lo B e n : Nat} {v u : Value} {m : List (List Int)} {xs : List Value} (h : MatT w lo v m) (hu : w.ownsRow B e 1 u n xs) (hg : w.grownBy w' u.ownBlock) (h1 : 30 ≠ e) (h2 : 3 ≠ e) : MatT w' lo v m := by
  obtain ⟨vs, g1, g2⟩ := h
  exact ⟨vs, g1.kept hg (own_types g1 hu h1), fun i hi => (g2 i hi).kept hg (own_types (g2 i hi) hu h2)⟩

/-- The places of the first j rows at which p does not hold. -/
def kept (p : List Int → Bool) (m : List (List Int)) (j : Nat) : List Nat := (List.range j).filter fun t => !p (m.getD t [])
theorem kept_yes {p : List Int → Bool} {m : List (List Int)} {j : Nat} (h : p (m.getD j []) = false) : kept p m (j + 1) = kept p m j ++ [j] := by
  unfold kept
  rw [List.range_succ, List.filter_append]; simp only [List.filter_cons, List.filter_nil, h]; rfl
theorem kept_no {p : List Int → Bool} {m : List (List Int)} {j : Nat} (h : p (m.getD j []) = true) : kept p m (j + 1) = kept p m j := by
  unfold kept
  rw [List.range_succ, List.filter_append]; simp only [List.filter_cons, List.filter_nil, h]; simp
theorem kept_len (p : List Int → Bool) (m : List (List Int)) (j : Nat) : (kept p m j).length ≤ j := by
  have := List.length_filter_le (fun t => !p (m.getD t [])) (List.range j)
  simpa [kept] using this
theorem kept_lt {p : List Int → Bool} {m : List (List Int)} {j t : Nat} (h : t ∈ kept p m j) : t < j := by
  have := (List.mem_filter.1 h).1; simpa using this
theorem kept_all {p : List Int → Bool} {m : List (List Int)} : ∀ {j : Nat}, (∀ t, t < j → p (m.getD t []) = false) → kept p m j = List.range j
  | 0, _ => rfl
  | j + 1, h => by rw [kept_yes (h j (Nat.lt_succ_self _)), kept_all fun t ht => h t (by omega), List.range_succ]
theorem map_range_getD {α : Type} (d : α) (l : List α) (n : Nat) (h : n ≤ l.length) : (List.range n).map (fun t => l.getD t d) = l.take n := by
  apply List.ext_getElem
  · simp; omega
  · intro i h1 h2
    simp at h1
    simp [List.getElem?_eq_getElem (show i < l.length by omega)]
theorem kept_map (p : List Int → Bool) (m : List (List Int)) : (kept p m m.length).map (fun t => m.getD t []) = m.filter fun x => !p x := by
  unfold kept
  have h : m = (List.range m.length).map fun t => m.getD t [] := by rw [map_range_getD _ _ _ (Nat.le_refl _)]; simp
  conv => rhs; rw [h, List.filter_map]
  rfl
theorem idxP_spec (p : List Int → Bool) (m : List (List Int)) : (idxP p m = -1 ∧ ∀ t, t < m.length → p (m.getD t []) = false) ∨ ∃ k : Nat, k < m.length ∧ idxP p m = k ∧ p (m.getD k []) = true ∧ ∀ t, t < k → p (m.getD t []) = false := by
  have hg : ∀ t, (ht : t < m.length) → m.getD t [] = m[t] := fun t ht => by rw [List.getD_eq_getElem?_getD, List.getElem?_eq_getElem ht]; rfl
  by_cases h : m.findIdx p < m.length
  · refine .inr ⟨_, h, by rw [idxP, if_pos h], ?_, fun t ht => ?_⟩
    · rw [hg _ h]; exact List.findIdx_getElem (w := h)
    · rw [hg _ (by omega)]
      have := List.not_of_lt_findIdx ht
      simpa using this
  · refine .inl ⟨by rw [idxP, if_neg h], fun t ht => ?_⟩
    rw [hg _ ht]
    cases hp : p m[t] with
    | false => rfl
    | true => exact absurd (List.findIdx_lt_length_of_exists ⟨_, List.getElem_mem ht, hp⟩) h
/-- What the search finds of rows that are struck and kept. -/
theorem delRows_len (p : List Int → Bool) (m : List (List Int)) : (m.filter fun x => !p x).length = (kept p m m.length).length := by rw [← kept_map, List.length_map]

theorem zeroInts_run (w : World) : (zeroValue 30).run Tryz.prog w = .ok (.slice none 0 0) w := Tryz.zeroValue30 w

/-- Rows that lie from lo on; below, nothing has turned. -/
def RowsRes (lo : Nat) (m : List (List Int)) (w : World) (e : Ending) (w' : World) : Prop := ∃ u, e = .returned u ∧ MatT w' lo u m ∧ Below lo w w'
set_option maxHeartbeats 1000000 in
theorem delRows_no (v : Value) (m : List (List Int)) (g : Nat) (cb : Array Value) (ok : List Int → Prop) (p : List Int → Bool) (lo : Nat) (w : World) (eg : ∀ args w, (callFunc g args).run Tryz.prog w = .ok (.enter g args) w) (hin : MatT w lo v m) (hlo : lo ≤ w.heap.size) (hok : ∀ r ∈ m, ok r) (hp : RowPred g cb ok p w)
    (hno : idxP p m = -1) (hall : ∀ t, t < m.length → p (m.getD t []) = false) :
    Calls Tryz.prog 104 #[v, .func (.func g) #[] cb] w (RowsRes lo (m.filter fun x => !p x) w) := by
  have HI := hide (idxRows_any v m g cb ok p w eg (inMat_matT hin) hok hp)
  have HF : Hid ((m.filter fun x => !p x) = m) := hide (by rw [← kept_map, kept_all hall, map_range_getD _ _ _ (Nat.le_refl _)]; simp)
  have HM := hide hin
  have hv : ∃ a n c, v = .slice a n c := by obtain ⟨a, c, rfl, -⟩ := inMat_matT hin; exact ⟨a, _, c, rfl⟩
  obtain ⟨a, n, c, rfl⟩ := hv
  rw [hno] at HI
  clear hin hok hp hno hall eg
  go_enter Tryz.func104, Tryz.ntmps104
  go_wp2_with (go_at_call 101; refine HI.out.mono ?_; rintro e w9 ⟨rfl, hb9⟩; have HB9 := hide hb9; clear hb9)
  go_ret
  exact ⟨_, rfl, by rw [HF.out]; exact matT_below HM.out HB9.out, ⟨HB9.out.os, HB9.out.tape, HB9.out.output, HB9.out.size, fun k hk => HB9.out.block k (by omega)⟩⟩
set_option maxRecDepth 100000 in
set_option maxHeartbeats 4000000 in
theorem delRows_yes (v : Value) (m : List (List Int)) (g : Nat) (cb : Array Value) (ok : List Int → Prop) (p : List Int → Bool) (lo : Nat) (W0 w : World) (eg : ∀ args w, (callFunc g args).run Tryz.prog w = .ok (.enter g args) w) (hin : MatT w lo v m) (hW : W0.heap.size ≤ lo) (hbW : Below W0.heap.size W0 w) (hok : ∀ r ∈ m, ok r) (hp : RowPred g cb ok p W0)
    (k : Nat) (hk : k < m.length) (hyes : idxP p m = k) (hat : p (m.getD k []) = true) (hall : ∀ t, t < k → p (m.getD t []) = false) :
    Calls Tryz.prog 104 #[v, .func (.func g) #[] cb] w (RowsRes lo (m.filter fun x => !p x) w) := by
  have HI := hide (idxRows_any v m g cb ok p w eg (inMat_matT hin) hok (rowPred_mono hp hbW))
  rw [hyes] at HI
  obtain ⟨vs, hv, hrows⟩ := hin
  obtain ⟨gb, cap, rfl, hbg, hgl, hcap, hmax, -, -⟩ := own_some hv (by omega)
  have HV := hide hv; have HR := hide hrows; have HP := hide hp; have HOK := hide hok
  have HLEN := hide (delRows_len p m)
  have HMAP := hide (kept_map p m)
  have hvl : vs.length = m.length := by have := hv.1; omega
  have hK : kept p m (k + 1) = List.range k := by rw [kept_no hat, kept_all hall]
  have HK0 : Hid ((kept p m (k + 1)).length = k ∧ vs.take k = (kept p m (k + 1)).map fun t => vs.getD t undef) := hide (by
    rw [hK]; exact ⟨by simp, (map_range_getD _ _ _ (by omega)).symm⟩)
  have HBW := hide hbW
  obtain ⟨n, hn⟩ : ∃ n, n = m.length := ⟨_, rfl⟩
  have HN := hide hn
  rw [← hn] at HI HV hk hvl hcap ⊢
  unfold maxLen at hmax
  have HBG := hide hbg
  have hne1 : ((k : Int) == -1) = false := beq_eq_false_iff_ne.2 (by omega)
  clear hv hrows hp hok hyes hat hall hK hn hbW
  go_enter Tryz.func104, Tryz.ntmps104
  go_wp2_with (go_at_call 101; refine HI.out.mono ?_; rintro e w9 ⟨rfl, hb9⟩; have HB9 := hide hb9; clear hb9)
  have HL9 : Hid (Below lo w w9) := hide ⟨HB9.out.os, HB9.out.tape, HB9.out.output, HB9.out.size, fun k hk => HB9.out.block k (by omega)⟩
  go_loopw [5, 6, 7] (fun s5 s6 _ w' => ∃ (j : Nat) (ys : List Value), s6 = .int .i64 j ∧ s5 = .int .i64 (kept p m j).length ∧ j ≤ n ∧ (kept p m j).length < j ∧ w'.ownsRow lo 30 1 (.slice (some ⟨gb, 0, none⟩) n cap) n ys ∧ ys.take (kept p m j).length = ((kept p m j).map fun t => vs.getD t undef) ∧ (∀ t, j ≤ t → t < n → ys.getD t undef = vs.getD t undef) ∧
    (∀ t, (h : t < m.length) → w'.ownsRow lo 3 1 (vs.getD t undef) m[t].length (ints m[t])) ∧ Below lo w w') (fun _ s6 _ _ => n - (intOf s6).toNat)
  case atStart => exact ⟨k + 1, vs, by go_num, by rw [HK0.out.1], by omega, by rw [HK0.out.1]; omega, own_below HV.out HB9.out, by rw [HK0.out.1]; exact HK0.out.2, fun _ _ _ => rfl, fun t h => own_below (HR.out t h) HB9.out, HL9.out⟩
  case round =>
    clear HL9 HB9 HK0
    obtain ⟨j, ys, rfl, rfl, hj, hij, hown, htake, hrest, hrw, hb⟩ := hrel
    have HO := hide hown; have HT := hide htake; have HRE := hide hrest; have HRW := hide hrw; have HB := hide hb
    have HKY := hide fun h => kept_yes (p := p) (m := m) (j := j) h
    have HKN := hide fun h => kept_no (p := p) (m := m) (j := j) h
    obtain ⟨i, hi⟩ : ∃ i, i = (kept p m j).length := ⟨_, rfl⟩
    have HII := hide hi
    rw [← hi] at HT hij ⊢
    clear hown htake hrest hrw hb hi
    by_cases hlt : j < n
    · have hjm : j < m.length := by rw [← HN.out]; exact hlt
      have hltI : (j : Int) < n := by omega
      have hsz := HB.out.size
      have hx := cell_held HO.out hlt
      rw [HRE.out j (Nat.le_refl _) hlt] at hx
      have HROWj := hide (HRW.out j hjm)
      obtain ⟨a, c, hu⟩ := own_slice HROWj.out
      have hmj : m.getD j [] = m[j] := by rw [List.getD_eq_getElem?_getD, List.getElem?_eq_getElem hjm]; rfl
      have HBO : Hid (Below W0.heap.size W0 wr) := hide (HBW.out.trans (HB.out.mono hW))
      have HCALL := hide (HP.out m[j] (vs.getD j undef) wr (HOK.out _ (List.getElem_mem hjm)) HBO.out (inRow_own HROWj.out))
      rw [hmj] at HKY HKN
      have HMJ : Hid (m[j].length = m[j].length) := hide rfl
      obtain ⟨u, hue⟩ : ∃ u, u = vs.getD j undef := ⟨_, rfl⟩
      have HU := hide hue
      rw [← hue] at hx HCALL hu
      obtain ⟨q, hq⟩ : ∃ q, q = p m[j] := ⟨_, rfl⟩
      rw [← hq] at HKY HKN HCALL
      obtain ⟨L, hL⟩ : ∃ L, L = m[j].length := ⟨_, rfl⟩
      rw [← hL] at hu
      clear hq hmj hue hL HMJ
      subst hu
      cases q with
      | true =>
        have HK2 := hide (HKN.out rfl)
        clear HKY HKN
        go_wp2_with (go_at_fn g; refine HCALL.out.mono ?_; rintro e w9 ⟨rfl, hb9⟩; have HB9 := hide hb9; clear hb9)
        go_roundw
        case rel =>
          refine ⟨j + 1, ys, by go_num, by rw [HK2.out, ← HII.out], by omega, by rw [HK2.out, ← HII.out]; omega, own_below HO.out HB9.out, by rw [HK2.out, ← HII.out]; exact HT.out, fun t h1 h2 => HRE.out t (by omega) h2, fun t h => own_below (HRW.out t h) HB9.out, ?_⟩
          exact HB.out.trans (HB9.out.mono (by omega))
        case measure => simp [intOf]; omega
      | false =>
        have HK2 := hide (HKY.out rfl)
        clear HKY HKN
        go_wp2_with (go_at_fn g; refine HCALL.out.mono ?_; rintro e w9 ⟨rfl, hb9⟩; have HB9 := hide hb9; clear hb9; have HO9 := hide (own_below HO.out HB9.out); have hin' : i < n := (by omega); have hc9 := cell_held HO9.out hin'; have hf9 := HO9.out.frozenAt i; have HS := hide (HO9.out.stored i (.slice a L c)))
        go_roundw
        case rel =>
          have hyl : ys.length = n := by have := HO.out.1; omega
          have hb9 : Below lo w w9 := HB.out.trans (HB9.out.mono (by omega))
          refine ⟨j + 1, ys.set i (.slice a L c), by go_num, by rw [HK2.out, List.length_append, ← HII.out]; go_num, by omega, by rw [HK2.out, List.length_append, ← HII.out]; simp; omega, HS.out.1, ?_, fun t h1 h2 => ?_, fun t h => ?_, hb9.setCell (p := ⟨gb, i, none⟩) HBG.out _⟩
          · rw [HK2.out, List.length_append, ← HII.out, List.map_append, ← HT.out, List.map_cons, List.map_nil, ← HU.out]
            simp only [List.length_cons, List.length_nil]
            rw [Nat.zero_add, List.take_succ_eq_append_getElem (by rw [List.length_set]; omega), List.take_set_of_le (Nat.le_refl _), List.getElem_set_self]
          · rw [List.getD_eq_getElem?_getD, List.getElem?_set_ne (by omega), ← List.getD_eq_getElem?_getD]
            exact HRE.out t (by omega) h2
          · have h0 := own_below (HRW.out t h) HB9.out
            exact h0.kept HS.out.2 (own_types h0 HO9.out (by decide))
        case measure => simp [intOf]; omega
    · obtain rfl : j = n := by omega
      have hcl : ∀ ty, (Builtin.clear_ #[22] ty #[.slice (some ⟨gb, i, none⟩) (j - i) (cap - i)]).run Tryz.prog wr = .ok (.tuple #[]) (wr.setCells gb i (List.replicate (j - i) (.slice none 0 0))) :=
        fun ty => Lib.run_clear_slice wr _ _ ty _ Tryz.underlying22 zeroInts_run rfl rfl gb i _ _ (by omega) (fun t ht => by rw [cell_held HO.out (show i + t < j by omega)]; rfl) (fun t ht => HO.out.frozenAt _)
      have HM2 := hide (own_setCells (List.replicate (j - i) (Value.slice none 0 0)) i wr ys HO.out)
      obtain ⟨w2, hw2⟩ : ∃ w2, w2 = wr.setCells gb i (List.replicate (j - i) (Value.slice none 0 0)) := ⟨_, rfl⟩
      rw [← hw2] at HM2 hcl
      clear hw2
      go_wp2
      go_ret
      obtain ⟨zs, h1, h2, h3⟩ := HM2.out
      have hc := own_cut h1 (show i ≤ j by omega)
      rw [h2, HT.out] at hc
      have hKm : kept p m j = kept p m m.length := by rw [← HN.out]
      refine ⟨_, rfl, ⟨(kept p m j).map fun t => vs.getD t undef, ?_, fun t ht => ?_⟩, ?_⟩
      · rw [HLEN.out, ← hKm, ← HII.out]; exact hc
      · have ht' : t < (kept p m j).length := by rw [hKm, ← HLEN.out]; exact ht
        have hlt' := kept_lt (List.getElem_mem ht')
        have hm : (kept p m j)[t] < m.length := by rw [← HN.out]; exact hlt'
        have e1 : ((kept p m j).map fun t => vs.getD t undef).getD t undef = vs.getD (kept p m j)[t] undef := by
          rw [List.getD_eq_getElem?_getD, List.getElem?_eq_getElem (by rw [List.length_map]; exact ht'), Option.getD_some, List.getElem_map]
        have e2 : (m.filter fun x => !p x)[t] = m[(kept p m j)[t]] := by
          have h0 : ((kept p m m.length).map (fun t => m.getD t []))[t]'(by rw [HMAP.out]; exact ht) = (m.filter fun x => !p x)[t] := by
            congr 1
          rw [← h0, List.getElem_map]
          simp only [← hKm]
          rw [List.getD_eq_getElem?_getD, List.getElem?_eq_getElem hm]; rfl
        rw [e1, e2]
        have h0 := HRW.out _ hm
        exact h0.kept h3 (own_types h0 HO.out (by decide))
      · exact ⟨h3.os.trans HB.out.os, h3.tape.trans HB.out.tape, h3.output.trans HB.out.output, Nat.le_trans HB.out.size h3.size, fun t ht => by
          have := HBG.out
          rw [h3.block t (by have := HB.out.size; omega) (by simp; omega)]; exact HB.out.block t ht⟩
theorem delRows_any (v : Value) (m : List (List Int)) (g : Nat) (cb : Array Value) (ok : List Int → Prop) (p : List Int → Bool) (lo : Nat) (W0 w : World) (eg : ∀ args w, (callFunc g args).run Tryz.prog w = .ok (.enter g args) w) (hin : MatT w lo v m) (hlo : lo ≤ w.heap.size) (hW : W0.heap.size ≤ lo) (hbW : Below W0.heap.size W0 w) (hok : ∀ r ∈ m, ok r) (hp : RowPred g cb ok p W0) :
    Calls Tryz.prog 104 #[v, .func (.func g) #[] cb] w (RowsRes lo (m.filter fun x => !p x) w) := by
  rcases idxP_spec p m with ⟨h1, h2⟩ | ⟨k, hk, h1, h2, h3⟩
  · exact delRows_no v m g cb ok p lo w eg hin hlo hok (rowPred_mono hp hbW) h1 h2
  · exact delRows_yes v m g cb ok p lo W0 w eg hin hW hbW hok hp k hk h1 h2 h3
end Go.Proofs.YtcliiefedmiokaaGreat
/-
  append to a slice that the call owns, and where the new one lies; a row of any length appended.
-/
namespace Go.Proofs.YtcliiefedmiokaaGreat
open Go.RowKit

/-- 'v = append(v, y)', and the new slice lies where the old one did, or in a block that was not there. -/
theorem wpList_pushl {P : Program} {ops : Array Oper} {rest : List Oper} {o : Oper} {a : Act} {Q : Exit → Act → World → Prop} {W : World} {base n bytes : Nat} {E T : TypeId} {v : Value} {xs : List Value}
    (hown : W.ownsRow base E 1 v n xs) (y z : Value) (hgd : o.guard = none) (s x : Operand)
    (ho : o.op = .call { callee := .builtin .append, args := #[s, x], argTypes := #[T, T] })
    (ht : P.underlying T = some (.slice E)) (hinfo : (P.info? E).map (fun i => (i.zero, i.size, i.bytes)) = some (some z, 1, bytes)) (hz : z.cells.size = 1) (hby : bytes ≤ 32)
    (hs : a.eval s = v) (hx : a.eval x = .slice (some ⟨W.heap.size, 0, none⟩) 1 1) (hy : y.oneCell' = true) (hn : n < 4000000) (hbase : base ≤ W.heap.size)
    (h : ∀ g cap w', w'.ownsRow base E 1 (.slice (some ⟨g, 0, none⟩) (n + 1) cap) (n + 1) (xs ++ [y]) → Below base W w' → W.grownBy w' v.ownBlock → (v.ownBlock = some g ∨ W.heap.size ≤ g) → wpList P ops Q rest (a.put o.dst (.slice (some ⟨g, 0, none⟩) (n + 1) cap)) w') :
    wpList P ops Q (o :: rest) a (W.alloc (.cells #[y] E)) := by
  obtain ⟨i0, hi, hz0, hz1, hz2⟩ := info_parts hinfo
  refine wpList_append_lies _ hgd s x T ho base E i0 z 1 bytes ht hi hz0 hz1 hz2 hz (by decide) v n xs hs (hown.alloc _) ⟨W.heap.size, 0, none⟩ 1 1 [y] hx rfl (new_cell W y E) (by simpa using hy)
    (by decide) (by unfold maxLen; omega) (by have : (n + 1) * bytes ≤ 4000000 * 32 := Nat.mul_le_mul (by omega) hby; omega) (by simp; omega) _ rfl ?_
  intro g cap w' hown' hg hat _
  have hlt := hown.lt
  have hal : Below base W (W.alloc (.cells #[y] E)) := (Below.refl _ _).alloc hbase _
  refine h g cap w' hown' (hal.grown hg (by simp; omega) (fun k hk => (hlt k hk).1)) ?_ ?_
  · exact grown_trans (World.grownBy_alloc W _ _) hg
  · rcases hat with h1 | h1
    · exact .inl h1
    · right; rw [h1, World.size_alloc]; omega

/-- 'append(v, u...)', u a slice of integers that some call has made, of any length. -/
theorem wpList_appendOwn {P : Program} {ops : Array Oper} {rest : List Oper} {o : Oper} {a : Act} {Q : Exit → Act → World → Prop} {W : World} {base n bytes : Nat} {T E2 B2 : TypeId} {v u : Value} {xs : List Value} (d : Tmp) (_hd : o.dst = some d)
    (hown : W.ownsRow base E2 1 v n xs) (r : List Int) (hu : W.ownsRow B2 E2 1 u r.length (ints r)) (z : Value) (hgd : o.guard = none) (s x : Operand)
    (ho : o.op = .call { callee := .builtin .append, args := #[s, x], argTypes := #[T, T] })
    (ht : P.underlying T = some (.slice E2)) (hinfo : (P.info? E2).map (fun i => (i.zero, i.size, i.bytes)) = some (some z, 1, bytes)) (hz : z.cells.size = 1) (hby : bytes ≤ 32)
    (hs : a.eval s = v) (hx : a.eval x = u) (hn : n + r.length < 4000000) (hbase : base ≤ W.heap.size)
    (h : ∀ v' w', w'.ownsRow base E2 1 v' (n + r.length) (xs ++ ints r) → Below base W w' → W.grownBy w' v.ownBlock → wpList P ops Q rest (a.put o.dst v') w') :
    wpList P ops Q (o :: rest) a W := by
  rcases hu.2 with ⟨rfl, h0⟩ | ⟨g, cap, cur, rfl, hbg, hg, hc, hm, _⟩
  · obtain rfl : r = [] := List.eq_nil_of_length_eq_zero h0
    obtain ⟨i0, hi, -⟩ := info_parts hinfo
    refine wpList_append_own_none hgd s x T ho base E2 i0 1 ht hi v n xs hs hown hx ?_
    refine h v W ?_ (Below.refl _ _) ⟨rfl, rfl, rfl, Nat.le_refl _, fun _ _ _ => rfl⟩
    simpa [ints] using hown
  · exact wpList_appendRow d _hd hown r g 0 cap z hgd s x ho ht hinfo hz hby hs hx (fun j hj => by rw [Nat.zero_add, hu.cellAt j (by omega), ints_at r j hj]) hn hbase h

theorem ownMat_grown {w w' : World} {lo hi : Nat} {v : Value} {m : List (List Int)} {row : Option Nat} (h : OwnMat w lo hi v m) (hg : w.grownBy w' row) (hne : ∀ q, row = some q → q < lo ∨ hi ≤ q) : OwnMat w' lo hi v m := by
  cases row with
  | none => exact ownMat_within h (within_grown (lo := hi) (hi := hi) hg fun k e => by cases e) (.inl (Nat.le_refl _))
  | some q => exact ownMat_within h (within_grown (lo := q) (hi := q + 1) hg fun k e => by cases e; omega) (by have := hne q rfl; omega)
end Go.Proofs.YtcliiefedmiokaaGreat
/-
  l05Rows of the model: all rows of so many cells with so many black ones.
-/
namespace Go.Proofs.YtcliiefedmiokaaGreat
open Go.RowKit

/-- The rows whose first cell is k, .. is less than k. -/
def rowsPart (n : Nat) (s : Int) (k : Nat) : List (List Int) := if (k : Int) ≤ s then (rowsLn n (s - k)).map ((k : Int) :: ·) else []
def rowsParts (n : Nat) (s : Int) : Nat → List (List Int)
  | 0 => []
  | k + 1 => rowsParts n s k ++ rowsPart n s k
theorem rowsParts_two (n : Nat) (s : Int) : rowsParts n s 2 = rowsLn (n + 1) s := by
  simp only [rowsParts, rowsPart, rowsLn, List.nil_append]
  simp
theorem rowsL_len : ∀ (n : Nat) (s : Int), (rowsLn n s).length ≤ 2 ^ n
  | 0, s => by unfold rowsLn; split <;> simp
  | n + 1, s => by
    unfold rowsLn
    have h1 := rowsL_len n s
    have h2 := rowsL_len n (s - 1)
    rw [List.length_append, Nat.pow_succ]
    split <;> split <;> simp <;> omega
theorem rowsL_small (n : Nat) (s : Int) (hn : n ≤ 5) : (rowsLn n s).length ≤ 32 :=
  Nat.le_trans (rowsL_len n s) (Nat.le_trans (Nat.pow_le_pow_right (by decide) hn) (by decide))
theorem rowsParts_len (n : Nat) (s : Int) (hn : n ≤ 5) : ∀ k, (rowsParts n s k).length ≤ 32 * k
  | 0 => Nat.le_refl _
  | k + 1 => by
    rw [rowsParts, List.length_append]
    have h1 := rowsParts_len n s hn k
    have h2 : (rowsPart n s k).length ≤ 32 := by
      unfold rowsPart
      split
      · rw [List.length_map]; exact rowsL_small n _ hn
      · simp
    omega
theorem map_take_succ {α β : Type} (f : α → β) (l : List α) (j : Nat) (h : j < l.length) (P : List β) : P ++ (l.take (j + 1)).map f = (P ++ (l.take j).map f) ++ [f l[j]] := by
  rw [List.take_succ_eq_append_getElem h, List.map_append, List.append_assoc]; rfl

end Go.Proofs.YtcliiefedmiokaaGreat
/-
  slices.Clone at integers; sumsWithout of the program; slices with their capacity.
-/
namespace Go.Proofs.YtcliiefedmiokaaGreat
open Go.RowKit

theorem clone_any (v : Value) (r : List Int) (w : World) (hin : InRow w v r) (hn : r.length ≤ 2000000) :
    Calls Tryz.prog 103 #[v] w (IntsRes r w) := by
  obtain ⟨a, c, rfl, hm, hp⟩ := hin
  by_cases h0 : r.length = 0
  · obtain rfl : r = [] := List.eq_nil_of_length_eq_zero h0
    cases a with
    | none =>
      refine (Tryz.slices_Clone_int_nil 0 c w).mono ?_
      rintro e w' ⟨rfl, rfl⟩
      exact intsRes_nil (Below.refl _ _)
    | some x =>
      refine (Tryz.slices_Clone_int_zero x c w).mono ?_
      rintro e w' ⟨v', rfl, ho, -, hb⟩
      exact ⟨v', rfl, ho, hb⟩
  · obtain ⟨g, o, rfl, -, hc⟩ := hp.resolve_left h0
    refine (Tryz.slices_Clone_int g o r.length c r w (Nat.le_refl _) (by omega) (fun j hj => ?_)).mono ?_
    · rw [hc j hj, List.getD_eq_getElem?_getD, List.getElem?_eq_getElem hj]; rfl
    rintro e w' ⟨v', rfl, ho, -, hb⟩
    rw [List.take_length] at ho
    exact ⟨v', rfl, ho, hb⟩
/-- What has been left behind k cells of the row. -/
def subF (c row : List Int) (k x : Nat) : Int := c.getD x 0 - if x < k then row.getD x 0 else 0
theorem subF_zero (c row : List Int) : tabL c.length (subF c row 0) = c := by
  rw [show tabL c.length (subF c row 0) = tabL c.length (fun x => c.getD x 0) from tabL_congr fun i _ => by rw [subF, if_neg (Nat.not_lt_zero _)]; simp]
  exact tabL_self c
theorem subF_all (c row : List Int) (k : Nat) (h : c.length ≤ k) : tabL c.length (subF c row k) = subL c row :=
  tabL_congr fun i hi => by rw [subF, if_pos (by omega)]
set_option maxHeartbeats 1000000 in
theorem sumsWithout_any (vc vr : Value) (c row : List Int) (w : World) (hc : InRow w vc c) (hr : InRow w vr row) (hl : row.length = c.length) (hn : c.length ≤ 5) (hM : ∀ x, x < c.length → -1000 ≤ c.getD x 0 ∧ c.getD x 0 ≤ 1000) (hR : ∀ x, x < c.length → -1000 ≤ row.getD x 0 ∧ row.getD x 0 ≤ 1000) :
    Calls Tryz.prog 94 #[vc, vr] w (IntsRes (subL c row) w) := by
  have HCL := hide (clone_any vc c w hc (by omega))
  have HM := hide hM; have HRR := hide hR
  obtain ⟨a, ca, rfl, hm, hp⟩ := hr
  unfold maxLen at hm
  have HP := hide fun h : row.length ≠ 0 => hp.resolve_left h
  have HZ := hide (subF_zero c row); have HA := hide (subF_all c row)
  have HX : Hid (∀ x, (h : x < row.length) → row.getD x 0 = row[x]) := hide fun x h => by rw [List.getD_eq_getElem?_getD, List.getElem?_eq_getElem h]; rfl
  rw [hl] at hm ⊢
  have HLL : Hid (row.length = c.length) := hide hl
  obtain ⟨C, hC⟩ : ∃ C, C = c.length := ⟨_, rfl⟩
  have HC := hide hC
  rw [← hC] at HZ HA hm hn HM HRR HLL ⊢
  clear hc hM hR hp hC hl
  go_enter Tryz.func94, Tryz.ntmps94
  go_wp2_with fail
  refine HCL.out.mono ?_
  rintro e w1 ⟨v1, rfl, ho, hb⟩
  rw [← HC.out] at ho
  obtain ⟨xa, xc, rfl⟩ := own_slice ho
  have HO := hide ho; have HB := hide hb
  clear ho hb
  go_wp2
  go_loopw [12] (fun i w' => ∃ k : Nat, k ≤ C ∧ i = .int .i64 k ∧ w'.ownsRow w.heap.size 3 1 (.slice xa C xc) C (ints (tabL C (subF c row k))) ∧ Below w.heap.size w w') (fun i _ => C - (intOf i).toNat)
  case atStart => exact ⟨0, Nat.zero_le _, rfl, by rw [HZ.out]; exact HO.out, HB.out⟩
  case round =>
    clear HO HB
    obtain ⟨k, hk, rfl, hown, hb⟩ := hrel
    have HO := hide hown; have HB := hide hb
    clear hb
    by_cases hlt : k < C
    · have hkr : k < row.length := by rw [HLL.out]; exact hlt
      obtain ⟨g, o, rfl, hg, hcell⟩ := HP.out (by omega)
      obtain ⟨g1, c1, he, hb1, -, -, -, -, -⟩ := own_some hown (by omega)
      cases he
      have hx := below_cell HB.out hg (hcell k hkr)
      rw [← HX.out k hkr] at hx
      have hc1 := cell_held HO.out hlt
      rw [tabL_held hlt, subF, if_neg (Nat.lt_irrefl k), Int.sub_zero] at hc1
      have hf := HO.out.frozenAt k
      have hm1 := HM.out k hlt
      have hm2 := HRR.out k hlt
      have HS := HO.out.stored k (.int .i64 (c.getD k 0 - row.getD k 0))
      rw [ints_set, tabL_set] at HS
      rw [show (tabL C fun t => if t = k then c.getD k 0 - row.getD k 0 else subF c row k t) = tabL C (subF c row (k + 1)) from tabL_congr fun i _ => by
        unfold subF
        by_cases e : i = k
        · subst e; rw [if_pos rfl, if_pos (Nat.lt_succ_self _)]
        · rw [if_neg e]
          by_cases e' : i < k
          · rw [if_pos e', if_pos (by omega)]
          · rw [if_neg e', if_neg (by omega)]] at HS
      have HS := hide HS
      obtain ⟨x1, hx1⟩ : ∃ x1, x1 = c.getD k 0 := ⟨_, rfl⟩
      obtain ⟨x2, hx2⟩ : ∃ x2, x2 = row.getD k 0 := ⟨_, rfl⟩
      rw [← hx1] at hc1 hm1 HS
      rw [← hx2] at hx hm2 HS
      obtain ⟨hm11, hm12⟩ := hm1
      obtain ⟨hm21, hm22⟩ := hm2
      clear hx1 hx2 hown hcell
      go_wp2
      go_roundw
      case rel => exact ⟨k + 1, by omega, by go_num, HS.out.1, HB.out.setCell hb1 _⟩
      case measure => simp [intOf]; omega
    · obtain rfl : k = C := by omega
      have HF := hide (HA.out k (Nat.le_refl _))
      rw [HF.out] at HO
      clear hown
      go_wp2
      go_ret
      exact ⟨_, rfl, by rw [subL_len, ← HC.out]; exact HO.out, HB.out⟩

/-- The slice reads as r, and its capacity is no less than its length. -/
def RowC (w : World) (v : Value) (r : List Int) : Prop := InRow w v r ∧ ∃ a c, v = .slice a r.length c ∧ r.length ≤ c ∧ c ≤ maxLen
theorem rowC_below {w w' : World} {v : Value} {r : List Int} (h : RowC w v r) (hb : Below w.heap.size w w') : RowC w' v r := ⟨inRow_below h.1 hb, h.2⟩
theorem rowC_own {w : World} {base : Nat} {v : Value} {r : List Int} (h : w.ownsRow base 3 1 v r.length (ints r)) : RowC w v r := by
  refine ⟨inRow_own h, ?_⟩
  rcases h.2 with ⟨rfl, h0⟩ | ⟨g, cap, cur, rfl, hbg, hg, hc, hm, _⟩
  · exact ⟨none, 0, by rw [h0], by omega, Nat.zero_le _⟩
  · exact ⟨_, _, rfl, hc, hm⟩
theorem rowC_tail {w : World} {g o n c : Nat} {x : Int} {r : List Int} (h : RowC w (.slice (some ⟨g, o, none⟩) n c) (x :: r)) : RowC w (.slice (if c = 1 then some ⟨g, o, none⟩ else some ⟨g, o + 1, none⟩) (n - 1) (c - 1)) r := by
  obtain ⟨⟨a, c', he, hm, hp⟩, a2, c2, he2, hl, hmx⟩ := h
  cases he; cases he2
  simp only [List.length_cons, Nat.add_sub_cancel] at hl hm ⊢
  refine ⟨⟨_, _, rfl, by omega, ?_⟩, _, _, rfl, by omega, by omega⟩
  obtain ⟨g', o', he', hg, hc⟩ := hp.resolve_left (by simp)
  cases he'
  by_cases h0 : r.length = 0
  · exact .inl h0
  · rw [if_neg (by omega)]
    refine .inr ⟨g, o + 1, rfl, hg, fun i hi => ?_⟩
    have := hc (i + 1) (by simp; omega)
    rw [List.getElem_cons_succ] at this
    rw [← this, show o + (i + 1) = o + 1 + i by omega]
end Go.Proofs.YtcliiefedmiokaaGreat
