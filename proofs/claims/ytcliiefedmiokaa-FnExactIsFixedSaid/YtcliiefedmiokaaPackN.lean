/-
  Texts of this claim, one behind the other: SameB, ImgS, Fix, LawsX, Draw, Alike, IsStair, Pairs, Has.
-/
import Derived.Test.YtcliiefedmiokaaPackM
import Derived.Test.YtcliiefedmiokaaPackH
import Derived.Test.YtcliiefedmiokaaPackG
import Derived.Test.YtcliiefedmiokaaPackK
import Derived.Test.YtcliiefedmiokaaPackI
import Derived.Test.YtcliiefedmiokaaPackL
import Derived.Test.YtcliiefedmiokaaPackJ
import Derived.Test.YtcliiefedmiokaaPackB
import Derived.Test.YtcliiefedmiokaaPackD
/-
  Whether two lists of lists are images with the same sums.
-/
namespace Go.Proofs.Ytcliiefedmiokaa
open Go.RowKit

def sameB (m l : List (List Int)) : Bool := okB m && okB l && (decide (m.length = l.length) && decide (widthM m = widthM l) && sameL m.length (widthM m) (cellM m) (cellM l))
theorem rs_congr {C : Nat} {f g : Nat → Nat → Int} {y : Nat} (h : ∀ x, x < C → f y x = g y x) : rs C f y = rs C g y := cnt_congr fun x hx => by rw [h x hx]
theorem rowsL_congr {R C : Nat} {f g : Nat → Nat → Int} (h : ∀ y x, y < R → x < C → f y x = g y x) : rowsL R C f = rowsL R C g := rowF_congr fun y hy => by rw [rs_congr fun x hx => h y x hy hx]
theorem sameL_congr {R C : Nat} {f g f' g' : Nat → Nat → Int} (h : ∀ y x, y < R → x < C → f y x = f' y x) (h2 : ∀ y x, y < R → x < C → g y x = g' y x) : sameL R C f g = sameL R C f' g' := by
  unfold sameL
  rw [rowsL_congr h, rowsL_congr h2, rowsL_congr (f := trM f) (g := trM f') fun y x hy hx => h x y hx hy, rowsL_congr (f := trM g) (g := trM g') fun y x hy hx => h2 x y hx hy]
theorem width_mk {R C : Nat} {f : Nat → Nat → Int} (h : Img R C f) : widthM (mkM R C f) = C := by
  have := h.r1
  unfold widthM mkM
  obtain ⟨n, rfl⟩ : ∃ n, R = n + 1 := ⟨R - 1, by omega⟩
  simp [List.range_succ_eq_map, rowF]
theorem sameB_mk {R C R' C' : Nat} {f g : Nat → Nat → Int} (h : Img R C f) (h' : Img R' C' g) : sameB (mkM R C f) (mkM R' C' g) = if R = R' ∧ C = C' then sameL R C f g else false := by
  unfold sameB
  rw [img_ok h, img_ok h', width_mk h, width_mk h', mkM_len, mkM_len]
  by_cases e1 : R = R'
  · by_cases e2 : C = C'
    · subst e1; subst e2
      rw [if_pos ⟨rfl, rfl⟩, sameL_congr (fun y x hy hx => cell_mk R C f hy hx) (fun y x hy hx => cell_mk R C g hy hx)]
      simp
    · rw [if_neg fun e => e2 e.2]; simp [e2]
  · rw [if_neg fun e => e1 e.1]; simp [e1]
theorem rowF_inj {n : Nat} {f g : Nat → Int} (h : rowF n f = rowF n g) : ∀ i, i < n → f i = g i := fun i hi => by
  have h1 : (rowF n f)[i]? = (rowF n g)[i]? := by rw [h]
  simpa [rowF, hi] using h1
theorem sameB_yes {m l : List (List Int)} (h : sameB m l = true) : ∃ R C f g, m = mkM R C f ∧ l = mkM R C g ∧ Img R C f ∧ Img R C g ∧ SameF R C f g := by
  have h0 := h
  unfold sameB at h0
  simp only [Bool.and_eq_true] at h0
  obtain ⟨R, C, f, rfl, hI⟩ := ok_img h0.1.1
  obtain ⟨R', C', g, rfl, hJ⟩ := ok_img h0.1.2
  rw [sameB_mk hI hJ] at h
  by_cases e : R = R' ∧ C = C'
  · obtain ⟨rfl, rfl⟩ := e
    rw [if_pos ⟨rfl, rfl⟩] at h
    unfold sameL at h
    simp only [Bool.and_eq_true, beq_iff_eq] at h
    refine ⟨R, C, f, g, rfl, rfl, hI, hJ, fun y hy => ?_, fun x hx => ?_⟩
    · have := rowF_inj h.1 y hy; omega
    · have := rowF_inj h.2 x hx
      show rs R (trM f) x = rs R (trM g) x
      omega
  · rw [if_neg e] at h; cases h
theorem implSameB_any (v u : Value) (m l : List (List Int)) (w : World) (hin : InMat w v m) (hin2 : InMat w u l) :
    Calls Try.prog 27 #[v, u] w fun e w' => e = .returned (.bool (sameB m l)) ∧ Below w.heap.size w w' := by
  cases h : okB m && okB l with
  | false =>
    have := implSameSums_no v u m l w hin hin2 h
    unfold sameB
    rw [h, Bool.false_and]; exact this
  | true =>
    simp only [Bool.and_eq_true] at h
    obtain ⟨R, C, f, rfl, hI⟩ := ok_img h.1
    obtain ⟨R', C', g, rfl, hJ⟩ := ok_img h.2
    rw [sameB_mk hI hJ]
    exact implSameSums_any v u R C R' C' f g w hin hin2 hI hJ
theorem specSameB_any (v u : Value) (m l : List (List Int)) (w : World) (hin : InMat w v m) (hin2 : InMat w u l) :
    Calls Try.prog 26 #[v, u] w fun e w' => e = .returned (.bool (sameB m l)) ∧ Below w.heap.size w w' := by
  cases h : okB m && okB l with
  | false =>
    have := specSameSums_neg v u w (specDistanceOf_no v u m l w hin hin2 h)
    unfold sameB
    rw [h, Bool.false_and]; exact this
  | true =>
    simp only [Bool.and_eq_true] at h
    obtain ⟨R, C, f, rfl, hI⟩ := ok_img h.1
    obtain ⟨R', C', g, rfl, hJ⟩ := ok_img h.2
    rw [sameB_mk hI hJ]
    exact specSameSums_any v u R C R' C' f g w hin hin2 hI hJ
end Go.Proofs.Ytcliiefedmiokaa
/-
  The sums of an image, as an image's sums.
-/
namespace Go.Proofs.Ytcliiefedmiokaa
open Go.RowKit

theorem S_cnt (g : Nat → Int) : ∀ n, (∀ i, i < n → g i = 0 ∨ g i = 1) → Mx.S n g = (cnt (fun i => g i == 1) n : Nat)
  | 0, _ => rfl
  | n + 1, h => by
    rw [Mx.S, S_cnt g n fun i hi => h i (Nat.lt_succ_of_lt hi), cnt]
    rcases h n (Nat.lt_succ_self n) with e | e <;> simp [e]
theorem rowF_getD {n : Nat} {g : Nat → Int} {i : Nat} (h : i < n) : (rowF n g).getD i 0 = g i := by simp [rowF, h]
section
variable {R C : Nat} {f : Nat → Nat → Int}
theorem rows_len (R C : Nat) (f : Nat → Nat → Int) : (rowsL R C f).length = R := rowF_len _ _
theorem rowsL_at (hI : Img R C f) {y : Nat} (hy : y < R) : (rowsL R C f).getD y 0 = Mx.S C (f y) := by
  unfold rowsL
  rw [rowF_getD hy, S_cnt _ _ fun x hx => hI.cell y x hy hx]; rfl
theorem colsL_at (hI : Img R C f) {x : Nat} (hx : x < C) : (rowsL C R (trM f)).getD x 0 = Mx.S R fun y => f y x := by
  unfold rowsL
  rw [rowF_getD hx, S_cnt _ _ fun y hy => hI.cell y x hy hx]; rfl
theorem imgF_iff (hI : Img R C f) (g : Nat → Nat → Int) : ImgF (rowsL R C f) (rowsL C R (trM f)) g ↔ (∀ y x, y < R → x < C → g y x = 0 ∨ g y x = 1) ∧ (∀ y, y < R → Mx.S C (g y) = Mx.S C (f y)) ∧ ∀ x, x < C → Mx.S R (fun y => g y x) = Mx.S R fun y => f y x := by
  constructor
  · rintro ⟨h1, h2, h3⟩
    rw [rows_len, rows_len] at h1
    refine ⟨h1, fun y hy => ?_, fun x hx => ?_⟩
    · have := h2 y (by rw [rows_len]; exact hy)
      rw [rows_len, rowsL_at hI hy] at this; exact this
    · have := h3 x (by rw [rows_len]; exact hx)
      rw [rows_len, colsL_at hI hx] at this; exact this
  · rintro ⟨h1, h2, h3⟩
    refine ⟨by rw [rows_len, rows_len]; exact h1, fun y hy => ?_, fun x hx => ?_⟩
    · rw [rows_len] at hy
      rw [rows_len, rowsL_at hI hy]; exact h2 y hy
    · rw [rows_len] at hx
      rw [rows_len, colsL_at hI hx]; exact h3 x hx
theorem imgF_self (hI : Img R C f) : ImgF (rowsL R C f) (rowsL C R (trM f)) f := (imgF_iff hI f).2 ⟨hI.cell, fun _ _ => rfl, fun _ _ => rfl⟩
end
theorem sumsOk_img {R C : Nat} {f : Nat → Nat → Int} (hI : Img R C f) : sumsOk (rowsL R C f) (rowsL C R (trM f)) = true :=
  existsOf_sums (exists_of_img (by rw [rows_len]; exact ⟨hI.r1, hI.r2⟩) (by rw [rows_len]; exact ⟨hI.c1, hI.c2⟩) ⟨f, imgF_self hI⟩)
end Go.Proofs.Ytcliiefedmiokaa
/-
  IsFixed of both.
-/
namespace Go.Proofs.Ytcliiefedmiokaa
open Go.RowKit
set_option maxRecDepth 100000

theorem listF_at {n C : Nat} {m : Nat → Nat → Int} {y x : Nat} (hy : y < n) (hx : x < C) : ((listF n C m).getD y []).getD x 0 = m y x := by
  simp [listF, tabL, hy, hx]
theorem place_img {r c : List Int} {y x : Nat} (v : Int) (hr : 1 ≤ r.length ∧ r.length ≤ 5) (hc : 1 ≤ c.length ∧ c.length ≤ 5) (hy : y < r.length) (hx : x < c.length) (h : HasImg r c) : placeOf r c y x v = true ↔ ∃ g, ImgF r c g ∧ g y x = v := by
  unfold placeOf
  rw [exists_of_img hr hc h, decide_eq_true (show (0 : Int) ≤ y ∧ (y : Int) < r.length ∧ (0 : Int) ≤ x ∧ (x : Int) < c.length by omega), Int.toNat_natCast, Int.toNat_natCast, ← place_iff v hr.2 hc hy h, Bool.true_and, Bool.true_and, List.any_eq_true]
  constructor
  · rintro ⟨l, hl, e⟩
    exact ⟨_, (all_sound r c hr.2 hc h l hl).2.2, by simpa using e⟩
  · rintro ⟨g, hg, e⟩
    exact ⟨_, all_complete r c hr.2 hc g hg, by rw [listF_at hy hx, e]; simp⟩
theorem fix_rch {R C : Nat} {f : Nat → Nat → Int} (hI : Img R C f) {y x : Nat} (hy : y < R) (hx : x < C) : placeOf (rowsL R C f) (rowsL C R (trM f)) y x (1 - f y x) = true ↔ if f y x = 1 then Rch R C f (R + x) y else Rch R C f y (R + x) := by
  rw [place_img _ (by rw [rows_len]; exact ⟨hI.r1, hI.r2⟩) (by rw [rows_len]; exact ⟨hI.c1, hI.c2⟩) (by rw [rows_len]; exact hy) (by rw [rows_len]; exact hx) ⟨f, imgF_self hI⟩]
  constructor
  · rintro ⟨g, hg, e⟩
    obtain ⟨h1, h2, h3⟩ := (imgF_iff hI g).1 hg
    exact rch_of_free hI.cell hy hx h1 h2 h3 e
  · intro h
    obtain ⟨g, h1, h2, h3, h4⟩ := free_of_rch hI.cell hy hx h
    exact ⟨g, (imgF_iff hI g).2 ⟨h1, h2, h3⟩, h4⟩
/-- Whether a cell is fixed. -/
def fixB (R C : Nat) (f : Nat → Nat → Int) (y x : Int) : Bool := decide (0 ≤ y ∧ y < R ∧ 0 ≤ x ∧ x < C) && !placeOf (rowsL R C f) (rowsL C R (trM f)) y x (1 - atM R C f y x)
theorem fixB_in {R C : Nat} {f : Nat → Nat → Int} {y x : Nat} (hy : y < R) (hx : x < C) : fixB R C f y x = !placeOf (rowsL R C f) (rowsL C R (trM f)) y x (1 - f y x) := by
  unfold fixB atM
  have h : (0 : Int) ≤ y ∧ (y : Int) < R ∧ (0 : Int) ≤ x ∧ (x : Int) < C := by omega
  rw [decide_eq_true h, if_pos h, Int.toNat_natCast, Int.toNat_natCast, Bool.true_and]
set_option maxHeartbeats 1000000 in
theorem specIsFixed_no (v : Value) (m : List (List Int)) (y x : Int) (w : World) (hin : InMat w v m) (h : okB m = false) :
    Calls Try.prog 41 #[v, .int .i64 y, .int .i64 x] w fun e w' => e = .returned (.bool false) ∧ Below w.heap.size w w' := by
  have HI := hide hin; have H := hide h
  clear hin h
  go_enter Try.func41, Try.ntmps41
  go_wp2_with ((with_reducible refine (l02In_no v m y x _ HI.out H.out).mono ?_); rintro e w' ⟨rfl, rfl⟩)
  go_ret
  exact ⟨rfl, Below.refl _ _⟩
set_option maxHeartbeats 2000000 in
theorem specIsFixed_yes (v : Value) (R C : Nat) (f : Nat → Nat → Int) (y x : Int) (w : World) (hin : InMat w v (mkM R C f)) (hI : Img R C f) :
    Calls Try.prog 41 #[v, .int .i64 y, .int .i64 x] w fun e w' => e = .returned (.bool (fixB R C f y x)) ∧ Below w.heap.size w w' := by
  by_cases hb : 0 ≤ y ∧ y < R ∧ 0 ≤ x ∧ x < C
  · obtain ⟨y, rfl⟩ : ∃ k : Nat, y = k := ⟨y.toNat, by omega⟩
    obtain ⟨x, rfl⟩ : ∃ k : Nat, x = k := ⟨x.toNat, by omega⟩
    have hy : y < R := by omega
    have hx : x < C := by omega
    have hyI : (y : Int) < R := by omega
    have hxI : (x : Int) < C := by omega
    have H1 := hide (l02In_img v R C f y x w hin hI true ⟨fun _ => hb, fun _ => rfl⟩)
    have HR := hide (fun (s : Nat) (hs : s < R + C) => l07Reach_any v R C f s w hin hI hs)
    have HFR := hide (fix_rch hI hy hx)
    have HFB := hide (fixB_in (f := f) hy hx)
    have HCL := hide (hI.cell y x hy hx)
    obtain ⟨g0, o0, c0, rfl, hg0, hcell⟩ := inMat_img hin (by omega) (by omega)
    obtain ⟨g1, o1, k1, hr, hg1, hc⟩ := hcell y hy
    have hz := hc x hx
    obtain ⟨s, hs⟩ : ∃ s, s = R + x := ⟨_, rfl⟩
    have hsI : (R : Int) + (x : Int) = (s : Int) := by omega
    have hsn : s < R + C := by omega
    have hR5 := hI.r2; have hC5 := hI.c2
    obtain ⟨pl, hpl⟩ : ∃ pl, pl = placeOf (rowsL R C f) (rowsL C R (trM f)) y x (1 - f y x) := ⟨_, rfl⟩
    rw [← hpl] at HFR HFB
    rw [HFB.out]
    rw [← hs] at HFR
    obtain ⟨z, hzz⟩ : ∃ z, z = f y x := ⟨_, rfl⟩
    rw [← hzz] at hz HCL HFR
    obtain ⟨N, hN⟩ : ∃ N, N = R + C := ⟨_, rfl⟩
    have HN := hide hN
    have hsN : s < N := by omega
    have hsNI : (s : Int) < (N : Int) := by omega
    have hyN : y < N := by omega
    have hyNI : (y : Int) < (N : Int) := by omega
    clear hin hI hcell hc hpl hzz hs HFB hN
    rcases HCL.out with rfl | rfl
    · have hF := HFR.out
      rw [if_neg (by decide)] at hF
      have HF := hide hF
      clear HCL HFR hF
      go_enter Try.func41, Try.ntmps41
      go_wp2_with (first | ((with_reducible refine H1.out.mono ?_); rintro e w' ⟨rfl, rfl⟩) | ((with_reducible refine (HR.out y (by omega)).mono ?_); rintro e w3 ⟨g, b, rfl, hm, hb3, hbv⟩; rw [← HN.out] at hm; have hcm := (marks_cell hm hsN).1; have HBV := hide (hbv s hsn); have HB3 := hide hb3; rw [← HN.out]; obtain ⟨q, hq⟩ : ∃ q, q = b s := ⟨_, rfl⟩; rw [← hq] at hcm HBV; clear hm hbv hb3 hq))
      go_ret
      refine ⟨?_, HB3.out⟩
      have : pl = q := by rw [Bool.eq_iff_iff, HF.out, HBV.out]
      rw [this]; rfl
    · have hF := HFR.out
      rw [if_pos rfl] at hF
      have HF := hide hF
      clear HCL HFR hF
      go_enter Try.func41, Try.ntmps41
      go_wp2_with (first | ((with_reducible refine H1.out.mono ?_); rintro e w' ⟨rfl, rfl⟩) | ((with_reducible refine (HR.out s hsn).mono ?_); rintro e w3 ⟨g, b, rfl, hm, hb3, hbv⟩; rw [← HN.out] at hm; have hcm := (marks_cell hm hyN).1; have HBV := hide (hbv y (by omega)); have HB3 := hide hb3; rw [← HN.out]; obtain ⟨q, hq⟩ : ∃ q, q = b y := ⟨_, rfl⟩; rw [← hq] at hcm HBV; clear hm hbv hb3 hq))
      go_ret
      refine ⟨?_, HB3.out⟩
      have : pl = q := by rw [Bool.eq_iff_iff, HF.out, HBV.out]
      rw [this]; rfl
  · have H1 := hide (l02In_img v R C f y x w hin hI false ⟨fun h => (by cases h), fun h => absurd h hb⟩)
    have HF : Hid (fixB R C f y x = false) := hide (by unfold fixB; rw [decide_eq_false hb]; rfl)
    rw [HF.out]
    clear hin hI hb HF
    go_enter Try.func41, Try.ntmps41
    go_wp2_with ((with_reducible refine H1.out.mono ?_); rintro e w' ⟨rfl, rfl⟩)
    go_ret
    exact ⟨rfl, Below.refl _ _⟩
/-- Whether a cell is fixed, in any list of lists. -/
def fixM (m : List (List Int)) (y x : Int) : Bool := okB m && fixB m.length (widthM m) (cellM m) y x
theorem fixB_congr {R C : Nat} {f g : Nat → Nat → Int} (h : ∀ y x, y < R → x < C → f y x = g y x) (y x : Int) : fixB R C f y x = fixB R C g y x := by
  unfold fixB
  by_cases hb : 0 ≤ y ∧ y < R ∧ 0 ≤ x ∧ x < C
  · rw [rowsL_congr h, rowsL_congr (f := trM f) (g := trM g) fun y x hy hx => h x y hx hy]
    unfold atM
    rw [if_pos hb, if_pos hb, h _ _ (by omega) (by omega)]
  · rw [decide_eq_false hb]; rfl
theorem fixM_mk {R C : Nat} {f : Nat → Nat → Int} (hI : Img R C f) (y x : Int) : fixM (mkM R C f) y x = fixB R C f y x := by
  unfold fixM
  rw [img_ok hI, mkM_len, width_mk hI, Bool.true_and]
  exact fixB_congr (fun y x hy hx => cell_mk R C f hy hx) y x
theorem specIsFixed_any (v : Value) (m : List (List Int)) (y x : Int) (w : World) (hin : InMat w v m) :
    Calls Try.prog 41 #[v, .int .i64 y, .int .i64 x] w fun e w' => e = .returned (.bool (fixM m y x)) ∧ Below w.heap.size w w' := by
  cases h : okB m with
  | false => unfold fixM; rw [h]; exact specIsFixed_no v m y x w hin h
  | true =>
    obtain ⟨R, C, f, rfl, hI⟩ := ok_img h
    rw [fixM_mk hI]; exact specIsFixed_yes v R C f y x w hin hI
set_option maxHeartbeats 1000000 in
theorem implIsFixed_no (v : Value) (m : List (List Int)) (y x : Int) (w : World) (hin : InMat w v m) (h : okB m = false) :
    Calls Try.prog 42 #[v, .int .i64 y, .int .i64 x] w fun e w' => e = .returned (.bool false) ∧ Below w.heap.size w w' := by
  have HI := hide hin; have H := hide h
  clear hin h
  go_enter Try.func42, Try.ntmps42
  go_wp2_with ((with_reducible refine (implCellAt_no v m y x _ HI.out H.out).mono ?_); rintro e w' ⟨rfl, hb⟩)
  go_ret
  exact ⟨rfl, hb⟩
set_option maxHeartbeats 2000000 in
theorem implIsFixed_yes (v : Value) (R C : Nat) (f : Nat → Nat → Int) (y x : Int) (w : World) (hin : InMat w v (mkM R C f)) (hI : Img R C f) :
    Calls Try.prog 42 #[v, .int .i64 y, .int .i64 x] w fun e w' => e = .returned (.bool (fixB R C f y x)) ∧ Below w.heap.size w w' := by
  have HI := hide hin; have H := hide hI
  obtain ⟨z, hz⟩ : ∃ z, z = atM R C f y x := ⟨_, rfl⟩
  have HZ := hide hz
  have hz1 : 0 ≤ y ∧ y < R ∧ 0 ≤ x ∧ x < C → z = 0 ∨ z = 1 := fun hb => by
    rw [hz]; unfold atM; rw [if_pos hb]; exact hI.cell _ _ (by omega) (by omega)
  have HFB : Hid (fixB R C f y x = (decide (0 ≤ y ∧ y < R ∧ 0 ≤ x ∧ x < C) && !placeOf (rowsL R C f) (rowsL C R (trM f)) y x (1 - z))) := hide (by rw [hz]; rfl)
  rw [HFB.out]
  by_cases hb : 0 ≤ y ∧ y < R ∧ 0 ≤ x ∧ x < C
  · have hz01 := hz1 hb
    have hne : z ≠ -1 := by omega
    have hsub : IntKind.i64.wrap (1 - z) = 1 - z := IntWalk.i64_in _ (by omega)
    rw [decide_eq_true hb, Bool.true_and]
    clear hin hI hz hz1 HFB hb
    go_enter Try.func42, Try.ntmps42
    go_wp2_with fail
    refine (implCellAt_yes v R C f y x _ HI.out H.out).mono ?_
    rintro e w1 ⟨rfl, hb1⟩
    rw [← HZ.out]
    have I1 := hide (inMat_below HI.out hb1); have B1 := hide hb1
    clear hb1
    go_wp2_with fail
    refine (implRowSums_yes v R C f _ I1.out H.out).mono ?_
    rintro e w2 ⟨rv, rfl, hr, hb2⟩
    have I2 := hide (inMat_below I1.out hb2); have B2 := hide (B1.out.trans (hb2.mono B1.out.size)); have R2 := hide (inRow_own hr)
    clear hb2 hr
    go_wp2_with fail
    refine (implColSums_yes v R C f _ I2.out H.out).mono ?_
    rintro e w3 ⟨cv, rfl, hc, hb3⟩
    have B3 := hide (B2.out.trans (hb3.mono B2.out.size)); have R3 := hide (inRow_below R2.out hb3); have C3 := hide (inRow_own hc)
    clear hb3 hc
    go_wp2_with fail
    refine (implPlace_any rv cv _ _ y x (1 - z) _ R3.out C3.out).mono ?_
    rintro e w4 ⟨rfl, hb4⟩
    have B4 := hide (B3.out.trans (hb4.mono B3.out.size))
    clear hb4
    go_wp2
    go_ret
    refine ⟨?_, B4.out⟩
    have hbz : (z != -1) = true := by simpa using hne
    show Ending.returned (.bool (z != -1 && !placeOf (rowsL R C f) (rowsL C R (trM f)) y x (1 - z))) = _
    rw [hbz, Bool.true_and]
  · have hm : z = -1 := by rw [hz]; unfold atM; rw [if_neg hb]
    subst hm
    rw [decide_eq_false hb, Bool.false_and]
    clear hin hI hz hz1 HFB hb
    go_enter Try.func42, Try.ntmps42
    go_wp2_with fail
    refine (implCellAt_yes v R C f y x _ HI.out H.out).mono ?_
    rintro e w1 ⟨rfl, hb1⟩
    rw [← HZ.out]
    go_wp2
    go_ret
    exact ⟨rfl, hb1⟩
theorem implIsFixed_any (v : Value) (m : List (List Int)) (y x : Int) (w : World) (hin : InMat w v m) :
    Calls Try.prog 42 #[v, .int .i64 y, .int .i64 x] w fun e w' => e = .returned (.bool (fixM m y x)) ∧ Below w.heap.size w w' := by
  cases h : okB m with
  | false => unfold fixM; rw [h]; exact implIsFixed_no v m y x w hin h
  | true =>
    obtain ⟨R, C, f, rfl, hI⟩ := ok_img h
    rw [fixM_mk hI]; exact implIsFixed_yes v R C f y x w hin hI
end Go.Proofs.Ytcliiefedmiokaa
/-
  The exact law on IsFixed, walked.
-/
namespace Go.Proofs.Ytcliiefedmiokaa
open Go.RowKit
set_option linter.unusedVariables false

set_option maxRecDepth 100000 in
set_option maxHeartbeats 4000000 in
theorem lawIsFixed_walk (a : Option Addr) (n c : Nat) (m : List (List Int)) (y x : Int) (w : World) (hin : InMat w (.slice a n c) m) (_ : (Lit.int .i64 y).wf = true) (_ : (Lit.int .i64 x).wf = true) :
    Calls Try.prog 10 #[.slice a n c, .int .i64 y, .int .i64 x] w fun e w' => e = .returned (.bool true) ∧ Below w.heap.size w w' := by
  have HI := hide hin
  obtain ⟨val, hval⟩ : ∃ val, val = fixM m y x := ⟨_, rfl⟩
  have HS := hide fun v w h => specIsFixed_any v m y x w h
  have HM := hide fun v w h => implIsFixed_any v m y x w h
  rw [← hval] at HS HM
  clear hin hval
  go_enter Try.func10, Try.ntmps10
  have HB := hide (Below.refl w.heap.size w)
  go_wp2_with fail
  refine (szIntSS_any _ m 1048576 _ (by omega) HI.out).mono ?_
  rintro e w1 ⟨r, rfl, hr, hb⟩
  have hs1 := hb.size
  replace HB := hide (HB.out.trans (hb.mono HB.out.size))
  clear hb
  rcases hr with rfl | ⟨hsz, rfl⟩
  · go_wp2
    go_ret
    exact ⟨rfl, HB.out⟩
  · go_wp2_with fail
    refine (toIntSS_any _ m _ (by omega) (inMat_below HI.out HB.out)).mono ?_
    rintro e w2 ⟨v1, rfl, hv, hb⟩
    have hs2 := hb.size
    replace HB := hide (HB.out.trans (hb.mono HB.out.size))
    have HV1 := hide (hv)
    clear hb
    clear hv
    go_wp2_with fail
    refine (HS.out v1 _ (inMat_own HV1.out)).mono ?_
    rintro e w3 ⟨rfl, hb⟩
    have hs3 := hb.size
    replace HV1 := hide (ownMat_below HV1.out hb)
    replace HB := hide (HB.out.trans (hb.mono HB.out.size))
    clear hb
    go_wp2_with fail
    refine (toIntSS_any _ m _ (by omega) (inMat_below HI.out HB.out)).mono ?_
    rintro e w4 ⟨v2, rfl, hv, hb⟩
    have hs4 := hb.size
    replace HV1 := hide (ownMat_below HV1.out hb)
    replace HB := hide (HB.out.trans (hb.mono HB.out.size))
    have HV2 := hide (hv)
    clear hb
    clear hv
    go_wp2_with fail
    refine (HM.out v2 _ (inMat_own HV2.out)).mono ?_
    rintro e w5 ⟨rfl, hb⟩
    have hs5 := hb.size
    replace HV1 := hide (ownMat_below HV1.out hb)
    replace HV2 := hide (ownMat_below HV2.out hb)
    replace HB := hide (HB.out.trans (hb.mono HB.out.size))
    clear hb
    go_wp2_with fail
    refine (toIntSS_any _ m _ (by omega) (inMat_below HI.out HB.out)).mono ?_
    rintro e w6 ⟨v3, rfl, hv, hb⟩
    have hs6 := hb.size
    replace HV1 := hide (ownMat_below HV1.out hb)
    replace HV2 := hide (ownMat_below HV2.out hb)
    replace HB := hide (HB.out.trans (hb.mono HB.out.size))
    have HV3 := hide (hv)
    clear hb
    clear hv
    go_wp2_with fail
    refine (eqIntSS_same v2 v3 m _ (inMat_own HV2.out) (inMat_own HV3.out)).mono ?_
    rintro e w7 ⟨rfl, hb⟩
    have hs7 := hb.size
    replace HV1 := hide (ownMat_below HV1.out hb)
    replace HV2 := hide (ownMat_below HV2.out hb)
    replace HV3 := hide (ownMat_below HV3.out hb)
    replace HB := hide (HB.out.trans (hb.mono HB.out.size))
    clear hb
    go_wp2
    go_ret
    exact ⟨rfl, HB.out⟩
end Go.Proofs.Ytcliiefedmiokaa
/-
  The images that the laws draw: l02Draw, MakeImage, MakeSized.
-/
namespace Go.Proofs.Ytcliiefedmiokaa
open Go.RowKit

theorem curAt_within {w w' : World} {B n : Nat} {a : Option Addr} (h : CurAt w B a n) (hb : w'.heap[B]? = w.heap[B]?) : CurAt w' B a n := by
  obtain ⟨c, i, k, h1, h2, h3⟩ := h
  exact ⟨c, i, k, by rw [hb]; exact h1, h2, h3⟩
theorem curAt_lt {w : World} {B n : Nat} {a : Option Addr} (h : CurAt w B a n) : B < w.heap.size := by
  obtain ⟨c, i, k, h1, -⟩ := h
  exact (Array.getElem?_eq_some_iff.1 h1).1
theorem curAt_below {w w' : World} {B n : Nat} {a : Option Addr} (h : CurAt w B a n) (hb : Below w.heap.size w w') : CurAt w' B a n := curAt_within h (hb.block B (curAt_lt h))
theorem ownMat_cur {w w' : World} {lo hi B : Nat} {v : Value} {m : List (List Int)} (h : OwnMat w lo hi v m) (hg : w.grownBy w' (some B)) (hB : B < lo) : OwnMat w' lo hi v m :=
  ownMat_within h (within_grown (lo := B) (hi := B + 1) hg fun k hk => by cases hk; exact ⟨Nat.le_refl _, Nat.lt_succ_self _⟩) (.inr hB)
theorem grown_undrew {w w' : World} {row : Option Nat} (h : w.drew.grownBy w' row) : w.grownBy w' row := ⟨h.os, h.tape, h.output, h.size, h.block⟩
theorem cells_kept {w w' : World} {B gv y gr x : Nat} {u z : Value} (h : w.drew.grownBy w' (some B)) (h1 : w.cell? ⟨gv, y, none⟩ = some u) (h2 : w.cell? ⟨gr, x, none⟩ = some z) (h3 : w.frozen? ⟨gr, x, none⟩ = false) (n1 : gv ≠ B) (n2 : gr ≠ B) :
    w'.cell? ⟨gv, y, none⟩ = some u ∧ w'.cell? ⟨gr, x, none⟩ = some z ∧ w'.frozen? ⟨gr, x, none⟩ = false := by
  have hg := grown_undrew h
  refine ⟨hg.cell h1 (by simpa using n1), hg.cell h2 (by simpa using n2), ?_⟩
  have hlt : gr < w.heap.size := World.block_lt_of_cell? w _ h2
  rw [World.frozen?_of_block (w := w) (a := ⟨gr, x, none⟩) (hg.block gr hlt (by simpa using n2))]; exact h3
theorem img_upd {R C : Nat} {f : Nat → Nat → Int} (h : Img R C f) (y x : Nat) {z : Int} (hz : z = 0 ∨ z = 1) : Img R C fun a b => if a = y ∧ b = x then z else f a b :=
  ⟨h.r1, h.r2, h.c1, h.c2, fun a b ha hb => by
    show (if a = y ∧ b = x then z else f a b) = 0 ∨ (if a = y ∧ b = x then z else f a b) = 1
    split
    · exact hz
    · exact h.cell a b ha hb⟩

theorem ownMat_apart {w : World} {lo hi g n c g' n' c' : Nat} {m : List (List Int)} (h : OwnMat w lo hi (.slice (some ⟨g, 0, none⟩) n c) m) (i : Nat) (h' : i < m.length) (hc : w.cell? ⟨g, i, none⟩ = some (.slice (some ⟨g', 0, none⟩) n' c')) : g ≠ g' := by
  obtain ⟨vs, ho, -, hr, -⟩ := h
  have hn : n = m.length := by
    rcases ho.2 with ⟨e, _⟩ | ⟨g2, cap, cur, e, _⟩
    · cases e
    · cases e; rfl
  subst hn
  have h1 := cell_held ho h'
  rw [hc, Option.some.injEq] at h1
  rcases own_types ho (hr i h').1 (by decide) with e | e
  · cases e
  · rw [← h1] at e
    simpa [Value.ownBlock] using e
/-- What the laws draw: some image; the cursor in its place; nothing below it touched. -/
def DrawnImg (w : World) (B : Nat) (a : Option Addr) (n : Nat) (e : Ending) (w' : World) : Prop :=
  ∃ (v : Value) (R C : Nat) (f : Nat → Nat → Int), e = .returned v ∧ Img R C f ∧ OwnMat w' w.heap.size w'.heap.size v (mkM R C f) ∧ CurAt w' B a n ∧ Below B w w'

/-- And it is of the size asked. -/
def DrawnMost (most : Nat) (w : World) (B : Nat) (a : Option Addr) (n : Nat) (e : Ending) (w' : World) : Prop :=
  ∃ (v : Value) (R C : Nat) (f : Nat → Nat → Int), e = .returned v ∧ Img R C f ∧ (R ≤ most ∧ C ≤ most) ∧ OwnMat w' w.heap.size w'.heap.size v (mkM R C f) ∧ CurAt w' B a n ∧ Below B w w'
set_option maxRecDepth 100000 in
set_option maxHeartbeats 1000000 in
theorem l02Draw_most (B n : Nat) (a : Option Addr) (most : Nat) (w : World) (base : Nat) (hm0 : 1 ≤ most) (hm1 : most ≤ 5) (hc : CurAt w B a n) (hin : InBytes w base a n) (hbase : base ≤ B) :
    Calls Try.prog 69 #[.pointer (some ⟨B, 0, none⟩), .int .i64 most] w (DrawnMost most w B a n) := by
  have HC := hide hc; have HI := hide hin
  have hBw := curAt_lt hc
  clear hc hin
  go_enter Try.func69, Try.ntmps69
  go_wp2_with fail
  refine (l01Below_any B n a most _ base (by omega) (by omega) HC.out HI.out hbase).mono ?_
  rintro e w1 ⟨x1, hx10, hx11, rfl, hc1, hg1⟩
  have HC1 := hide hc1; have HI1 := hide (inBytes_grown HI.out hg1 hbase); have HG1 := hide hg1
  clear hc1 hg1
  go_wp2_with fail
  refine (l01Below_any B n a most _ base (by omega) (by omega) HC1.out HI1.out hbase).mono ?_
  rintro e w2 ⟨x2, hx20, hx21, rfl, hc2, hg2⟩
  have HC2 := hide hc2; have HI2 := hide (inBytes_grown HI1.out hg2 hbase); have HG2 := hide (grown_trans HG1.out hg2)
  clear hc2 hg2
  obtain ⟨R, hR⟩ : ∃ R : Nat, 1 + x1 = R := ⟨(1 + x1).toNat, by omega⟩
  obtain ⟨C, hC⟩ : ∃ C : Nat, 1 + x2 = C := ⟨(1 + x2).toNat, by omega⟩
  have HMOST : Hid (R ≤ most ∧ C ≤ most) := hide (by omega)
  have hR5 : 1 ≤ R ∧ R ≤ 5 := by omega
  have hC5 : 1 ≤ C ∧ C ≤ 5 := by omega
  obtain rfl : x1 = R - 1 := by omega
  obtain rfl : x2 = C - 1 := by omega
  have k1 : 1 + ((R : Int) - 1) = R := by omega
  have k2 : 1 + ((C : Int) - 1) = C := by omega
  clear hR hC
  go_wp2_with fail
  refine (l02Empty_any R C _ hR5.2 hC5.2).mono ?_
  rintro e w3 ⟨v3, rfl, o3, b3⟩
  clear k1 k2
  obtain ⟨gv, cv, rfl⟩ := ownMat_some o3 (by rw [mkM_len]; omega)
  rw [mkM_len] at *
  have hs2 := HG2.out.size
  have B3 := hide ((grown_below HG2.out (fun k hk => by cases hk; exact Nat.le_refl B) (by omega) : Below B w w2).trans (b3.mono (by omega)))
  have C3 := hide (curAt_below HC2.out b3)
  have I3 := hide (inBytes_below HI2.out (b3.mono (by have := HI2.out.2.1; omega)))
  have O3 := hide (ownMat_mono o3 hs2 (Nat.le_refl _))
  have IM3 := hide (img_zero hR5 hC5)
  obtain ⟨hi, hhi⟩ : ∃ hi, hi = w3.heap.size := ⟨_, rfl⟩
  have hge : hi ≤ w3.heap.size := by omega
  rw [← hhi] at O3
  clear HG2 HC2 HI2 HC1 HI1 HG1 o3 b3 hhi
  go_wp2
  go_loopw [19] (fun i w' => ∃ (y : Nat) (f : Nat → Nat → Int), y ≤ R ∧ i = .int .i64 y ∧ Img R C f ∧ hi ≤ w'.heap.size ∧ OwnMat w' w.heap.size hi (.slice (some ⟨gv, 0, none⟩) R cv) (mkM R C f) ∧ CurAt w' B a n ∧ InBytes w' base a n ∧ Below B w w') (fun i _ => R - (intOf i).toNat)
  case atStart => exact ⟨0, zeroM, by omega, rfl, IM3.out, hge, O3.out, C3.out, I3.out, B3.out⟩
  case round =>
    clear B3 C3 I3 O3 IM3 hge
    obtain ⟨y, f, hy, rfl, him, hhi, hown, hcu, hib, hb⟩ := hrel
    have HM := hide him; have HO := hide hown; have HCu := hide hcu; have HIB := hide hib; have HB := hide hb
    clear him hown hcu hib hb
    by_cases hlt : y < R
    · have hyI : (y : Int) < R := by omega
      obtain ⟨g0, c0, hrow0, -⟩ := ownMat_cell HO.out y 0 hlt (by omega)
      go_wp2
      clear hrow0
      go_loopw [27] (fun i w' => ∃ (x : Nat) (f : Nat → Nat → Int), x ≤ C ∧ i = .int .i64 x ∧ Img R C f ∧ hi ≤ w'.heap.size ∧ OwnMat w' w.heap.size hi (.slice (some ⟨gv, 0, none⟩) R cv) (mkM R C f) ∧ CurAt w' B a n ∧ InBytes w' base a n ∧ Below B w w') (fun i _ => C - (intOf i).toNat)
      case atStart => exact ⟨0, f, by omega, rfl, HM.out, hhi, HO.out, HCu.out, HIB.out, HB.out⟩
      case round =>
        clear HM HO HCu HIB HB hhi f
        obtain ⟨x, f, hx, rfl, him, hhi, hown, hcu, hib, hb⟩ := hrel
        have HM := hide him; have HO := hide hown; have HCu := hide hcu; have HIB := hide hib; have HB := hide hb
        clear him hown hcu hib hb
        by_cases hlx : x < C
        · have hxI : (x : Int) < C := by omega
          obtain ⟨gr, cr, hrow, hcl, hfr, hlo, hgh, -⟩ := ownMat_cell HO.out y x hlt hlx
          have hgv : gv ≠ B := by
            obtain ⟨vs, hvs, -⟩ := HO.out
            have := (hvs.lt gv rfl).1; omega
          have HK : Hid (∀ w5, CurAt w5 B a n → wr.drew.grownBy w5 (some B) → w5.cell? ⟨gv, y, none⟩ = some (.slice (some ⟨gr, 0, none⟩) C cr) ∧ w5.cell? ⟨gr, x, none⟩ = some (.int .i64 (f y x)) ∧ w5.frozen? ⟨gr, x, none⟩ = false) := hide fun w5 hc hg => cells_kept hg hrow hcl hfr hgv (by omega)
          have hgg : gv ≠ gr := ownMat_apart HO.out y (by rw [mkM_len]; exact hlt) hrow
          have HCd : Hid (CurAt wr.drew B a n) := hide HCu.out
          have HId : Hid (InBytes wr.drew base a n) := hide HIB.out
          go_wp2
          go_region_held3 (fun w' => w'.cell? ⟨gv, y, none⟩ = some (.slice (some ⟨gr, 0, none⟩) C cr))
            (first | exact hrow | exact k1 | exact HKS.out)
            (first | (go_at_call 71; refine (l01Below_any B n a 2 _ base (by omega) (by omega) HCd.out HId.out hbase).mono ?_; rintro e w5 ⟨z, hz0, hz1, rfl, hc5, hg5⟩; obtain ⟨k1, k2, k3⟩ := HK.out w5 hc5 hg5; have HZ : Hid (z = 0 ∨ z = 1) := hide (by omega); have HKS : Hid ((w5.setCell ⟨gr, x, none⟩ (.int .i64 z)).cell? ⟨gv, y, none⟩ = some (.slice (some ⟨gr, 0, none⟩) C cr)) := hide (by rw [World.cell?_setCell_other _ _ _ _ (fun e => hgg (congrArg Addr.block e).symm)]; exact k1); replace hc5 := hide hc5; replace hg5 := hide hg5))
          go_wp2
          go_roundw
          case rel =>
            have hg := grown_undrew hg5.out
            have ho5 := ownMat_cur HO.out hg (by omega)
            obtain ⟨g7, c7, hrow7, -, -, -, -, hset⟩ := ownMat_cell ho5 y x hlt hlx
            rw [k1] at hrow7
            simp only [Option.some.injEq, Value.slice.injEq, Addr.mk.injEq] at hrow7
            obtain ⟨⟨rfl, -, -⟩, -, -⟩ := hrow7
            exact ⟨x + 1, _, by omega, by go_num, img_upd HM.out y x HZ.out, (by have := hg.size; simp [World.setCell]; omega), hset z, curAt_within hc5.out (heap_setCell_other _ _ _ _ (by show B ≠ gr; omega)), inBytes_below (inBytes_grown HIB.out hg hbase) ((Below.refl _ _).setCell (by show base ≤ gr; omega) _), (HB.out.trans (grown_below hg (fun k hk => by cases hk; exact Nat.le_refl _) (by have := curAt_lt HCu.out; omega))).setCell (by show B ≤ gr; omega) _⟩
          case measure => simp [intOf]; omega
        · obtain rfl : x = C := by omega
          go_wp2
          go_roundw
          case rel => exact ⟨y + 1, f, by omega, by go_num, HM.out, hhi, HO.out, HCu.out, HIB.out, HB.out⟩
          case measure => simp [intOf]; omega
    · obtain rfl : y = R := by omega
      go_wp2
      go_ret
      exact ⟨_, y, C, f, rfl, HM.out, HMOST.out, ownMat_mono HO.out (Nat.le_refl _) hhi, HCu.out, HB.out⟩

theorem l02Draw_any (B n : Nat) (a : Option Addr) (most : Nat) (w : World) (base : Nat) (hm0 : 1 ≤ most) (hm1 : most ≤ 5) (hc : CurAt w B a n) (hin : InBytes w base a n) (hbase : base ≤ B) :
    Calls Try.prog 69 #[.pointer (some ⟨B, 0, none⟩), .int .i64 most] w (DrawnImg w B a n) :=
  (l02Draw_most B n a most w base hm0 hm1 hc hin hbase).mono fun _ _ ⟨v, R, C, f, h1, h2, _, h3, h4, h5⟩ => ⟨v, R, C, f, h1, h2, h3, h4, h5⟩

/-- What the laws' makers answer: some image. -/
def MadeImg (w : World) (e : Ending) (w' : World) : Prop := ∃ (v : Value) (R C : Nat) (f : Nat → Nat → Int), e = .returned v ∧ Img R C f ∧ OwnMat w' w.heap.size w'.heap.size v (mkM R C f) ∧ Below w.heap.size w w'
set_option maxHeartbeats 400000 in
theorem makeImage_any (n c : Nat) (a : Option Addr) (m : Nat) (w : World) (base : Nat) (hin : InBytes w base a n) (hn : n ≤ 2000000) (hm : m ≤ 1000) :
    Calls Try.prog 43 #[.slice a n c, .int .i64 m, .int .i64 5] w (MadeImg w) := by
  have HI := hide hin
  clear hin
  go_enter Try.func43, Try.ntmps43
  go_wp2_with fail
  refine (l18New_any n c a m _ base HI.out hn hm).mono ?_
  rintro e w1 ⟨rfl, hc, hb, hlt⟩
  have HC := hide hc; have HB := hide hb; have hs1 := hb.size
  have HI1 := hide (inBytes_below HI.out (hb.mono HI.out.2.1))
  clear hc hb
  go_wp2_with fail
  refine (l02Draw_any _ n a 5 _ base (by omega) (by omega) HC.out HI1.out HI.out.2.1).mono ?_
  rintro e w2 ⟨v, R, C, f, rfl, him, ho, -, hb⟩
  have HIM := hide him; have HO := hide (ownMat_mono ho hs1 (Nat.le_refl _)); have HB2 := hide (HB.out.trans hb)
  clear him ho hb
  go_wp2
  go_ret
  exact ⟨v, R, C, f, rfl, HIM.out, HO.out, HB2.out⟩

/-- What MakeSized answers: an image of the size asked. -/
def SizedImg (R C : Nat) (w : World) (e : Ending) (w' : World) : Prop := ∃ (v : Value) (f : Nat → Nat → Int), e = .returned v ∧ Img R C f ∧ OwnMat w' w.heap.size w'.heap.size v (mkM R C f) ∧ Below w.heap.size w w'
end Go.Proofs.Ytcliiefedmiokaa
/-
  The helpers of the laws that are no exact ones: same, alike.
-/
namespace Go.Proofs.Ytcliiefedmiokaa
open Go.RowKit
set_option maxHeartbeats 1000000 in
theorem same_any (va vb : Value) (r s : List Int) (w : World) (ha : InRow w va r) (hb : InRow w vb s) :
    Calls Try.prog 47 #[va, vb] w fun e w' => e = .returned (.bool (r == s)) ∧ w = w' := by
  obtain ⟨a, ca, rfl, hma, hpa⟩ := ha
  obtain ⟨b, cb, rfl, hmb, hpb⟩ := hb
  unfold maxLen at hma hmb
  by_cases hlen : r.length = s.length
  · by_cases h0 : r.length = 0
    · have hr : r = [] := List.eq_nil_of_length_eq_zero h0
      have hs : s = [] := List.eq_nil_of_length_eq_zero (by omega)
      subst hr; subst hs
      clear hpa hpb hma hmb hlen h0
      go_enter Try.func47, Try.ntmps47
      go_wp2
      go_loop [14] (fun i => i = .int .i64 0) (fun _ => 0)
      case atStart => rfl
      case round =>
        obtain rfl := hrel
        go_wp2
        go_ret
        exact ⟨rfl, rfl⟩
    · obtain ⟨ga, oa, rfl, -, hca⟩ := hpa.resolve_left h0
      obtain ⟨gb, ob, rfl, -, hcb⟩ := hpb.resolve_left (by omega)
      have HA := hide hca; have HB := hide hcb; have HL := hide hlen
      obtain ⟨n, hn⟩ : ∃ n, n = r.length := ⟨_, rfl⟩
      have HN := hide hn
      have HM : Hid (s.length = n) := hide (by omega)
      rw [← hlen, ← hn]
      rw [← hn] at hma
      clear hpa hpb hca hcb h0 hmb hlen hn
      go_enter Try.func47, Try.ntmps47
      go_wp2
      go_loop [14] (fun i => ∃ k : Nat, k ≤ n ∧ i = .int .i64 k ∧ ∀ t, (h1 : t < r.length) → (h2 : t < s.length) → t < k → r[t] = s[t]) (fun i => n - (intOf i).toNat)
      case atStart => exact ⟨0, Nat.zero_le _, rfl, fun t _ _ h => absurd h (Nat.not_lt_zero _)⟩
      case round =>
        obtain ⟨k, hk, rfl, hall⟩ := hrel
        have HH := hide hall
        clear hall
        by_cases hlt : k < n
        · have hkr : k < r.length := by rw [← HN.out]; exact hlt
          have hks : k < s.length := by rw [HM.out]; exact hlt
          have hxa := HA.out k hkr
          have hxb := HB.out k hks
          have HNO := hide (fun h => sameRow_no2 k hkr hks h)
          have HST : Hid (r[k] = s[k] → ∀ t, (h1 : t < r.length) → (h2 : t < s.length) → t < k + 1 → r[t] = s[t]) := hide fun h t h1 h2 ht => by
            by_cases e : t = k
            · subst e; exact h
            · exact HH.out t h1 h2 (by omega)
          obtain ⟨x, hx⟩ : ∃ x, x = r[k] := ⟨_, rfl⟩
          obtain ⟨y, hy⟩ : ∃ y, y = s[k] := ⟨_, rfl⟩
          rw [← hx, ← hy] at HNO HST
          rw [← hx] at hxa
          rw [← hy] at hxb
          clear hx hy
          by_cases e : x = y
          · subst e
            have HST := hide (HST.out rfl)
            go_wp2
            go_round
            case rel => exact ⟨k + 1, by omega, by go_num, HST.out⟩
            case measure => simp [intOf]; omega
          · have HF := hide (HNO.out e)
            have hne : (x == y) = false := by simpa using e
            have hne2 : (x != y) = true := by simpa using e
            clear e
            go_wp2
            go_ret
            exact ⟨ret_bool HF.out.symm, rfl⟩
        · have HY := hide (sameRow_yes HL.out fun t h1 h2 => HH.out t h1 h2 (by have := HN.out; omega))
          go_wp2
          go_ret
          exact ⟨ret_bool HY.out.symm, rfl⟩
  · have HF := hide (sameRow_no hlen)
    obtain ⟨n, hn⟩ : ∃ n, n = r.length := ⟨_, rfl⟩
    obtain ⟨k, hk⟩ : ∃ k, k = s.length := ⟨_, rfl⟩
    rw [← hn, ← hk] at hlen ⊢
    rw [← hn] at hma
    rw [← hk] at hmb
    have hne : ((n : Int) == (k : Int)) = false := by simp; omega
    have hne2 : ((n : Int) != (k : Int)) = true := by simp; omega
    clear hpa hpb hn hk hlen
    go_enter Try.func47, Try.ntmps47
    go_wp2
    go_ret
    exact ⟨ret_bool HF.out.symm, rfl⟩


set_option maxHeartbeats 1000000 in
theorem alike_any (va vb : Value) (m l : List (List Int)) (w : World) (ha : InMat w va m) (hb : InMat w vb l) :
    Calls Try.prog 34 #[va, vb] w fun e w' => e = .returned (.bool (m == l)) ∧ Below w.heap.size w w' := by
  obtain ⟨a, ca, rfl, hma, hpa⟩ := ha
  obtain ⟨b, cb, rfl, hmb, hpb⟩ := hb
  unfold maxLen at hma hmb
  by_cases hlen : m.length = l.length
  · by_cases h0 : m.length = 0
    · have hr : m = [] := List.eq_nil_of_length_eq_zero h0
      have hs : l = [] := List.eq_nil_of_length_eq_zero (by omega)
      subst hr; subst hs
      clear hpa hpb hma hmb hlen h0
      go_enter Try.func34, Try.ntmps34
      go_wp2
      go_loop [14] (fun i => i = .int .i64 0) (fun _ => 0)
      case atStart => rfl
      case round =>
        obtain rfl := hrel
        go_wp2
        go_ret
        exact ⟨rfl, Below.refl _ _⟩
    · obtain ⟨ga, oa, rfl, hga, hca⟩ := hpa.resolve_left h0
      obtain ⟨gb, ob, rfl, hgb, hcb⟩ := hpb.resolve_left (by omega)
      have HA := hide hca; have HB := hide hcb; have HL := hide hlen
      obtain ⟨n, hn⟩ : ∃ n, n = m.length := ⟨_, rfl⟩
      have HN := hide hn
      have HM : Hid (l.length = n) := hide (by omega)
      rw [← hlen, ← hn]
      rw [← hn] at hma
      clear hpa hpb hca hcb h0 hmb hlen hn
      go_enter Try.func34, Try.ntmps34
      go_wp2
      go_loopw [14] (fun i w' => ∃ k : Nat, k ≤ n ∧ i = .int .i64 k ∧ (∀ t, (h1 : t < m.length) → (h2 : t < l.length) → t < k → (m[t] == l[t]) = true) ∧ Below w.heap.size w w') (fun i _ => n - (intOf i).toNat)
      case atStart => exact ⟨0, Nat.zero_le _, rfl, fun t _ _ h => absurd h (Nat.not_lt_zero _), Below.refl _ _⟩
      case round =>
        obtain ⟨k, hk, rfl, hall, hbb⟩ := hrel
        have HH := hide hall; have HBB := hide hbb
        clear hall hbb
        by_cases hlt : k < n
        · have hkr : k < m.length := by rw [← HN.out]; exact hlt
          have hks : k < l.length := by rw [HM.out]; exact hlt
          obtain ⟨ua, hxa, hra⟩ := HA.out k hkr
          obtain ⟨ub, hxb, hrb⟩ := HB.out k hks
          have hxa := below_cell HBB.out hga hxa
          have hxb := below_cell HBB.out hgb hxb
          have HRA := hide (inRow_below hra HBB.out)
          have HRB := hide (inRow_below hrb HBB.out)
          have HNO := hide (fun h => sameMat_no2 k hkr hks h)
          have HST : Hid ((m[k] == l[k]) = true → ∀ t, (h1 : t < m.length) → (h2 : t < l.length) → t < k + 1 → (m[t] == l[t]) = true) := hide fun h t h1 h2 ht => by
            by_cases e : t = k
            · subst e; exact h
            · exact HH.out t h1 h2 (by omega)
          clear hra hrb
          cases e : (m[k] == l[k]) with
          | true =>
            have HE := hide e
            have HST := hide (HST.out e)
            clear e
            go_wp2_with (go_at_call 47; refine (same_any _ _ _ _ _ HRA.out HRB.out).mono ?_; rw [HE.out]; rintro e w9 ⟨rfl, rfl⟩)
            go_roundw
            case rel => exact ⟨k + 1, by omega, by go_num, HST.out, HBB.out⟩
            case measure => simp [intOf]; omega
          | false =>
            have HE := hide e
            have HF := hide (HNO.out e)
            clear e
            go_wp2_with (go_at_call 47; refine (same_any _ _ _ _ _ HRA.out HRB.out).mono ?_; rw [HE.out]; rintro e w9 ⟨rfl, rfl⟩)
            go_ret
            exact ⟨ret_bool HF.out.symm, HBB.out⟩
        · have HY := hide (sameMat_yes HL.out fun t h1 h2 => HH.out t h1 h2 (by have := HN.out; omega))
          go_wp2
          go_ret
          exact ⟨ret_bool HY.out.symm, HBB.out⟩
  · have HF := hide (sameMat_no hlen)
    obtain ⟨n, hn⟩ : ∃ n, n = m.length := ⟨_, rfl⟩
    obtain ⟨k, hk⟩ : ∃ k, k = l.length := ⟨_, rfl⟩
    rw [← hn, ← hk] at hlen ⊢
    rw [← hn] at hma
    rw [← hk] at hmb
    have hne : ((n : Int) == (k : Int)) = false := by simp; omega
    have hne2 : ((n : Int) != (k : Int)) = true := by simp; omega
    clear hpa hpb hn hk hlen
    go_enter Try.func34, Try.ntmps34
    go_wp2
    go_ret
    exact ⟨ret_bool HF.out.symm, Below.refl _ _⟩

theorem alike_yes (va vb : Value) (m : List (List Int)) (w : World) (ha : InMat w va m) (hb : InMat w vb m) :
    Calls Try.prog 34 #[va, vb] w fun e w' => e = .returned (.bool true) ∧ Below w.heap.size w w' := by
  have h := alike_any va vb m m w ha hb
  rw [beq_self_eq_true] at h; exact h
end Go.Proofs.Ytcliiefedmiokaa
/-
  IsStaircase, of the model and of the program.
-/
namespace Go.Proofs.Ytcliiefedmiokaa
open Go.RowKit Go.Shelf

/-- The cells of the row stand in descending order. -/
def downB (r : List Int) : Bool := r == sortD r
def stairB (m : List (List Int)) : Bool := okB m && !m.any fun r => !downB r
theorem downB_iff (r : List Int) : downB r = true ↔ Desc r := by
  unfold downB
  rw [beq_iff_eq]
  constructor
  · intro h; rw [h]; exact sortD_desc r
  · intro h; exact sortD_of (List.Perm.refl r) h
theorem desc_of_next {r : List Int} (h : ∀ x, (h1 : x + 1 < r.length) → r[x + 1] ≤ r[x]) : Desc r := by
  have hd : ∀ d x, (h1 : x + d < r.length) → r[x + d] ≤ r[x] := by
    intro d
    induction d with
    | zero => intro x _; exact Int.le_refl _
    | succ d ih =>
      intro x h1
      have a := ih x (by omega)
      have b := h (x + d) (by omega)
      exact Int.le_trans b a
  refine List.pairwise_iff_getElem.2 fun i j hi hj hij => ?_
  obtain ⟨d, rfl⟩ : ∃ d, j = i + d := ⟨j - i, by omega⟩
  exact hd d i hj
theorem downB_no {r : List Int} (x : Nat) (h1 : x + 1 < r.length) (h : r[x] < r[x + 1]) : downB r = false := by
  cases e : downB r with
  | false => rfl
  | true =>
    have := List.pairwise_iff_getElem.1 ((downB_iff r).1 e) x (x + 1) (by omega) h1 (by omega)
    omega
theorem okB_rows {m : List (List Int)} (h : okB m = true) : (1 ≤ m.length ∧ m.length ≤ 5) ∧ (1 ≤ widthM m ∧ widthM m ≤ 5) ∧ ∀ r ∈ m, r.length = widthM m := by
  unfold okB at h
  simp only [Bool.and_eq_true, decide_eq_true_eq, List.all_eq_true] at h
  obtain ⟨⟨h1, h2⟩, h3⟩ := h
  refine ⟨h1, h2, fun r hr => ?_⟩
  have := h3 r hr
  unfold rowOk at this
  simp only [Bool.and_eq_true, beq_iff_eq] at this
  exact this.1

set_option maxHeartbeats 400000 in
theorem stairRow_any (r : List Int) (u : Value) (w : World) (hr : r.length ≤ 5) (hin : InRow w u r) :
    Calls Try.prog 100 #[u] w fun e w' => e = .returned (.bool (!downB r)) ∧ Below w.heap.size w w' := by
  have HI := hide hin
  clear hin
  go_enter Try.func100, Try.ntmps100
  go_wp2_with fail
  refine (implSortedDown_any u r _ HI.out (by omega)).mono ?_
  rintro e w1 ⟨v1, rfl, ho, hb⟩
  have HO := hide (inRow_own (r := sortD r) (by rw [sortD_len] at ho ⊢; exact ho)); have HB := hide hb; have HI1 := hide (inRow_below HI.out hb)
  clear ho hb
  go_wp2_with fail
  refine (equal_any u v1 r (sortD r) _ HI1.out HO.out).mono ?_
  rw [show (r == sortD r) = downB r from rfl]
  rintro e w2 ⟨rfl, hb⟩
  have HB2 := hide (HB.out.trans (hb.mono HB.out.size))
  clear hb
  go_wp2
  go_ret
  exact ⟨rfl, HB2.out⟩
theorem enters_stairRow : ∀ args w, (callFunc 100 args).run Try.prog w = .ok (.enter 100 args) w := enters_of Try.func100 (by kernel_rfl) rfl
set_option maxHeartbeats 400000 in
theorem implIsStair_any (v : Value) (m : List (List Int)) (w : World) (hin : InMat w v m) :
    Calls Try.prog 49 #[v] w fun e w' => e = .returned (.bool (stairB m)) ∧ Below w.heap.size w w' := by
  have HI := hide hin
  clear hin
  cases h : okB m with
  | false =>
    rw [stairB, h]
    have H := hide h
    clear h
    go_enter Try.func49, Try.ntmps49
    go_wp2_with ((with_reducible refine (implImageOk_any v m _ HI.out).mono ?_); rw [H.out]; rintro e w1 ⟨rfl, rfl⟩)
    go_ret
    exact ⟨rfl, Below.refl _ _⟩
  | true =>
    rw [stairB, h]
    have H := hide h
    obtain ⟨-, h2, h3⟩ := okB_rows h
    have HC := hide (fun (w : World) (hi : InMat w v m) => containsRows_any v m 100 #[] (fun r => r.length ≤ 5) (fun r => !downB r) w enters_stairRow hi (fun r hr => by rw [h3 r hr]; exact h2.2)
      (fun r u w' hr _ hi => by rw [show #[u] ++ (#[] : Array Value) = #[u] from rfl]; exact stairRow_any r u w' hr hi))
    obtain ⟨q, hq⟩ : ∃ q, q = m.any fun r => !downB r := ⟨_, rfl⟩
    rw [← hq] at HC ⊢
    clear h hq h2 h3
    go_enter Try.func49, Try.ntmps49
    go_wp2_with (first | ((with_reducible refine (implImageOk_any v m _ HI.out).mono ?_); rw [H.out]; rintro e w1 ⟨rfl, rfl⟩) | (go_at_call 99; refine (HC.out _ HI.out).mono ?_; rintro e w2 ⟨rfl, b2⟩; have B2 := hide b2; clear b2))
    go_ret
    exact ⟨rfl, B2.out⟩

end Go.Proofs.Ytcliiefedmiokaa
/-
  pairsBelow of the program: all pairs of numbers below 5, in order.
-/
namespace Go.Proofs.Ytcliiefedmiokaa
open Go.RowKit

def cellsP (l : List (Nat × Nat)) : List Value := l.flatMap fun p => [.int .i64 (p.1 : Int), .int .i64 (p.2 : Int)]
theorem cellsP_snoc (l : List (Nat × Nat)) (a b : Nat) : cellsP (l ++ [(a, b)]) = cellsP l ++ #[Value.int .i64 (a : Int), .int .i64 (b : Int)].toList := by simp [cellsP]
/-- The pairs up to a number. -/
def upP (k : Nat) : List (Nat × Nat) := ((List.range k).filter fun c => decide (c / 5 < c % 5)).map fun c => (c / 5, c % 5)
theorem upP_yes {k : Nat} (h : k / 5 < k % 5) : upP (k + 1) = upP k ++ [(k / 5, k % 5)] := by
  unfold upP; rw [List.range_succ, List.filter_append, List.map_append]; simp [h]
theorem upP_no {k : Nat} (h : ¬ k / 5 < k % 5) : upP (k + 1) = upP k := by
  unfold upP; rw [List.range_succ, List.filter_append, List.map_append]; simp [h]
theorem upP_skip {k l : Nat} (hkl : k ≤ l) (h : ∀ i, k ≤ i → i < l → ¬ i / 5 < i % 5) : upP l = upP k := by
  induction l with
  | zero => obtain rfl : k = 0 := by omega
            rfl
  | succ l ih =>
    by_cases e : k = l + 1
    · rw [e]
    · rw [upP_no (h l (by omega) (by omega)), ih (by omega) fun i h1 h2 => h i h1 (by omega)]
theorem upP_len (k : Nat) : (upP k).length ≤ k := by
  unfold upP; rw [List.length_map]
  exact Nat.le_trans (List.length_filter_le _ _) (by rw [List.length_range]; exact Nat.le_refl _)
theorem Try.infoPair : (Try.prog.info? 130).map (fun i => (i.zero, i.size, i.bytes)) = some (some (.agg #[.int .i64 0, .int .i64 0]), 2, 16) := by kernel_rfl
def PairsRes (l : List (Nat × Nat)) (w : World) (e : Ending) (w' : World) : Prop := ∃ v, e = .returned v ∧ w'.ownsRow w.heap.size 130 2 v l.length (cellsP l) ∧ Below w.heap.size w w'
set_option maxRecDepth 100000 in
set_option maxHeartbeats 2000000 in
theorem pairsBelow_any (w : World) : Calls Try.prog 133 #[.int .i64 5] w (PairsRes (upP 25) w) := by
  go_enter Try.func133, Try.ntmps133
  go_wp2
  go_loopw [3, 7] (fun u t w' => ∃ (i : Nat) (v : Value), i ≤ 5 ∧ t = .int .i64 i ∧ v = u ∧ w'.ownsRow w.heap.size 130 2 v (upP (5 * i)).length (cellsP (upP (5 * i))) ∧ Below w.heap.size w w') (fun _ t _ => 5 - (intOf t).toNat)
  case atStart => exact ⟨0, _, by omega, rfl, rfl, World.ownsRow_nil _ _ _ _, Below.refl _ _⟩
  case round =>
    obtain ⟨i, v, hi, rfl, rfl, ho, hb⟩ := hrel
    have HO := hide ho; have HB := hide hb
    clear ho hb
    by_cases hlt : i < 5
    · have hiI : (i : Int) < 5 := by omega
      have HSK : Hid (upP (5 * i + (i + 1)) = upP (5 * i)) := hide (upP_skip (by omega) fun c h1 h2 => by omega)
      rw [← HSK.out] at HO
      clear HSK
      go_wp2
      go_loopw [3, 5] (fun u t w' => ∃ (j : Nat) (v : Value), (i + 1 ≤ j ∧ j ≤ 5) ∧ t = .int .i64 j ∧ v = u ∧ w'.ownsRow w.heap.size 130 2 v (upP (5 * i + j)).length (cellsP (upP (5 * i + j))) ∧ Below w.heap.size w w') (fun _ t _ => 5 - (intOf t).toNat)
      case atStart => exact ⟨i + 1, _, by omega, by go_num, rfl, HO.out, HB.out⟩
      case round =>
        clear HO HB
        obtain ⟨j, v, ⟨hj1, hj⟩, rfl, rfl, ho, hb⟩ := hrel
        have HO := hide ho; have HB := hide hb
        clear ho hb
        by_cases hlj : j < 5
        · have hjI : (j : Int) < 5 := by omega
          have HL := hide (upP_len (5 * i + j))
          have HST : Hid (upP (5 * i + (j + 1)) = upP (5 * i + j) ++ [(i, j)]) := hide (by
            have := upP_yes (k := 5 * i + j) (by omega)
            rw [show (5 * i + j) / 5 = i by omega, show (5 * i + j) % 5 = j by omega] at this
            rw [← Nat.add_assoc, this])
          have hwr := HB.out.size
          obtain ⟨va, vc, hvv⟩ := ownA_slice HO.out
          obtain ⟨n, hn⟩ : ∃ n, n = (upP (5 * i + j)).length := ⟨_, rfl⟩
          have HN := hide hn
          rw [← hn] at HO HL hvv
          clear hn
          subst hvv
          go_wp2_with (first | (with_reducible refine wpList_buildOneA #[.int .i64 (i : Int), .int .i64 (j : Int)] _ 21 rfl rfl _ rfl rfl Try.underlying139 Try.infoPair (by decide) (by decide) rfl ?_) | (at_builtin; refine wpList_pushA HO.out #[.int .i64 (i : Int), .int .i64 (j : Int)] _ rfl _ _ rfl Try.underlying139 Try.infoPair rfl (by decide) (by decide) rfl rfl rfl (by simp [Value.oneCell']) (by have := HL.out; omega) hwr ?_; intro g cap w6 hown hb6 hg6 hat6 hlt6))
          go_roundw
          case rel =>
            refine ⟨j + 1, _, by omega, by go_num, rfl, ?_, HB.out.trans (hb6.mono (Nat.le_refl _))⟩
            rw [HST.out, cellsP_snoc, List.length_append, ← HN.out]
            exact hown
          case measure => simp [intOf]; omega
        · obtain rfl : j = 5 := by omega
          go_wp2
          go_roundw
          case rel => exact ⟨i + 1, _, by omega, by go_num, rfl, HO.out, HB.out⟩
          case measure => simp [intOf]; omega
    · obtain rfl : i = 5 := by omega
      go_wp2
      go_ret
      exact ⟨_, rfl, HO.out, HB.out⟩
end Go.Proofs.Ytcliiefedmiokaa
/-
  hasSwitch of the program.
-/
namespace Go.Proofs.Ytcliiefedmiokaa
open Go.RowKit

theorem exec_loadVec {P : Program} {ρ : Operand → Value} {o : Oper} {w : World} {x : Operand} {g n m : Nat} {T T' e : TypeId} {F : Nat → Int} (ho : o.op = .load T' x) (hx : ρ x = .pointer (some ⟨g, 0, none⟩)) (hb : Blk w g T n F) (hu : P.underlying T' = some (.array m e)) (hi : (P.info? T').map (·.size) = some n) :
    (execOp ρ o).run P w = .ok (.value (.agg (vec n F))) w := by
  unfold execOp
  simp only [ho, hx, Instr.loadAt, Instr.sureAddr, Sem.run_bind, Sem.run_pure, Result.andThen_ok, run_loadVar_row w g T T' (vec n F) (0, 0) _ hb hu rfl (by rw [hi, vec_size])]
/-- The whole variable is read, where a guard asks for it. -/
theorem wpList_loadVecW {P : Program} {ops : Array Oper} {rest : List Oper} {o : Oper} {a : Act} {Q : Exit → Act → World → Prop} {W : World} {g n m : Nat} {T T' e : TypeId} {F : Nat → Int} (hb : Blk W g T n F)
    (d : Tmp) (_hd : o.dst = some d) (j : Nat) (want : Bool) (hg : o.guard = some (j, want)) (b : Bool) (hy : yielded ops a.tmps j = some b) (hw : b = want) (x : Operand) (ho : o.op = .load T' x) (hx : a.eval x = .pointer (some ⟨g, 0, none⟩)) (hu : P.underlying T' = some (.array m e)) (hi : (P.info? T').map (·.size) = some n)
    (h : wpList P ops Q rest (a.put o.dst (.agg (vec n F))) W) : wpList P ops Q (o :: rest) a W :=
  wpList_step fun K hK => by rw [if_pos (show Region.wanted o (yielded ops a.tmps) = true by unfold Region.wanted; rw [hg]; simp only [hy, hw, beq_self_eq_true])]; exact wp_load_row T' x ho g hx T (vec n F) (0, 0) _ hb hu rfl (by rw [hi, vec_size]) (hK _ _ h)
theorem exec_fieldSw {ρ : Operand → Value} {o : Oper} {w : World} {x : Operand} {g k : Nat} (ho : o.op = .fieldAddr 45 x k) (hx : ρ x = .pointer (some ⟨g, 0, none⟩)) (hk : k < 4) : (execOp ρ o).run Try.prog w = .ok (.value (.pointer (some ⟨g, k, none⟩))) w := by
  unfold execOp
  simp only [ho, hx]
  have : k = 0 ∨ k = 1 ∨ k = 2 ∨ k = 3 := by omega
  rcases this with rfl | rfl | rfl | rfl <;> go_simp
theorem exec_loadInt {ρ : Operand → Value} {o : Oper} {w : World} {x : Operand} {g k : Nat} {z : Int} (ho : o.op = .load 3 x) (hx : ρ x = .pointer (some ⟨g, k, none⟩)) (hc : w.cell? ⟨g, k, none⟩ = some (.int .i64 z)) : (execOp ρ o).run Try.prog w = .ok (.value (.int .i64 z)) w := by
  unfold execOp
  simp only [ho, hx]
  go_simp
set_option maxHeartbeats 1000000 in
theorem hasSwitch_no (F : Nat → Int) (s : Sw) (w : World) (h : ¬ (s.y1 < s.y2 ∧ s.x1 < s.x2)) :
    Calls Try.prog 78 #[.agg (vec 25 F), swV s] w fun e w' => e = .returned (.bool (hasF F s)) ∧ Below w.heap.size w w' := by
  have HN : Hid (hasF F s = false) := hide (by
    unfold hasF
    by_cases e : s.y1 < s.y2
    · rw [decide_eq_false (show ¬ s.x1 < s.x2 from fun e2 => h ⟨e, e2⟩)]; simp
    · rw [decide_eq_false e]; simp)
  rw [HN.out]
  go_enter Try.func78, Try.ntmps78
  go_wp2_with (first | (with_reducible refine wpList_boxVec 25 F 2 rfl rfl (.tmp 0) rfl rfl ?_; intro w1 h1 b1 s1) | (with_reducible refine wpList_boxSw s 3 rfl rfl (.tmp 1) rfl rfl ?_; intro w2 h2 b2 s2; have hb1 := blk_below h1 b2; have hbw := b1.trans (b2.mono b1.size); rw [s1] at h2 s2 ⊢; clear h1 b1 s1 b2; obtain ⟨c0, c1, c2, c3⟩ := swAt_cells h2))
  all_goals first
    | (exfalso; omega)
    | (go_ret; exact ⟨rfl, hbw⟩)
set_option maxRecDepth 100000 in
set_option maxHeartbeats 2000000 in
theorem hasSwitch_yes (F : Nat → Int) (s : Sw) (w : World) (h1' : s.y1 < s.y2) (h2' : s.x1 < s.x2) :
    Calls Try.prog 78 #[.agg (vec 25 F), swV s] w fun e w' => e = .returned (.bool (hasF F s)) ∧ Below w.heap.size w w' := by
  have HH : Hid (hasF F s = (decide (cellF F s.y1 s.x1 ≠ cellF F s.y1 s.x2) && decide (cellF F s.y2 s.x1 = cellF F s.y1 s.x2) && decide (cellF F s.y2 s.x2 = cellF F s.y1 s.x1))) := hide (by
    unfold hasF; rw [decide_eq_true h1', decide_eq_true h2']; simp)
  rw [HH.out]
  obtain ⟨A, hA⟩ : ∃ A, A = cellF F s.y1 s.x1 := ⟨_, rfl⟩
  obtain ⟨B, hB⟩ : ∃ B, B = cellF F s.y1 s.x2 := ⟨_, rfl⟩
  obtain ⟨C, hC⟩ : ∃ C, C = cellF F s.y2 s.x1 := ⟨_, rfl⟩
  obtain ⟨D, hD⟩ : ∃ D, D = cellF F s.y2 s.x2 := ⟨_, rfl⟩
  have HA := hide hA; have HB := hide hB; have HC := hide hC; have HD := hide hD
  rw [← hA, ← hB, ← hC, ← hD]
  clear hA hB hC hD HH
  go_enter Try.func78, Try.ntmps78
  go_wp2_with (first | (with_reducible refine wpList_boxVec 25 F 2 rfl rfl (.tmp 0) rfl rfl ?_; intro w1 h1 b1 s1) | (with_reducible refine wpList_boxSw s 3 rfl rfl (.tmp 1) rfl rfl ?_; intro w2 h2 b2 s2; have hb1 := blk_below h1 b2; have hbw := b1.trans (b2.mono b1.size); rw [s1] at h2 s2 ⊢; clear h1 b1 s1 b2; obtain ⟨c0, c1, c2, c3⟩ := swAt_cells h2))
  obtain ⟨fs, hfs⟩ : ∃ fs : List FactP, fs = [isV (.agg (vec 25 F)), isV (.pointer (some ⟨w.heap.size + 1, 0, none⟩)), isV (.int .i64 s.y1), isV (.pointer (some ⟨w.heap.size + 1, 2, none⟩)), isV (.int .i64 s.x1), isV (.int .i64 A), isV (.agg (vec 25 F)), isV (.pointer (some ⟨w.heap.size + 1, 0, none⟩)), isV (.int .i64 s.y1), isV (.pointer (some ⟨w.heap.size + 1, 3, none⟩)), isV (.int .i64 s.x2), isV (.int .i64 B), isV (.int .i64 A)] := ⟨_, rfl⟩
  have hst : ∀ f ∈ fs, StableP f := by
    rw [hfs]; intro f hf
    simp only [List.mem_cons, List.not_mem_nil, or_false] at hf
    rcases hf with rfl | rfl | rfl | rfl | rfl | rfl | rfl | rfl | rfl | rfl | rfl | rfl | rfl <;> exact stable_v _
  subst hfs
  refine wp_region_tail (S := fun w2 => Blk w2 w.heap.size 78 25 F ∧ SwAt w2 (w.heap.size + 1) s ∧ Below w.heap.size w w2) [isV (.agg (vec 25 F)), isV (.pointer (some ⟨w.heap.size + 1, 0, none⟩)), isV (.int .i64 s.y1), isV (.pointer (some ⟨w.heap.size + 1, 2, none⟩)), isV (.int .i64 s.x1), isV (.int .i64 A), isV (.agg (vec 25 F)), isV (.pointer (some ⟨w.heap.size + 1, 0, none⟩)), isV (.int .i64 s.y1), isV (.pointer (some ⟨w.heap.size + 1, 3, none⟩)), isV (.int .i64 s.x2), isV (.int .i64 B), isV (.int .i64 A)] [(2, .pointer (some ⟨w.heap.size, 0, none⟩)), (3, .pointer (some ⟨w.heap.size + 1, 0, none⟩))] _ _ 13 (by kernel_rfl) rfl rfl (by kernel_rfl) (by kernel_rfl) rfl (by kernel_rfl) ?base ⟨hb1, h2, below_drew hbw⟩ ?ob rfl ?fin
  case base =>
    intro t v ht
    simp only [List.lookup_cons, List.lookup_nil] at ht
    repeat' split at ht
    all_goals first | (cases ht; done) | (obtain rfl := Option.some.inj ht; rename_i hh; obtain rfl := eq_of_beq hh; rfl)
  case ob =>
    exact ⟨obt_one (.agg (vec 25 F)) rfl rfl (srt_b 2 rfl) (fun ρ w2 hS hx => exec_loadVec rfl hx hS.1 Try.underlying78 Try.sizeImg),
      obt_one (.pointer (some ⟨w.heap.size + 1, 0, none⟩)) rfl rfl (srt_b 3 rfl) (fun ρ w2 hS hx => exec_fieldSw rfl hx (by decide)),
      obt_one (.int .i64 s.y1) rfl rfl (srt_j 1 rfl (by kernel_rfl) rfl) (fun ρ w2 hS hx => exec_loadInt rfl hx (swAt_cells hS.2.1).1),
      obt_one (.pointer (some ⟨w.heap.size + 1, 2, none⟩)) rfl rfl (srt_b 3 rfl) (fun ρ w2 hS hx => exec_fieldSw rfl hx (by decide)),
      obt_one (.int .i64 s.x1) rfl rfl (srt_j 3 rfl (by kernel_rfl) rfl) (fun ρ w2 hS hx => exec_loadInt rfl hx (swAt_cells hS.2.1).2.2.1),
      obt_call hst [.agg (vec 25 F), .int .i64 s.y1, .int .i64 s.x1] rfl Try.func118 (by kernel_rfl) (by kernel_rfl) rfl ⟨(srt_j 0 rfl (by kernel_rfl) rfl), (srt_j 2 rfl (by kernel_rfl) rfl), (srt_j 4 rfl (by kernel_rfl) rfl), trivial⟩ (fun w2 hS => (by have := cell_any F s.y1 s.x1 w2; rw [← HA.out] at this; exact this.mono fun e w3 hh => ⟨_, hh.1, ⟨blk_below hS.1 hh.2, swAt_below hS.2.1 hh.2, hS.2.2.trans (hh.2.mono hS.2.2.size)⟩, hh.2, rfl⟩)),
      obt_one (.agg (vec 25 F)) rfl rfl (srt_b 2 rfl) (fun ρ w2 hS hx => exec_loadVec rfl hx hS.1 Try.underlying78 Try.sizeImg),
      obt_one (.pointer (some ⟨w.heap.size + 1, 0, none⟩)) rfl rfl (srt_b 3 rfl) (fun ρ w2 hS hx => exec_fieldSw rfl hx (by decide)),
      obt_one (.int .i64 s.y1) rfl rfl (srt_j 7 rfl (by kernel_rfl) rfl) (fun ρ w2 hS hx => exec_loadInt rfl hx (swAt_cells hS.2.1).1),
      obt_one (.pointer (some ⟨w.heap.size + 1, 3, none⟩)) rfl rfl (srt_b 3 rfl) (fun ρ w2 hS hx => exec_fieldSw rfl hx (by decide)),
      obt_one (.int .i64 s.x2) rfl rfl (srt_j 9 rfl (by kernel_rfl) rfl) (fun ρ w2 hS hx => exec_loadInt rfl hx (swAt_cells hS.2.1).2.2.2),
      obt_call hst [.agg (vec 25 F), .int .i64 s.y1, .int .i64 s.x2] rfl Try.func118 (by kernel_rfl) (by kernel_rfl) rfl ⟨(srt_j 6 rfl (by kernel_rfl) rfl), (srt_j 8 rfl (by kernel_rfl) rfl), (srt_j 10 rfl (by kernel_rfl) rfl), trivial⟩ (fun w2 hS => (by have := cell_any F s.y1 s.x2 w2; rw [← HB.out] at this; exact this.mono fun e w3 hh => ⟨_, hh.1, ⟨blk_below hS.1 hh.2, swAt_below hS.2.1 hh.2, hS.2.2.trans (hh.2.mono hS.2.2.size)⟩, hh.2, rfl⟩)),
      obt_assign (.int .i64 A) rfl rfl rfl (srt_j 5 rfl (by kernel_rfl) rfl),
      trivial⟩
  case fin =>
    intro a' w' h1 h2 h3 hS h4 K hK
    have hv : a'.eval (.tmp 30) = .int .i64 B := h4 11 30 rfl (by decide)
    refine tail_assign rfl hv ?_ K hK
    have ha := frame_ov rfl h1 h2 h3 [(19, .agg (vec 25 F)), (20, .pointer (some ⟨w.heap.size + 1, 0, none⟩)), (21, .int .i64 s.y1), (22, .pointer (some ⟨w.heap.size + 1, 2, none⟩)), (23, .int .i64 s.x1), (24, .int .i64 A), (25, .agg (vec 25 F)), (26, .pointer (some ⟨w.heap.size + 1, 0, none⟩)), (27, .int .i64 s.y1), (28, .pointer (some ⟨w.heap.size + 1, 3, none⟩)), (29, .int .i64 s.x2), (30, .int .i64 B), (5, .int .i64 A), (6, a'.tmps.getD 6 undef)] (by kernel_rfl) ⟨h4 0 19 rfl (by decide), h4 1 20 rfl (by decide), h4 2 21 rfl (by decide), h4 3 22 rfl (by decide), h4 4 23 rfl (by decide), h4 5 24 rfl (by decide), h4 6 25 rfl (by decide), h4 7 26 rfl (by decide), h4 8 27 rfl (by decide), h4 9 28 rfl (by decide), h4 10 29 rfl (by decide), h4 11 30 rfl (by decide), h4 12 5 rfl (by decide), rfl, trivial⟩
    dsimp only [ov, List.lookup, Nat.reduceBEq, Nat.reduceAdd] at ha
    show Exit.then _ _ Exit.normal (Act.put a' (some 6) (.int .i64 B)) _
    rw [ha]
    generalize a'.tmps.getD 6 undef = u6
    clear ha h1 h2 h3 h4 hst hK hv
    obtain ⟨hb3, hs3, hw3⟩ := hS
    obtain ⟨d0, d1, d2, d3⟩ := swAt_cells hs3
    by_cases e1 : A = B
    · subst e1
      go_wp2
      go_ret
      exact ⟨ret_bool (by simp), hw3⟩
    · have hne : (A != B) = true := bne_iff_ne.2 e1
      by_cases e2 : C = B
      · have hne2 : (C == B) = true := beq_iff_eq.2 e2
        have E2 := hide e2; have E1 := hide e1
        clear e2 e1
        go_wp2_with (first | (with_reducible refine wpList_loadVecW hb3 35 rfl 3 true rfl true rfl rfl _ rfl rfl Try.underlying78 Try.sizeImg ?_) | ((with_reducible refine (cell_any F s.y2 s.x1 _).mono ?_); rw [← HC.out]; rintro e w4 ⟨rfl, hb4⟩; have hb5 := blk_below hb3 hb4; obtain ⟨f0, f1, f2, f3⟩ := swAt_cells (swAt_below hs3 hb4); have hw4 := hw3.trans (hb4.mono hw3.size)) | (with_reducible refine wpList_loadVecW hb5 45 rfl 13 true rfl true rfl rfl _ rfl rfl Try.underlying78 Try.sizeImg ?_) | ((with_reducible refine (cell_any F s.y2 s.x2 _).mono ?_); rw [← HD.out]; rintro e w5 ⟨rfl, hb6⟩; have hw5 := hw4.trans (hb6.mono hw4.size)))
        go_ret
        exact ⟨ret_bool (by rw [Bool.eq_iff_iff]; simp [E1.out, E2.out]), hw5⟩
      · have hne2 : (C == B) = false := beq_eq_false_iff_ne.2 e2
        go_wp2_with (first | (with_reducible refine wpList_loadVecW hb3 35 rfl 3 true rfl true rfl rfl _ rfl rfl Try.underlying78 Try.sizeImg ?_) | ((with_reducible refine (cell_any F s.y2 s.x1 _).mono ?_); rw [← HC.out]; rintro e w4 ⟨rfl, hb4⟩; have hw4 := hw3.trans (hb4.mono hw3.size)))
        go_ret
        exact ⟨ret_bool (by simp [e1, e2]), hw4⟩
theorem hasSwitch_any (F : Nat → Int) (s : Sw) (w : World) :
    Calls Try.prog 78 #[.agg (vec 25 F), swV s] w fun e w' => e = .returned (.bool (hasF F s)) ∧ Below w.heap.size w w' := by
  by_cases h : s.y1 < s.y2 ∧ s.x1 < s.x2
  · exact hasSwitch_yes F s w h.1 h.2
  · exact hasSwitch_no F s w h
end Go.Proofs.Ytcliiefedmiokaa
