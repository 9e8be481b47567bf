/-
  Texts of this claim, one behind the other: SameB, ImgS, Fix, FreeP, FreeS, LawsFr, ShIns, Greedy, GreedyR, BuildI.
-/
import Derived.Test.YtcliiefedmiokaaGreatPackP
import Derived.Test.YtcliiefedmiokaaGreatPackH
import Derived.Test.YtcliiefedmiokaaGreatPackK
import Derived.Test.YtcliiefedmiokaaGreatPackO
import Derived.Test.YtcliiefedmiokaaGreatPackL
import Derived.Test.YtcliiefedmiokaaGreatPackM
import Derived.Test.YtcliiefedmiokaaGreatPackB
import Derived.Shelf.SlSortCmp.Insertion
import Derived.Test.YtcliiefedmiokaaGreatProg
import Derived.Test.YtcliiefedmiokaaGreatPackC
import Derived.Test.YtcliiefedmiokaaGreatPackJ
/-
  Whether two lists of lists are images with the same sums.
-/
namespace Go.Proofs.YtcliiefedmiokaaGreat
open Go.RowKit

def sameB (m l : List (List Int)) : Bool := okB m && okB l && (decide (m.length = l.length) && decide (widthM m = widthM l) && sameL m.length (widthM m) (cellM m) (cellM l))
theorem rs_congr {C : Nat} {f g : Nat → Nat → Int} {y : Nat} (h : ∀ x, x < C → f y x = g y x) : rs C f y = rs C g y := cnt_congr fun x hx => by rw [h x hx]
theorem rowsL_congr {R C : Nat} {f g : Nat → Nat → Int} (h : ∀ y x, y < R → x < C → f y x = g y x) : rowsL R C f = rowsL R C g := rowF_congr fun y hy => by rw [rs_congr fun x hx => h y x hy hx]
theorem sameL_congr {R C : Nat} {f g f' g' : Nat → Nat → Int} (h : ∀ y x, y < R → x < C → f y x = f' y x) (h2 : ∀ y x, y < R → x < C → g y x = g' y x) : sameL R C f g = sameL R C f' g' := by
  unfold sameL
  rw [rowsL_congr h, rowsL_congr h2, rowsL_congr (f := trM f) (g := trM f') fun y x hy hx => h x y hx hy, rowsL_congr (f := trM g) (g := trM g') fun y x hy hx => h2 x y hx hy]
theorem width_mk {R C : Nat} {f : Nat → Nat → Int} (h : Img R C f) : widthM (mkM R C f) = C := by
  have := h.r1
  unfold widthM mkM
  obtain ⟨n, rfl⟩ : ∃ n, R = n + 1 := ⟨R - 1, by omega⟩
  simp [List.range_succ_eq_map, rowF]
theorem sameB_mk {R C R' C' : Nat} {f g : Nat → Nat → Int} (h : Img R C f) (h' : Img R' C' g) : sameB (mkM R C f) (mkM R' C' g) = if R = R' ∧ C = C' then sameL R C f g else false := by
  unfold sameB
  rw [img_ok h, img_ok h', width_mk h, width_mk h', mkM_len, mkM_len]
  by_cases e1 : R = R'
  · by_cases e2 : C = C'
    · subst e1; subst e2
      rw [if_pos ⟨rfl, rfl⟩, sameL_congr (fun y x hy hx => cell_mk R C f hy hx) (fun y x hy hx => cell_mk R C g hy hx)]
      simp
    · rw [if_neg fun e => e2 e.2]; simp [e2]
  · rw [if_neg fun e => e1 e.1]; simp [e1]
theorem rowF_inj {n : Nat} {f g : Nat → Int} (h : rowF n f = rowF n g) : ∀ i, i < n → f i = g i := fun i hi => by
  have h1 : (rowF n f)[i]? = (rowF n g)[i]? := by rw [h]
  simpa [rowF, hi] using h1
theorem sameB_yes {m l : List (List Int)} (h : sameB m l = true) : ∃ R C f g, m = mkM R C f ∧ l = mkM R C g ∧ Img R C f ∧ Img R C g ∧ SameF R C f g := by
  have h0 := h
  unfold sameB at h0
  simp only [Bool.and_eq_true] at h0
  obtain ⟨R, C, f, rfl, hI⟩ := ok_img h0.1.1
  obtain ⟨R', C', g, rfl, hJ⟩ := ok_img h0.1.2
  rw [sameB_mk hI hJ] at h
  by_cases e : R = R' ∧ C = C'
  · obtain ⟨rfl, rfl⟩ := e
    rw [if_pos ⟨rfl, rfl⟩] at h
    unfold sameL at h
    simp only [Bool.and_eq_true, beq_iff_eq] at h
    refine ⟨R, C, f, g, rfl, rfl, hI, hJ, fun y hy => ?_, fun x hx => ?_⟩
    · have := rowF_inj h.1 y hy; omega
    · have := rowF_inj h.2 x hx
      show rs R (trM f) x = rs R (trM g) x
      omega
  · rw [if_neg e] at h; cases h
theorem implSameB_any (v u : Value) (m l : List (List Int)) (w : World) (hin : InMat w v m) (hin2 : InMat w u l) :
    Calls Tryz.prog 17 #[v, u] w fun e w' => e = .returned (.bool (sameB m l)) ∧ Below w.heap.size w w' := by
  cases h : okB m && okB l with
  | false =>
    have := implSameSums_no v u m l w hin hin2 h
    unfold sameB
    rw [h, Bool.false_and]; exact this
  | true =>
    simp only [Bool.and_eq_true] at h
    obtain ⟨R, C, f, rfl, hI⟩ := ok_img h.1
    obtain ⟨R', C', g, rfl, hJ⟩ := ok_img h.2
    rw [sameB_mk hI hJ]
    exact implSameSums_any v u R C R' C' f g w hin hin2 hI hJ
end Go.Proofs.YtcliiefedmiokaaGreat
/-
  The sums of an image, as an image's sums.
-/
namespace Go.Proofs.YtcliiefedmiokaaGreat
open Go.RowKit

theorem S_cnt (g : Nat → Int) : ∀ n, (∀ i, i < n → g i = 0 ∨ g i = 1) → Mx.S n g = (cnt (fun i => g i == 1) n : Nat)
  | 0, _ => rfl
  | n + 1, h => by
    rw [Mx.S, S_cnt g n fun i hi => h i (Nat.lt_succ_of_lt hi), cnt]
    rcases h n (Nat.lt_succ_self n) with e | e <;> simp [e]
theorem rowF_getD {n : Nat} {g : Nat → Int} {i : Nat} (h : i < n) : (rowF n g).getD i 0 = g i := by simp [rowF, h]
section
variable {R C : Nat} {f : Nat → Nat → Int}
theorem rows_len (R C : Nat) (f : Nat → Nat → Int) : (rowsL R C f).length = R := rowF_len _ _
theorem rowsL_at (hI : Img R C f) {y : Nat} (hy : y < R) : (rowsL R C f).getD y 0 = Mx.S C (f y) := by
  unfold rowsL
  rw [rowF_getD hy, S_cnt _ _ fun x hx => hI.cell y x hy hx]; rfl
theorem colsL_at (hI : Img R C f) {x : Nat} (hx : x < C) : (rowsL C R (trM f)).getD x 0 = Mx.S R fun y => f y x := by
  unfold rowsL
  rw [rowF_getD hx, S_cnt _ _ fun y hy => hI.cell y x hy hx]; rfl
theorem imgF_iff (hI : Img R C f) (g : Nat → Nat → Int) : ImgF (rowsL R C f) (rowsL C R (trM f)) g ↔ (∀ y x, y < R → x < C → g y x = 0 ∨ g y x = 1) ∧ (∀ y, y < R → Mx.S C (g y) = Mx.S C (f y)) ∧ ∀ x, x < C → Mx.S R (fun y => g y x) = Mx.S R fun y => f y x := by
  constructor
  · rintro ⟨h1, h2, h3⟩
    rw [rows_len, rows_len] at h1
    refine ⟨h1, fun y hy => ?_, fun x hx => ?_⟩
    · have := h2 y (by rw [rows_len]; exact hy)
      rw [rows_len, rowsL_at hI hy] at this; exact this
    · have := h3 x (by rw [rows_len]; exact hx)
      rw [rows_len, colsL_at hI hx] at this; exact this
  · rintro ⟨h1, h2, h3⟩
    refine ⟨by rw [rows_len, rows_len]; exact h1, fun y hy => ?_, fun x hx => ?_⟩
    · rw [rows_len] at hy
      rw [rows_len, rowsL_at hI hy]; exact h2 y hy
    · rw [rows_len] at hx
      rw [rows_len, colsL_at hI hx]; exact h3 x hx
theorem imgF_self (hI : Img R C f) : ImgF (rowsL R C f) (rowsL C R (trM f)) f := (imgF_iff hI f).2 ⟨hI.cell, fun _ _ => rfl, fun _ _ => rfl⟩
end
theorem sumsOk_img {R C : Nat} {f : Nat → Nat → Int} (hI : Img R C f) : sumsOk (rowsL R C f) (rowsL C R (trM f)) = true :=
  existsOf_sums (exists_of_img (by rw [rows_len]; exact ⟨hI.r1, hI.r2⟩) (by rw [rows_len]; exact ⟨hI.c1, hI.c2⟩) ⟨f, imgF_self hI⟩)
end Go.Proofs.YtcliiefedmiokaaGreat
/-
  IsFixed of both.
-/
namespace Go.Proofs.YtcliiefedmiokaaGreat
open Go.RowKit
set_option maxRecDepth 100000

theorem listF_at {n C : Nat} {m : Nat → Nat → Int} {y x : Nat} (hy : y < n) (hx : x < C) : ((listF n C m).getD y []).getD x 0 = m y x := by
  simp [listF, tabL, hy, hx]
theorem place_img {r c : List Int} {y x : Nat} (v : Int) (hr : 1 ≤ r.length ∧ r.length ≤ 5) (hc : 1 ≤ c.length ∧ c.length ≤ 5) (hy : y < r.length) (hx : x < c.length) (h : HasImg r c) : placeOf r c y x v = true ↔ ∃ g, ImgF r c g ∧ g y x = v := by
  unfold placeOf
  rw [exists_of_img hr hc h, decide_eq_true (show (0 : Int) ≤ y ∧ (y : Int) < r.length ∧ (0 : Int) ≤ x ∧ (x : Int) < c.length by omega), Int.toNat_natCast, Int.toNat_natCast, ← place_iff v hr.2 hc hy h, Bool.true_and, Bool.true_and, List.any_eq_true]
  constructor
  · rintro ⟨l, hl, e⟩
    exact ⟨_, (all_sound r c hr.2 hc h l hl).2.2, by simpa using e⟩
  · rintro ⟨g, hg, e⟩
    exact ⟨_, all_complete r c hr.2 hc g hg, by rw [listF_at hy hx, e]; simp⟩
theorem fix_rch {R C : Nat} {f : Nat → Nat → Int} (hI : Img R C f) {y x : Nat} (hy : y < R) (hx : x < C) : placeOf (rowsL R C f) (rowsL C R (trM f)) y x (1 - f y x) = true ↔ if f y x = 1 then Rch R C f (R + x) y else Rch R C f y (R + x) := by
  rw [place_img _ (by rw [rows_len]; exact ⟨hI.r1, hI.r2⟩) (by rw [rows_len]; exact ⟨hI.c1, hI.c2⟩) (by rw [rows_len]; exact hy) (by rw [rows_len]; exact hx) ⟨f, imgF_self hI⟩]
  constructor
  · rintro ⟨g, hg, e⟩
    obtain ⟨h1, h2, h3⟩ := (imgF_iff hI g).1 hg
    exact rch_of_free hI.cell hy hx h1 h2 h3 e
  · intro h
    obtain ⟨g, h1, h2, h3, h4⟩ := free_of_rch hI.cell hy hx h
    exact ⟨g, (imgF_iff hI g).2 ⟨h1, h2, h3⟩, h4⟩
/-- Whether a cell is fixed. -/
def fixB (R C : Nat) (f : Nat → Nat → Int) (y x : Int) : Bool := decide (0 ≤ y ∧ y < R ∧ 0 ≤ x ∧ x < C) && !placeOf (rowsL R C f) (rowsL C R (trM f)) y x (1 - atM R C f y x)
theorem fixB_in {R C : Nat} {f : Nat → Nat → Int} {y x : Nat} (hy : y < R) (hx : x < C) : fixB R C f y x = !placeOf (rowsL R C f) (rowsL C R (trM f)) y x (1 - f y x) := by
  unfold fixB atM
  have h : (0 : Int) ≤ y ∧ (y : Int) < R ∧ (0 : Int) ≤ x ∧ (x : Int) < C := by omega
  rw [decide_eq_true h, if_pos h, Int.toNat_natCast, Int.toNat_natCast, Bool.true_and]
set_option maxHeartbeats 1000000 in
theorem specIsFixed_no (v : Value) (m : List (List Int)) (y x : Int) (w : World) (hin : InMat w v m) (h : okB m = false) :
    Calls Tryz.prog 35 #[v, .int .i64 y, .int .i64 x] w fun e w' => e = .returned (.bool false) ∧ Below w.heap.size w w' := by
  have HI := hide hin; have H := hide h
  clear hin h
  go_enter Tryz.func35, Tryz.ntmps35
  go_wp2_with ((with_reducible refine (l02In_no v m y x _ HI.out H.out).mono ?_); rintro e w' ⟨rfl, rfl⟩)
  go_ret
  exact ⟨rfl, Below.refl _ _⟩
set_option maxHeartbeats 2000000 in
theorem specIsFixed_yes (v : Value) (R C : Nat) (f : Nat → Nat → Int) (y x : Int) (w : World) (hin : InMat w v (mkM R C f)) (hI : Img R C f) :
    Calls Tryz.prog 35 #[v, .int .i64 y, .int .i64 x] w fun e w' => e = .returned (.bool (fixB R C f y x)) ∧ Below w.heap.size w w' := by
  by_cases hb : 0 ≤ y ∧ y < R ∧ 0 ≤ x ∧ x < C
  · obtain ⟨y, rfl⟩ : ∃ k : Nat, y = k := ⟨y.toNat, by omega⟩
    obtain ⟨x, rfl⟩ : ∃ k : Nat, x = k := ⟨x.toNat, by omega⟩
    have hy : y < R := by omega
    have hx : x < C := by omega
    have hyI : (y : Int) < R := by omega
    have hxI : (x : Int) < C := by omega
    have H1 := hide (l02In_img v R C f y x w hin hI true ⟨fun _ => hb, fun _ => rfl⟩)
    have HR := hide (fun (s : Nat) (hs : s < R + C) => l07Reach_any v R C f s w hin hI hs)
    have HFR := hide (fix_rch hI hy hx)
    have HFB := hide (fixB_in (f := f) hy hx)
    have HCL := hide (hI.cell y x hy hx)
    obtain ⟨g0, o0, c0, rfl, hg0, hcell⟩ := inMat_img hin (by omega) (by omega)
    obtain ⟨g1, o1, k1, hr, hg1, hc⟩ := hcell y hy
    have hz := hc x hx
    obtain ⟨s, hs⟩ : ∃ s, s = R + x := ⟨_, rfl⟩
    have hsI : (R : Int) + (x : Int) = (s : Int) := by omega
    have hsn : s < R + C := by omega
    have hR5 := hI.r2; have hC5 := hI.c2
    obtain ⟨pl, hpl⟩ : ∃ pl, pl = placeOf (rowsL R C f) (rowsL C R (trM f)) y x (1 - f y x) := ⟨_, rfl⟩
    rw [← hpl] at HFR HFB
    rw [HFB.out]
    rw [← hs] at HFR
    obtain ⟨z, hzz⟩ : ∃ z, z = f y x := ⟨_, rfl⟩
    rw [← hzz] at hz HCL HFR
    obtain ⟨N, hN⟩ : ∃ N, N = R + C := ⟨_, rfl⟩
    have HN := hide hN
    have hsN : s < N := by omega
    have hsNI : (s : Int) < (N : Int) := by omega
    have hyN : y < N := by omega
    have hyNI : (y : Int) < (N : Int) := by omega
    clear hin hI hcell hc hpl hzz hs HFB hN
    rcases HCL.out with rfl | rfl
    · have hF := HFR.out
      rw [if_neg (by decide)] at hF
      have HF := hide hF
      clear HCL HFR hF
      go_enter Tryz.func35, Tryz.ntmps35
      go_wp2_with (first | ((with_reducible refine H1.out.mono ?_); rintro e w' ⟨rfl, rfl⟩) | ((with_reducible refine (HR.out y (by omega)).mono ?_); rintro e w3 ⟨g, b, rfl, hm, hb3, hbv⟩; rw [← HN.out] at hm; have hcm := (marks_cell hm hsN).1; have HBV := hide (hbv s hsn); have HB3 := hide hb3; rw [← HN.out]; obtain ⟨q, hq⟩ : ∃ q, q = b s := ⟨_, rfl⟩; rw [← hq] at hcm HBV; clear hm hbv hb3 hq))
      go_ret
      refine ⟨?_, HB3.out⟩
      have : pl = q := by rw [Bool.eq_iff_iff, HF.out, HBV.out]
      rw [this]; rfl
    · have hF := HFR.out
      rw [if_pos rfl] at hF
      have HF := hide hF
      clear HCL HFR hF
      go_enter Tryz.func35, Tryz.ntmps35
      go_wp2_with (first | ((with_reducible refine H1.out.mono ?_); rintro e w' ⟨rfl, rfl⟩) | ((with_reducible refine (HR.out s hsn).mono ?_); rintro e w3 ⟨g, b, rfl, hm, hb3, hbv⟩; rw [← HN.out] at hm; have hcm := (marks_cell hm hyN).1; have HBV := hide (hbv y (by omega)); have HB3 := hide hb3; rw [← HN.out]; obtain ⟨q, hq⟩ : ∃ q, q = b y := ⟨_, rfl⟩; rw [← hq] at hcm HBV; clear hm hbv hb3 hq))
      go_ret
      refine ⟨?_, HB3.out⟩
      have : pl = q := by rw [Bool.eq_iff_iff, HF.out, HBV.out]
      rw [this]; rfl
  · have H1 := hide (l02In_img v R C f y x w hin hI false ⟨fun h => (by cases h), fun h => absurd h hb⟩)
    have HF : Hid (fixB R C f y x = false) := hide (by unfold fixB; rw [decide_eq_false hb]; rfl)
    rw [HF.out]
    clear hin hI hb HF
    go_enter Tryz.func35, Tryz.ntmps35
    go_wp2_with ((with_reducible refine H1.out.mono ?_); rintro e w' ⟨rfl, rfl⟩)
    go_ret
    exact ⟨rfl, Below.refl _ _⟩
/-- Whether a cell is fixed, in any list of lists. -/
def fixM (m : List (List Int)) (y x : Int) : Bool := okB m && fixB m.length (widthM m) (cellM m) y x
theorem fixB_congr {R C : Nat} {f g : Nat → Nat → Int} (h : ∀ y x, y < R → x < C → f y x = g y x) (y x : Int) : fixB R C f y x = fixB R C g y x := by
  unfold fixB
  by_cases hb : 0 ≤ y ∧ y < R ∧ 0 ≤ x ∧ x < C
  · rw [rowsL_congr h, rowsL_congr (f := trM f) (g := trM g) fun y x hy hx => h x y hx hy]
    unfold atM
    rw [if_pos hb, if_pos hb, h _ _ (by omega) (by omega)]
  · rw [decide_eq_false hb]; rfl
theorem fixM_mk {R C : Nat} {f : Nat → Nat → Int} (hI : Img R C f) (y x : Int) : fixM (mkM R C f) y x = fixB R C f y x := by
  unfold fixM
  rw [img_ok hI, mkM_len, width_mk hI, Bool.true_and]
  exact fixB_congr (fun y x hy hx => cell_mk R C f hy hx) y x
theorem specIsFixed_any (v : Value) (m : List (List Int)) (y x : Int) (w : World) (hin : InMat w v m) :
    Calls Tryz.prog 35 #[v, .int .i64 y, .int .i64 x] w fun e w' => e = .returned (.bool (fixM m y x)) ∧ Below w.heap.size w w' := by
  cases h : okB m with
  | false => unfold fixM; rw [h]; exact specIsFixed_no v m y x w hin h
  | true =>
    obtain ⟨R, C, f, rfl, hI⟩ := ok_img h
    rw [fixM_mk hI]; exact specIsFixed_yes v R C f y x w hin hI
set_option maxHeartbeats 1000000 in
theorem implIsFixed_no (v : Value) (m : List (List Int)) (y x : Int) (w : World) (hin : InMat w v m) (h : okB m = false) :
    Calls Tryz.prog 21 #[v, .int .i64 y, .int .i64 x] w fun e w' => e = .returned (.bool false) ∧ Below w.heap.size w w' := by
  have HI := hide hin; have H := hide h
  clear hin h
  go_enter Tryz.func21, Tryz.ntmps21
  go_wp2_with ((with_reducible refine (implCellAt_no v m y x _ HI.out H.out).mono ?_); rintro e w' ⟨rfl, hb⟩)
  go_ret
  exact ⟨rfl, hb⟩
set_option maxHeartbeats 2000000 in
theorem implIsFixed_yes (v : Value) (R C : Nat) (f : Nat → Nat → Int) (y x : Int) (w : World) (hin : InMat w v (mkM R C f)) (hI : Img R C f) :
    Calls Tryz.prog 21 #[v, .int .i64 y, .int .i64 x] w fun e w' => e = .returned (.bool (fixB R C f y x)) ∧ Below w.heap.size w w' := by
  have HI := hide hin; have H := hide hI
  obtain ⟨z, hz⟩ : ∃ z, z = atM R C f y x := ⟨_, rfl⟩
  have HZ := hide hz
  have hz1 : 0 ≤ y ∧ y < R ∧ 0 ≤ x ∧ x < C → z = 0 ∨ z = 1 := fun hb => by
    rw [hz]; unfold atM; rw [if_pos hb]; exact hI.cell _ _ (by omega) (by omega)
  have HFB : Hid (fixB R C f y x = (decide (0 ≤ y ∧ y < R ∧ 0 ≤ x ∧ x < C) && !placeOf (rowsL R C f) (rowsL C R (trM f)) y x (1 - z))) := hide (by rw [hz]; rfl)
  rw [HFB.out]
  by_cases hb : 0 ≤ y ∧ y < R ∧ 0 ≤ x ∧ x < C
  · have hz01 := hz1 hb
    have hne : z ≠ -1 := by omega
    have hsub : IntKind.i64.wrap (1 - z) = 1 - z := IntWalk.i64_in _ (by omega)
    rw [decide_eq_true hb, Bool.true_and]
    clear hin hI hz hz1 HFB hb
    go_enter Tryz.func21, Tryz.ntmps21
    go_wp2_with fail
    refine (implCellAt_yes v R C f y x _ HI.out H.out).mono ?_
    rintro e w1 ⟨rfl, hb1⟩
    rw [← HZ.out]
    have I1 := hide (inMat_below HI.out hb1); have B1 := hide hb1
    clear hb1
    go_wp2_with fail
    refine (implRowSums_yes v R C f _ I1.out H.out).mono ?_
    rintro e w2 ⟨rv, rfl, hr, hb2⟩
    have I2 := hide (inMat_below I1.out hb2); have B2 := hide (B1.out.trans (hb2.mono B1.out.size)); have R2 := hide (inRow_own hr)
    clear hb2 hr
    go_wp2_with fail
    refine (implColSums_yes v R C f _ I2.out H.out).mono ?_
    rintro e w3 ⟨cv, rfl, hc, hb3⟩
    have B3 := hide (B2.out.trans (hb3.mono B2.out.size)); have R3 := hide (inRow_below R2.out hb3); have C3 := hide (inRow_own hc)
    clear hb3 hc
    go_wp2_with fail
    refine (implPlace_any rv cv _ _ y x (1 - z) _ R3.out C3.out).mono ?_
    rintro e w4 ⟨rfl, hb4⟩
    have B4 := hide (B3.out.trans (hb4.mono B3.out.size))
    clear hb4
    go_wp2
    go_ret
    refine ⟨?_, B4.out⟩
    have hbz : (z != -1) = true := by simpa using hne
    show Ending.returned (.bool (z != -1 && !placeOf (rowsL R C f) (rowsL C R (trM f)) y x (1 - z))) = _
    rw [hbz, Bool.true_and]
  · have hm : z = -1 := by rw [hz]; unfold atM; rw [if_neg hb]
    subst hm
    rw [decide_eq_false hb, Bool.false_and]
    clear hin hI hz hz1 HFB hb
    go_enter Tryz.func21, Tryz.ntmps21
    go_wp2_with fail
    refine (implCellAt_yes v R C f y x _ HI.out H.out).mono ?_
    rintro e w1 ⟨rfl, hb1⟩
    rw [← HZ.out]
    go_wp2
    go_ret
    exact ⟨rfl, hb1⟩
theorem implIsFixed_any (v : Value) (m : List (List Int)) (y x : Int) (w : World) (hin : InMat w v m) :
    Calls Tryz.prog 21 #[v, .int .i64 y, .int .i64 x] w fun e w' => e = .returned (.bool (fixM m y x)) ∧ Below w.heap.size w w' := by
  cases h : okB m with
  | false => unfold fixM; rw [h]; exact implIsFixed_no v m y x w hin h
  | true =>
    obtain ⟨R, C, f, rfl, hI⟩ := ok_img h
    rw [fixM_mk hI]; exact implIsFixed_yes v R C f y x w hin hI
end Go.Proofs.YtcliiefedmiokaaGreat
/-
  The fixed cells, counted: where all images agree, no image has the other colour.
-/
namespace Go.Proofs.YtcliiefedmiokaaGreat
open Go.RowKit

theorem other01 {p q : Int} (h1 : p = 0 ∨ p = 1) (h2 : q = 0 ∨ q = 1) (e : ¬ p = q) : p = 1 - q := by omega
def cntM (p : Nat → Nat → Bool) (C : Nat) : Nat → Nat
  | 0 => 0
  | R + 1 => cntM p C R + cnt (p R) C
theorem cnt_not (p : Nat → Bool) : ∀ n, cnt p n + cnt (fun i => !p i) n = n
  | 0 => rfl
  | n + 1 => by
    have := cnt_not p n
    cases h : p n with
    | true => rw [cnt_yes h, cnt_no (by simp [h])]; omega
    | false => rw [cnt_no h, cnt_yes (by simp [h])]; omega
theorem cntM_not (p : Nat → Nat → Bool) (C : Nat) : ∀ R, cntM p C R + cntM (fun y x => !p y x) C R = R * C
  | 0 => by simp [cntM]
  | R + 1 => by
    have h1 := cntM_not p C R
    have h2 := cnt_not (p R) C
    rw [cntM, cntM, Nat.succ_mul]; omega
theorem cntC_congr {p q : Nat → Bool} : ∀ n, (∀ i, i < n → p i = q i) → cnt p n = cnt q n
  | 0, _ => rfl
  | n + 1, h => by
    have h1 := cntC_congr n fun i hi => h i (by omega)
    have h2 := h n (by omega)
    rw [cnt, cnt, h1, h2]
theorem cntM_congr {p q : Nat → Nat → Bool} {C : Nat} : ∀ R, (∀ y x, y < R → x < C → p y x = q y x) → cntM p C R = cntM q C R
  | 0, _ => rfl
  | R + 1, h => by
    rw [cntM, cntM, cntM_congr R fun y x hy hx => h y x (by omega) hx, cntC_congr C fun x hx => h R x (by omega) hx]
theorem atLeast_row (g : Nat → Int) : ∀ C, atLeast 0 (rowF C g) = cnt (fun x => decide (0 ≤ g x)) C := by
  intro C
  induction C with
  | zero => rfl
  | succ C ih =>
    have : rowF (C + 1) g = rowF C g ++ [g C] := by simp [rowF, List.range_succ]
    rw [this, atLeast, List.countP_append]
    have ih' : List.countP (fun x => decide (0 ≤ x)) (rowF C g) = cnt (fun x => decide (0 ≤ g x)) C := ih
    rw [ih', cnt]
    by_cases h : 0 ≤ g C <;> simp [h]
theorem atLeast_mat (C : Nat) (F : Nat → Nat → Int) : ∀ R, atLeast 0 (mkM R C F).flatten = cntM (fun y x => decide (0 ≤ F y x)) C R := by
  intro R
  induction R with
  | zero => rfl
  | succ R ih =>
    have : mkM (R + 1) C F = mkM R C F ++ [rowF C (F R)] := by simp [mkM, List.range_succ]
    rw [this, List.flatten_append, atLeast, List.countP_append]
    have ih' : List.countP (fun x => decide (0 ≤ x)) (mkM R C F).flatten = cntM (fun y x => decide (0 ≤ F y x)) C R := ih
    have h2 := atLeast_row (F R) C
    rw [atLeast] at h2
    rw [ih', cntM, List.flatten_cons, List.flatten_nil, List.append_nil, h2]
theorem fixF_keep {f : Nat → Nat → Int} {y x : Nat} : ∀ (ms : List (List (List Int))), (∀ m ∈ ms, cellI m y x = f y x) → fixF f ms y x = f y x
  | [], _ => rfl
  | m :: ms, h => by
    show fixF (frF f (cellI m)) ms y x = f y x
    have e : frF f (cellI m) y x = f y x := by rw [frF, if_pos (h m (by simp)).symm]
    rw [fixF_keep ms (fun m' hm' => by rw [e]; exact h m' (List.mem_cons_of_mem _ hm')), e]
theorem fixF_lose {f : Nat → Nat → Int} {y x : Nat} : ∀ (ms : List (List (List Int))), (∃ m ∈ ms, cellI m y x ≠ f y x) → fixF f ms y x = -1
  | [], h => by obtain ⟨m, hm, -⟩ := h; simp at hm
  | m :: ms, h => by
    show fixF (frF f (cellI m)) ms y x = -1
    by_cases e : f y x = cellI m y x
    · have e2 : frF f (cellI m) y x = f y x := by rw [frF, if_pos e]
      refine fixF_lose ms ?_
      obtain ⟨m', hm', hne⟩ := h
      rcases List.mem_cons.1 hm' with rfl | hm'
      · exact absurd e.symm hne
      · exact ⟨m', hm', by rw [e2]; exact hne⟩
    · exact fixF_free _ y x ms (by rw [frF, if_neg e])
/-- A cell of FixedCells is fixed exactly if no image with these sums has the other colour there. -/
theorem fixed_iff {R C : Nat} {f : Nat → Nat → Int} (hI : Img R C f) {y x : Nat} (hy : y < R) (hx : x < C) :
    decide (0 ≤ fixF (cellI (imgL leastCh (rowsL R C f) (rowsL C R (trM f)))) (allL (rowsL R C f) (rowsL C R (trM f))) y x) = fixB R C f y x := by
  rw [fixB_in hy hx]
  have hrl : (rowsL R C f).length = R := rows_len _ _ _
  have hcl : (rowsL C R (trM f)).length = C := rows_len _ _ _
  have hr : 1 ≤ (rowsL R C f).length ∧ (rowsL R C f).length ≤ 5 := by rw [hrl]; exact ⟨hI.r1, hI.r2⟩
  have hc : 1 ≤ (rowsL C R (trM f)).length ∧ (rowsL C R (trM f)).length ≤ 5 := by rw [hcl]; exact ⟨hI.c1, hI.c2⟩
  have hself := imgF_self hI
  have hh : HasImg (rowsL R C f) (rowsL C R (trM f)) := ⟨f, hself⟩
  have hex := exists_of_img hr hc hh
  generalize hra : rowsL R C f = r at *
  generalize hca : rowsL C R (trM f) = c at *
  obtain ⟨hl1, hl2⟩ := least_cells hex
  have hin : ∀ g, ImgF r c g → ∃ m ∈ allL r c, cellI m y x = g y x := fun g hg => ⟨_, all_complete r c hr.2 hc g hg, listF_at (by omega) (by omega)⟩
  have h01 : ∀ m ∈ allL r c, cellI m y x = 0 ∨ cellI m y x = 1 := fun m hm => (all_sound r c hr.2 hc hh m hm).2.2.1 y x (by omega) (by omega)
  have hl01 := hl2 y x (by omega) (by omega)
  have hf01 := hI.cell y x hy hx
  have hpl := place_img (r := r) (c := c) (y := y) (x := x) (1 - f y x) hr hc (by omega) (by omega) hh
  cases hp : placeOf r c y x (1 - f y x) with
  | true =>
    obtain ⟨g, hg, hgv⟩ := hpl.1 hp
    obtain ⟨m1, hm1, e1⟩ := hin g hg
    obtain ⟨m2, hm2, e2⟩ := hin f hself
    have : fixF (cellI (imgL leastCh r c)) (allL r c) y x = -1 := by
      refine fixF_lose _ ?_
      by_cases e : cellI m1 y x = cellI (imgL leastCh r c) y x
      · exact ⟨m2, hm2, by omega⟩
      · exact ⟨m1, hm1, e⟩
    rw [this]; rfl
  | false =>
    have hall : ∀ m ∈ allL r c, cellI m y x = f y x := fun m hm => by
      have h1 := h01 m hm
      by_cases e : cellI m y x = f y x
      · exact e
      · exfalso
        have h2 : cellI m y x = 1 - f y x := other01 h1 hf01 e
        have := hpl.2 ⟨cellI m, (all_sound r c hr.2 hc hh m hm).2.2, h2⟩
        rw [hp] at this; cases this
    obtain ⟨l, hl⟩ := all_first r c hr.2 hc hh
    have hle := hall (imgL leastCh r c) (by rw [hl]; simp)
    rw [fixF_keep _ fun m hm => by rw [hall m hm, hle]]
    simp; omega
end Go.Proofs.YtcliiefedmiokaaGreat
/-
  FreeCells of both.
-/
namespace Go.Proofs.YtcliiefedmiokaaGreat
open Go.RowKit

theorem cntC_le (p : Nat → Bool) : ∀ n, cnt p n ≤ n
  | 0 => Nat.le_refl _
  | n + 1 => by
    have := cntC_le p n
    rw [cnt]; split <;> omega
theorem cntM_le (p : Nat → Nat → Bool) (C : Nat) : ∀ R, cntM p C R ≤ R * C
  | 0 => by simp [cntM]
  | R + 1 => by
    have h1 := cntM_le p C R
    have h2 := cntC_le (p R) C
    rw [cntM, Nat.succ_mul]; omega
def freeN (R C : Nat) (f : Nat → Nat → Int) : Nat := cntM (fun (y x : Nat) => !fixB R C f (y : Int) (x : Int)) C R
set_option maxRecDepth 100000 in
set_option maxHeartbeats 1000000 in
theorem specFree_yes (v : Value) (R C : Nat) (f : Nat → Nat → Int) (w : World) (hin : InMat w v (mkM R C f)) (hI : Img R C f) :
    Calls Tryz.prog 8 #[v] w fun e w' => e = .returned (.int .i64 (freeN R C f : Nat)) ∧ Below w.heap.size w w' := by
  have HI := hide hin; have H := hide hI
  obtain ⟨g, o, c, rfl, hg, hrows⟩ := inMat_img hin (by have := hI.r1; omega) (by have := hI.c1; omega)
  have HROWS := hide hrows
  obtain ⟨p, hp⟩ : ∃ p : Nat → Nat → Bool, p = fun (y x : Nat) => !fixB R C f (y : Int) (x : Int) := ⟨_, rfl⟩
  have HP := hide hp
  have HN := hide (show freeN R C f = cntM p C R by unfold freeN; rw [hp])
  rw [HN.out]
  have hR1 := hI.r1; have hR5 := hI.r2; have hC1 := hI.c1; have hC5 := hI.c2
  have HLE := hide fun y (hy : y ≤ R) => (cntM_le p C y)
  have HLE2 := hide fun y x => cntC_le (p y) x
  clear hin hI hrows hp
  go_enter Tryz.func8, Tryz.ntmps8
  go_wp2_with fail
  refine (specImageOk_any _ (mkM R C f) _ HI.out).mono ?_
  rw [img_ok H.out]
  rintro e w1 ⟨rfl, rfl⟩
  have HB1 := hide (Below.refl w.heap.size w)
  go_wp2
  go_loopw [3, 12] (fun s i w' => ∃ y n : Nat, y ≤ R ∧ i = .int .i64 y ∧ s = .int .i64 n ∧ (n = cntM p C y ∧ n ≤ 25) ∧ Below w.heap.size w w') (fun _ i _ => R - (intOf i).toNat)
  case atStart => exact ⟨0, 0, Nat.zero_le _, rfl, rfl, ⟨rfl, by omega⟩, HB1.out⟩
  case round =>
    obtain ⟨y, n, hy, rfl, rfl, ⟨hn, hn25⟩, hb⟩ := hrel
    have HNN := hide hn; have HB := hide hb
    clear hn hb
    by_cases hlt : y < R
    · obtain ⟨g2, o2, c2, hx, -, -⟩ := HROWS.out y hlt
      have hx := below_cell HB.out hg hx
      go_wp2
      clear hx
      go_loopw [3, 19] (fun s i w' => ∃ x k : Nat, x ≤ C ∧ i = .int .i64 x ∧ s = .int .i64 k ∧ (k = n + cnt (p y) x ∧ k ≤ n + x) ∧ Below w.heap.size w w') (fun _ i _ => C - (intOf i).toNat)
      case atStart => exact ⟨0, n, Nat.zero_le _, rfl, rfl, ⟨rfl, by omega⟩, HB.out⟩
      case round =>
        obtain ⟨x, k, hxx, rfl, rfl, ⟨hk, hk25⟩, hb⟩ := hrel
        have HK := hide hk; have HBx := hide hb
        clear hk hb
        by_cases hlx : x < C
        · obtain ⟨q, hq⟩ : ∃ q, q = fixB R C f y x := ⟨_, rfl⟩
          have HQ := hide hq
          have HPQ := hide (show p y x = !q by rw [HP.out, hq])
          clear hq
          go_wp2_with fail
          refine (specIsFixed_yes _ R C f y x _ (inMat_below HI.out HBx.out) H.out).mono ?_
          rw [← HQ.out]
          rintro e w2 ⟨rfl, hb2⟩
          have HB2 := hide (HBx.out.trans (hb2.mono HBx.out.size))
          clear hb2
          cases q with
          | true =>
            go_wp2
            go_roundw
            case rel => exact ⟨x + 1, k, by omega, by go_num, rfl, ⟨by rw [cnt_no (by rw [HPQ.out]; rfl)]; exact HK.out, by omega⟩, HB2.out⟩
            case measure => simp [intOf]; omega
          | false =>
            go_wp2
            go_roundw
            case rel => exact ⟨x + 1, k + 1, by omega, by go_num, by go_num, ⟨by rw [cnt_yes (by rw [HPQ.out]; rfl), HK.out]; omega, by omega⟩, HB2.out⟩
            case measure => simp [intOf]; omega
        · obtain rfl : x = C := by omega
          have hle := HLE.out (y + 1) (by omega)
          have h25 : (y + 1) * x ≤ 25 := Nat.le_trans (Nat.mul_le_mul (show y + 1 ≤ 5 by omega) hC5) (by decide)
          have HKN := hide (show k = cntM p x (y + 1) by rw [cntM, ← HNN.out, HK.out])
          have hk26 : k ≤ 25 := by rw [HKN.out]; omega
          clear hle h25
          go_wp2
          go_roundw
          case rel => exact ⟨y + 1, k, by omega, by go_num, rfl, ⟨HKN.out, hk26⟩, HBx.out⟩
          case measure => simp [intOf]; omega
    · obtain rfl : y = R := by omega
      go_wp2
      go_ret
      exact ⟨by rw [HNN.out]; rfl, HB.out⟩

set_option maxRecDepth 100000 in
set_option maxHeartbeats 1000000 in
theorem implFree_yes (v : Value) (R C : Nat) (f : Nat → Nat → Int) (w : World) (hin : InMat w v (mkM R C f)) (hI : Img R C f) :
    Calls Tryz.prog 10 #[v] w fun e w' => e = .returned (.int .i64 (freeN R C f : Nat)) ∧ Below w.heap.size w w' := by
  have HI := hide hin; have H := hide hI
  have hrl : (rowsL R C f).length = R := rows_len _ _ _
  have hcl : (rowsL C R (trM f)).length = C := rows_len _ _ _
  have hex : existsOf (rowsL R C f) (rowsL C R (trM f)) = true := exists_of_img (by rw [hrl]; exact ⟨hI.r1, hI.r2⟩) (by rw [hcl]; exact ⟨hI.c1, hI.c2⟩) ⟨f, imgF_self hI⟩
  have HM := hide (show fixedIm (rowsL R C f) (rowsL C R (trM f)) = mkM R C (fixF (cellI (imgL leastCh (rowsL R C f) (rowsL C R (trM f)))) (allL (rowsL R C f) (rowsL C R (trM f)))) by unfold fixedIm; rw [if_pos hex, hrl, hcl])
  obtain ⟨M, hMM⟩ : ∃ M, M = fixedIm (rowsL R C f) (rowsL C R (trM f)) := ⟨_, rfl⟩
  have hML : M.length = R := by rw [hMM, HM.out, mkM_len]
  have hMR : ∀ q ∈ M, 0 < q.length ∧ q.length ≤ 5 := fun q hq => by
    rw [hMM, HM.out] at hq
    obtain ⟨y, hy, rfl⟩ := List.getElem_of_mem hq
    rw [mkM_at, rowF_len]; exact ⟨by have := hI.c1; omega, hI.c2⟩
  have hcount : atLeast 0 M.flatten + freeN R C f = R * C := by
    rw [hMM, HM.out, atLeast_mat, freeN, ← cntM_not (fun (y x : Nat) => fixB R C f (y : Int) (x : Int)) C R]
    congr 1
    exact cntM_congr R fun y x hy hx => fixed_iff hI hy hx
  have HMM := hide hMM; have HML := hide hML; have HMR := hide hMR
  obtain ⟨K, hK⟩ : ∃ K, K = atLeast 0 M.flatten := ⟨_, rfl⟩
  have HK := hide hK
  rw [← hK] at hcount
  obtain ⟨N, hN⟩ : ∃ N, N = freeN R C f := ⟨_, rfl⟩
  rw [← hN] at hcount ⊢
  have hR1 := hI.r1; have hR5 := hI.r2; have hC1 := hI.c1; have hC5 := hI.c2
  have h25 : R * C ≤ 25 := Nat.le_trans (Nat.mul_le_mul hR5 hC5) (by decide)
  have hcast : (R : Int) * (C : Int) = ((R * C : Nat) : Int) := by simp
  have hsub : ((R * C : Nat) : Int) - (K : Int) = (N : Int) := by omega
  have HRC := hide (And.intro hcast hsub)
  have hw1 : IntKind.i64.wrap ((R : Int) * (C : Int)) = ((R * C : Nat) : Int) := by rw [hcast]; exact IntWalk.i64_in _ (by omega)
  have hw2 : IntKind.i64.wrap (((R * C : Nat) : Int) - (K : Int)) = (N : Int) := by rw [hsub]; exact IntWalk.i64_in _ (by omega)
  have HW := hide (And.intro hw1 hw2)
  obtain ⟨g, o, c, rfl, hg, hrows⟩ := inMat_img hin (by omega) (by omega)
  obtain ⟨g2, o2, c2, hx, hg2, -⟩ := hrows 0 (by omega)
  rw [Nat.add_zero] at hx
  have HX := hide hx; have HG := hide hg
  generalize hQ : R * C = Q at *
  clear hin hI hrows hMM hML hMR hK hN hcount h25 hcast hsub hw1 hw2 hx hg hg2 hrl hcl hex
  go_enter Tryz.func10, Tryz.ntmps10
  go_wp2_with fail
  refine (implImageOk_any _ (mkM R C f) _ HI.out).mono ?_
  rw [img_ok H.out]
  rintro e w1 ⟨rfl, rfl⟩
  go_wp2_with fail
  obtain ⟨fs, hfs⟩ : ∃ fs : List FactP, fs = [isV (.slice (some ⟨g, o, none⟩) R c), isV (.int .i64 R), isV (.slice (some ⟨g, o, none⟩) R c), isV (.pointer (some ⟨g, o, none⟩)), isV (.slice (some ⟨g2, o2, none⟩) C c2), isV (.int .i64 C), isV (.int .i64 (Q : Nat)), isV (.slice (some ⟨g, o, none⟩) R c), ownI w.heap.size (rowsL R C f), isV (.slice (some ⟨g, o, none⟩) R c), ownI w.heap.size (rowsL C R (trM f)), rowsT w.heap.size M, isV (.int .i64 (K : Nat)), isV (.int .i64 (N : Nat))] := ⟨_, rfl⟩
  have hst : ∀ f ∈ fs, StableP f := by
    rw [hfs]; intro f hf
    simp only [List.mem_cons, List.not_mem_nil, or_false] at hf
    rcases hf with rfl | rfl | rfl | rfl | rfl | rfl | rfl | rfl | rfl | rfl | rfl | rfl | rfl | rfl <;> first | exact stable_v _ | exact stable_ownI _ _ | exact stable_rowsT _ _
  subst hfs
  have hS1 : ∀ (w2 w3 : World), Below w.heap.size w.drew w2 → Below w2.heap.size w2 w3 → Below w.heap.size w.drew w3 := fun w2 w3 h k => h.trans (k.mono h.size)
  have hS0 : ∀ w2 : World, Below w.heap.size w.drew w2 → Below w.heap.size w w2 := fun w2 h => (below_drew (Below.refl _ w)).trans h
  have hRi : (0 : Int) < R := by omega
  refine wp_region_tail (S := fun w2 => Below w.heap.size w.drew w2) [isV (.slice (some ⟨g, o, none⟩) R c), isV (.int .i64 R), isV (.slice (some ⟨g, o, none⟩) R c), isV (.pointer (some ⟨g, o, none⟩)), isV (.slice (some ⟨g2, o2, none⟩) C c2), isV (.int .i64 C), isV (.int .i64 (Q : Nat)), isV (.slice (some ⟨g, o, none⟩) R c), ownI w.heap.size (rowsL R C f), isV (.slice (some ⟨g, o, none⟩) R c), ownI w.heap.size (rowsL C R (trM f)), rowsT w.heap.size M, isV (.int .i64 (K : Nat)), isV (.int .i64 (N : Nat))] [(0, .slice (some ⟨g, o, none⟩) R c)] _ _ 14 (by kernel_rfl) rfl rfl (by kernel_rfl) (by kernel_rfl) rfl (by kernel_rfl) ?base (Below.refl _ _) ?ob rfl ?fin
  case base =>
    intro t v ht
    simp only [List.lookup_cons, List.lookup_nil] at ht
    repeat' split at ht
    all_goals first | (cases ht; done) | (obtain rfl := Option.some.inj ht; rename_i hh; obtain rfl := eq_of_beq hh; rfl)
  case ob =>
    exact ⟨obt_move (.slice (some ⟨g, o, none⟩) R c) rfl rfl rfl (srt_b 0 rfl),
      obt_one (.int .i64 R) rfl rfl (srt_j 0 rfl (by kernel_rfl) rfl) (fun ρ w2 hS hx => by go_simp),
      obt_move (.slice (some ⟨g, o, none⟩) R c) rfl rfl rfl (srt_b 0 rfl),
      obt_two (.pointer (some ⟨g, o, none⟩)) rfl rfl (srt_j 2 rfl (by kernel_rfl) rfl) (srt_c (v := .int .i64 0)) (fun ρ w2 hS hx hy => by have h1 := hRi; go_simp; intro h; omega),
      obt_one (.slice (some ⟨g2, o2, none⟩) C c2) rfl rfl (srt_j 3 rfl (by kernel_rfl) rfl) (fun ρ w2 hS hx => by have hv := below_cell (hS0 _ hS) HG.out HX.out; go_simp),
      obt_one (.int .i64 C) rfl rfl (srt_j 4 rfl (by kernel_rfl) rfl) (fun ρ w2 hS hx => by go_simp),
      obt_two (.int .i64 (Q : Nat)) rfl rfl (srt_j 1 rfl (by kernel_rfl) rfl) (srt_j 5 rfl (by kernel_rfl) rfl) (fun ρ w2 hS hx hy => by have h1 := HW.out.1; go_simp),
      obt_move (.slice (some ⟨g, o, none⟩) R c) rfl rfl rfl (srt_b 0 rfl),
      obt_call hst [.slice (some ⟨g, o, none⟩) R c] rfl Tryz.func13 (by kernel_rfl) (by kernel_rfl) rfl ⟨srt_j 7 rfl (by kernel_rfl) rfl, trivial⟩ (fun w2 hS => by
        refine (implRowSums_yes _ R C f w2 (inMat_below HI.out (hS0 _ hS)) H.out).mono ?_
        rintro e w3 ⟨u, rfl, ho, hb3⟩
        exact ⟨u, rfl, hS1 _ _ hS hb3, hb3, own_base ho hS.size⟩),
      obt_move (.slice (some ⟨g, o, none⟩) R c) rfl rfl rfl (srt_b 0 rfl),
      obt_call hst [.slice (some ⟨g, o, none⟩) R c] rfl Tryz.func14 (by kernel_rfl) (by kernel_rfl) rfl ⟨srt_j 9 rfl (by kernel_rfl) rfl, trivial⟩ (fun w2 hS => by
        refine (implColSums_yes _ R C f w2 (inMat_below HI.out (hS0 _ hS)) H.out).mono ?_
        rintro e w3 ⟨u, rfl, ho, hb3⟩
        exact ⟨u, rfl, hS1 _ _ hS hb3, hb3, own_base ho hS.size⟩),
      fun ac w2 hS hB hD K2 hK2 => ⟨.inl rfl, run_call rfl Tryz.func39 (by kernel_rfl) (by kernel_rfl) #[ac.tmps.getD 14 undef, ac.tmps.getD 16 undef] (by simp only [List.map_toArray, List.map_cons, List.map_nil]; rfl) (by
        have h14 : ownI w.heap.size (rowsL R C f) (ac.tmps.getD 14 undef) w2 := hD 8 14 rfl (by kernel_rfl)
        have h16 : ownI w.heap.size (rowsL C R (trM f)) (ac.tmps.getD 16 undef) w2 := hD 10 16 rfl (by kernel_rfl)
        refine (implFixed_any _ _ (rowsL R C f) (rowsL C R (trM f)) w2 (rowC_own h14) (rowC_own h16)).mono ?_
        rintro e w3 ⟨u, rfl, ho, hb3⟩
        rw [← HMM.out] at ho
        exact ⟨u, rfl, hK2 _ _ (hS1 _ _ hS hb3) (fun j u h => stable_all hst j u _ _ hb3 h) (matT_base (matT_own ho) hS.size)⟩)⟩,
      fun ac w2 hS hB hD K2 hK2 => ⟨.inl rfl, run_call rfl Tryz.func38 (by kernel_rfl) (by kernel_rfl) #[ac.tmps.getD 17 undef] (by simp only [List.map_toArray, List.map_cons, List.map_nil]; rfl) (by
        have h17 : rowsT w.heap.size M (ac.tmps.getD 17 undef) w2 := hD 11 17 rfl (by kernel_rfl)
        refine (countFixed_any _ M w2 (inMat_matT h17) (by rw [HML.out]; exact hR5) HMR.out).mono ?_
        rintro e w3 ⟨rfl, hb3⟩
        rw [← HK.out]
        exact ⟨_, rfl, hK2 _ _ (hS1 _ _ hS hb3) (fun j u h => stable_all hst j u _ _ hb3 h) rfl⟩)⟩,
      obt_two (.int .i64 (N : Nat)) rfl rfl (srt_j 6 rfl (by kernel_rfl) rfl) (srt_j 12 rfl (by kernel_rfl) rfl) (fun ρ w2 hS hx hy => by have h1 := HW.out.2; go_simp),
      trivial⟩
  case fin =>
    intro a' w' h1 h2 h3 hS h4 K2 hK2
    have hv : a'.eval (.tmp 19) = .int .i64 (N : Nat) := h4 13 19 rfl (by decide)
    refine tail_assign rfl hv ?_ K2 hK2
    have HBE := hide (hS0 _ hS)
    clear hst h3 h4 hK2 hS1 hv
    go_wp2
    exact bodyPost_ret (results_tmp rfl _ _ _) rfl ⟨congrArg Ending.returned (set_get (d := 2) (n := 20) h1 (by decide)), HBE.out⟩

def freeM (m : List (List Int)) : Int := if okB m = true then ((freeN m.length (widthM m) (cellM m) : Nat) : Int) else -1
theorem freeN_congr {R C : Nat} {f g : Nat → Nat → Int} (h : ∀ y x, y < R → x < C → f y x = g y x) : freeN R C f = freeN R C g :=
  cntM_congr R fun y x _ _ => by rw [fixB_congr h]
theorem freeM_mk {R C : Nat} {f : Nat → Nat → Int} (hI : Img R C f) : freeM (mkM R C f) = ((freeN R C f : Nat) : Int) := by
  unfold freeM
  rw [img_ok hI, if_pos rfl, mkM_len, width_mk hI]
  rw [freeN_congr fun y x hy hx => cell_mk R C f hy hx]
set_option maxHeartbeats 400000 in
theorem specFree_any (v : Value) (m : List (List Int)) (w : World) (hin : InMat w v m) :
    Calls Tryz.prog 8 #[v] w fun e w' => e = .returned (.int .i64 (freeM m)) ∧ Below w.heap.size w w' := by
  cases h : okB m with
  | true =>
    obtain ⟨R, C, f, rfl, hI⟩ := ok_img h
    rw [freeM_mk hI]; exact specFree_yes v R C f w hin hI
  | false =>
    have HI := hide hin; have H := hide h
    have HF := hide (show freeM m = -1 by unfold freeM; rw [h]; rfl)
    rw [HF.out]
    clear hin h
    go_enter Tryz.func8, Tryz.ntmps8
    go_wp2_with ((with_reducible refine (specImageOk_any v m _ HI.out).mono ?_); rw [H.out]; rintro e w1 ⟨rfl, rfl⟩)
    go_ret
    exact ⟨rfl, Below.refl _ _⟩
set_option maxHeartbeats 400000 in
theorem implFree_any (v : Value) (m : List (List Int)) (w : World) (hin : InMat w v m) :
    Calls Tryz.prog 10 #[v] w fun e w' => e = .returned (.int .i64 (freeM m)) ∧ Below w.heap.size w w' := by
  cases h : okB m with
  | true =>
    obtain ⟨R, C, f, rfl, hI⟩ := ok_img h
    rw [freeM_mk hI]; exact implFree_yes v R C f w hin hI
  | false =>
    have HI := hide hin; have H := hide h
    have HF := hide (show freeM m = -1 by unfold freeM; rw [h]; rfl)
    rw [HF.out]
    clear hin h
    go_enter Tryz.func10, Tryz.ntmps10
    go_wp2_with ((with_reducible refine (implImageOk_any v m _ HI.out).mono ?_); rw [H.out]; rintro e w1 ⟨rfl, rfl⟩)
    go_ret
    exact ⟨rfl, Below.refl _ _⟩
end Go.Proofs.YtcliiefedmiokaaGreat
/-
  The exact law on FreeCells, walked.
-/
namespace Go.Proofs.YtcliiefedmiokaaGreat
open Go.RowKit
set_option linter.unusedVariables false

set_option maxRecDepth 100000 in
set_option maxHeartbeats 4000000 in
theorem lawFreeCells_walk (a : Option Addr) (n c : Nat) (m : List (List Int)) (w : World) (hin : InMat w (.slice a n c) m) :
    Calls Tryz.prog 3 #[.slice a n c] w fun e w' => e = .returned (.bool true) ∧ Below w.heap.size w w' := by
  have HI := hide hin
  obtain ⟨val, hval⟩ : ∃ val, val = freeM m := ⟨_, rfl⟩
  have HS := hide fun v w h => specFree_any v m w h
  have HM := hide fun v w h => implFree_any v m w h
  rw [← hval] at HS HM
  clear hin hval
  go_enter Tryz.func3, Tryz.ntmps3
  have HB := hide (Below.refl w.heap.size w)
  go_wp2_with fail
  refine (szIntSS_any _ m 1048576 _ (by omega) HI.out).mono ?_
  rintro e w1 ⟨r, rfl, hr, hb⟩
  have hs1 := hb.size
  replace HB := hide (HB.out.trans (hb.mono HB.out.size))
  clear hb
  rcases hr with rfl | ⟨hsz, rfl⟩
  · go_wp2
    go_ret
    exact ⟨rfl, HB.out⟩
  · go_wp2_with fail
    refine (toIntSS_any _ m _ (by omega) (inMat_below HI.out HB.out)).mono ?_
    rintro e w2 ⟨v1, rfl, hv, hb⟩
    have hs2 := hb.size
    replace HB := hide (HB.out.trans (hb.mono HB.out.size))
    have HV1 := hide (hv)
    clear hb
    clear hv
    go_wp2_with fail
    refine (HS.out v1 _ (inMat_own HV1.out)).mono ?_
    rintro e w3 ⟨rfl, hb⟩
    have hs3 := hb.size
    replace HV1 := hide (ownMat_below HV1.out hb)
    replace HB := hide (HB.out.trans (hb.mono HB.out.size))
    clear hb
    go_wp2_with fail
    refine (toIntSS_any _ m _ (by omega) (inMat_below HI.out HB.out)).mono ?_
    rintro e w4 ⟨v2, rfl, hv, hb⟩
    have hs4 := hb.size
    replace HV1 := hide (ownMat_below HV1.out hb)
    replace HB := hide (HB.out.trans (hb.mono HB.out.size))
    have HV2 := hide (hv)
    clear hb
    clear hv
    go_wp2_with fail
    refine (HM.out v2 _ (inMat_own HV2.out)).mono ?_
    rintro e w5 ⟨rfl, hb⟩
    have hs5 := hb.size
    replace HV1 := hide (ownMat_below HV1.out hb)
    replace HV2 := hide (ownMat_below HV2.out hb)
    replace HB := hide (HB.out.trans (hb.mono HB.out.size))
    clear hb
    go_wp2_with fail
    refine (toIntSS_any _ m _ (by omega) (inMat_below HI.out HB.out)).mono ?_
    rintro e w6 ⟨v3, rfl, hv, hb⟩
    have hs6 := hb.size
    replace HV1 := hide (ownMat_below HV1.out hb)
    replace HV2 := hide (ownMat_below HV2.out hb)
    replace HB := hide (HB.out.trans (hb.mono HB.out.size))
    have HV3 := hide (hv)
    clear hb
    clear hv
    go_wp2_with fail
    refine (eqIntSS_same v2 v3 m _ (inMat_own HV2.out) (inMat_own HV3.out)).mono ?_
    rintro e w7 ⟨rfl, hb⟩
    have hs7 := hb.size
    replace HV1 := hide (ownMat_below HV1.out hb)
    replace HV2 := hide (ownMat_below HV2.out hb)
    replace HV3 := hide (ownMat_below HV3.out hb)
    replace HB := hide (HB.out.trans (hb.mono HB.out.size))
    clear hb
    go_wp2
    go_ret
    exact ⟨rfl, HB.out⟩
end Go.Proofs.YtcliiefedmiokaaGreat
/-
  Contracts of the library, at this translation: laid by the shelf, in plain declarations.
-/
namespace Go.Proofs
open Go.Shelf Go.RowKit Go.Lib Go.Sort
def Tryz.laysSlF20_f142_ren : Go.Shelf.Ren := ⟨fun | 20 => 142 | n => n, fun | 24 => 3 | 22 => 30 | 3 => 3 | 25 => 112 | 4 => 4 | 0 => 0 | n => n, fun | n => n⟩
theorem Tryz.laysSlF20_f142 : Go.Proofs.SlLaysF.n20 Tryz.prog Tryz.laysSlF20_f142_ren := {
  mixed := by kernel_rfl
  f20 := ⟨Tryz.f142.name, by decide, Tryz.func142.trans (congrArg some (by kernel_rfl))⟩
  t0 := Tryz.underlying0
  a0 := Tryz.isAgg0
  z0 := Tryz.sizeOf0
  v0 := Tryz.zeroValue0
  t3 := Tryz.underlying3
  a3 := Tryz.isAgg3
  z3 := Tryz.sizeOf3
  v3 := Tryz.zeroValue3
  t4 := Tryz.underlying4
  a4 := Tryz.isAgg4
  z4 := Tryz.sizeOf4
  v4 := Tryz.zeroValue4
  t22 := Tryz.underlying30
  a22 := Tryz.isAgg30
  z22 := Tryz.sizeOf30
  v22 := Tryz.zeroValue30
  a24 := Tryz.isAgg3
  z24 := Tryz.sizeOf3
  t25 := Tryz.underlying112
  a25 := Tryz.isAgg112
  z25 := Tryz.sizeOf112
  v25 := Tryz.zeroValue112 }
theorem Tryz.insertionSortCmpFunc_one {α : Type} [Inhabited α] (enc : α → Value) (hO : OneCell enc) (cf : α → α → Int) (g : Nat) (cb : Array Value) (blk off cap a b : Nat) (d : Array α) (w : World) (eg : ∀ args w, (callFunc g args).run Tryz.prog w = .ok (.enter g args) w) (hcmp : CmpReads Tryz.prog g cb enc cf blk off d.size w) (hH : Holds enc w blk off d) (hab : a ≤ b) (hb : b ≤ d.size) (hsz : d.size < 4611686018427387904) :
    Calls Tryz.prog 142 #[.slice (some ⟨blk, off, none⟩) d.size cap, .int .i64 a, .int .i64 b, .func (.func g) #[] cb] w fun e w' =>
      e = .returned (.tuple #[]) ∧ ∃ n, w' = (putRow enc w blk off (Sort.insertionSort (ltOf cf) d a b)).drewN n := Any.insertionSortCmpFunc_one Tryz.laysSlF20_f142 enc hO cf g cb blk off cap a b d w eg hcmp hH hab hb hsz
end Go.Proofs
/-
  greedyRow of the program: the columns by the library's stable sort.
-/
namespace Go.Proofs.YtcliiefedmiokaaGreat
open Go.RowKit Go.Shelf

set_option maxHeartbeats 1000000 in
/-- collect at whatever function value that reads. -/
theorem collectG_any (n g : Nat) (cb : Array Value) (h : Int → Int) (w : World) (eg : ∀ args w, (callFunc g args).run Tryz.prog w = .ok (.enter g args) w) (hn : 1 ≤ n ∧ n ≤ 5)
    (hf : ∀ (k : Nat) (w' : World), 1 ≤ k → k ≤ n → Below w.heap.size w w' → Calls Tryz.prog g (#[.int .i64 k] ++ cb) w' fun e w'' => e = .returned (.int .i64 (h k)) ∧ w' = w'') :
    Calls Tryz.prog 95 #[.int .i64 n, .func (.func g) #[] cb] w (IntsRes (tabL n fun k => h (k + 1)) w) := by
  have HF := hide hf
  obtain ⟨h11, h12⟩ := hn
  clear hf
  go_enter Tryz.func95, Tryz.ntmps95
  go_wp2_with (at_make; refine wpList_new w.heap.size n (.int .i64 0) rfl _ _ rfl Tryz.underlying30 Tryz.infoInt rfl (by decide) rfl rfl (by omega) (Nat.le_refl _) ?_; intro w1 hown1 hb1 hg1)
  have HO := hide hown1; have HB := hide hb1
  clear hown1 hb1 hg1
  go_wp2
  go_loopw [10] (fun i w' => ∃ k : Nat, k ≤ n ∧ i = .int .i64 k ∧ w'.ownsRow w.heap.size 3 1 (.slice (some ⟨w.heap.size, 0, none⟩) n n) n (ints (tabL n fun t => if t < k then h (t + 1) else 0)) ∧ Below w.heap.size w w') (fun i _ => n - (intOf i).toNat)
  case atStart => exact ⟨0, Nat.zero_le _, rfl, by rw [tabL_zero] at HO; exact HO.out, HB.out⟩
  case round =>
    clear HO HB
    obtain ⟨k, hk, rfl, hown, hb⟩ := hrel
    have HO := hide hown; have HB := hide hb
    clear hown hb
    by_cases hlt : k < n
    · have hc1 := cell_held HO.out hlt
      have hf := HO.out.frozenAt k
      have HS := HO.out.stored k (.int .i64 (h (k + 1)))
      rw [ints_set, tabL_set] at HS
      have e2 : (tabL n fun t => if t = k then h ((k : Int) + 1) else if t < k then h (t + 1) else 0) = tabL n fun t => if t < k + 1 then h (t + 1) else 0 := tabL_congr fun i _ => by
        by_cases e : i = k
        · subst e; rw [if_pos rfl, if_pos (Nat.lt_succ_self _)]
        · rw [if_neg e]
          by_cases e' : i < k
          · rw [if_pos e', if_pos (by omega)]
          · rw [if_neg e', if_neg (by omega)]
      rw [e2] at HS
      have HS := hide HS
      clear e2
      have HCA := HF.out (k + 1) wr (by omega) (by omega) HB.out
      rw [show (((k + 1 : Nat) : Int)) = (k : Int) + 1 by omega] at HCA
      have HCA := hide HCA
      obtain ⟨z, hz⟩ : ∃ z, z = h ((k : Int) + 1) := ⟨_, rfl⟩
      rw [← hz] at HS HCA
      clear hz
      go_wp2_with (go_at_fn g; refine HCA.out.mono ?_; rintro e w9 ⟨rfl, rfl⟩)
      go_roundw
      case rel => exact ⟨k + 1, by omega, by go_num, HS.out.1, HB.out.setCell (Nat.le_refl _) _⟩
      case measure => simp [intOf]; omega
    · obtain rfl : k = n := by omega
      have e3 : (tabL k fun t => if t < k then h (t + 1) else 0) = tabL k fun t => h (t + 1) := tabL_congr fun i hi => by rw [if_pos hi]
      have HO : Hid _ := hide (e3 ▸ HO.out)
      clear e3
      go_wp2
      go_ret
      exact ⟨_, rfl, by rw [tabL_len]; exact HO.out, HB.out⟩
theorem before_any (k : Int) (w : World) (h : -100 ≤ k ∧ k ≤ 100) : Calls Tryz.prog 96 #[.int .i64 k] w fun e w' => e = .returned (.int .i64 (k - 1)) ∧ w = w' := by
  obtain ⟨h1, h2⟩ := h
  go_enter Tryz.func96, Tryz.ntmps96
  go_wp2
  go_ret
  exact ⟨rfl, rfl⟩
theorem compare_quiet (x y : Int) (w : World) (n : Nat) :
    Calls Tryz.prog 99 #[.int .i64 x, .int .i64 y] (w.drewN n) fun e w'' => e = .returned (.int .i64 (cmpI x y)) ∧ ∃ k, w'' = w.drewN k := by
  refine Calls.quiet_of_same ((compare_any x y (w.drewN n)).mono ?_)
  rintro e w' ⟨rfl, rfl⟩
  exact ⟨rfl, rfl⟩
set_option maxHeartbeats 1000000 in
theorem greedyCmp_any (v : Value) (c : List Int) (a b q : Nat) (w : World) (hin : InRow w v c) (hq : w.cell? ⟨q, 0, none⟩ = some v) (ha : a < c.length) (hb : b < c.length) :
    Calls Tryz.prog 98 #[.int .i64 a, .int .i64 b, .pointer (some ⟨q, 0, none⟩)] w fun e w' => e = .returned (.int .i64 (cmpI (c.getD b 0) (c.getD a 0))) ∧ ∃ m, w' = w.drewN m := by
  obtain ⟨x, cp, rfl, hm, hp⟩ := hin
  obtain ⟨g, o, rfl, hg, hc⟩ := hp.resolve_left (by omega)
  have h1 := hc a ha
  have h2 := hc b hb
  unfold maxLen at hm
  rw [List.getD_eq_getElem?_getD, List.getD_eq_getElem?_getD, List.getElem?_eq_getElem ha, List.getElem?_eq_getElem hb, Option.getD_some, Option.getD_some]
  obtain ⟨xa, hxa⟩ : ∃ xa, xa = c[a] := ⟨_, rfl⟩
  obtain ⟨xb, hxb⟩ : ∃ xb, xb = c[b] := ⟨_, rfl⟩
  rw [← hxa] at h1 ⊢
  rw [← hxb] at h2 ⊢
  obtain ⟨L, hL⟩ : ∃ L, L = c.length := ⟨_, rfl⟩
  rw [← hL] at ha hb hm hq
  clear hxa hxb hc hp hL hg
  go_enter Tryz.func98, Tryz.ntmps98
  go_wp2
  go_quiet ((go_at_call 99; exact compare_quiet xb xa _ _))
  go_wp2
  go_ret
  exact ⟨rfl, _, rfl⟩

def encF {C : Nat} (i : Fin C) : Value := .int .i64 (i.val : Int)
theorem own_sortedF {w : World} {base E n g cap C : Nat} [Inhabited (Fin C)] {xs : List Value} (d : Array (Fin C)) (m : Nat) (os : Array Obj) (h : w.ownsRow base E 1 (.slice (some ⟨g, 0, none⟩) n cap) n xs) (hs : d.size = n) :
    (sortWorld encF w g 0 m d os).ownsRow base E 1 (.slice (some ⟨g, 0, none⟩) n cap) n (d.toList.map encF) ∧ w.grownBy (sortWorld encF w g 0 m d os) (some g) := by
  rcases h.2 with ⟨he, _⟩ | ⟨g', cap', cur, he, hbg, hg, hc, hm, hz, ht⟩
  · cases he
  cases he
  have hgl := (Array.getElem?_eq_some_iff.1 hg).1
  have hheap : (sortWorld encF w g 0 m d os).heap = w.heap.modify g (Go.Sort.onCells (Go.Sort.putCells encF 0 d)) ++ os := rfl
  have hsz : (w.heap.modify g (Go.Sort.onCells (Go.Sort.putCells encF 0 d))).size = w.heap.size := Array.size_modify
  have hat : (sortWorld encF w g 0 m d os).heap[g]? = some (.cells (Go.Sort.putCells encF 0 d cur) E (0, 0)) := by
    rw [hheap, Array.getElem?_append_left (by rw [hsz]; exact hgl), Array.getElem?_modify, if_pos rfl, hg]; rfl
  refine ⟨⟨by simp; omega, .inr ⟨g, cap, _, rfl, hbg, hat, hc, hm, by rw [Go.Sort.putCells, Array.size_mapIdx]; exact hz, ?_⟩⟩, ⟨rfl, rfl, rfl, by rw [hheap, Array.size_append, hsz]; omega, fun k hk hne => ?_⟩⟩
  · apply List.ext_getElem
    · rw [List.length_take, Array.length_toList, Go.Sort.putCells, Array.size_mapIdx, List.length_map, Array.length_toList]; omega
    · intro i h1 h2
      rw [List.length_map, Array.length_toList] at h2
      rw [List.getElem_take, Array.getElem_toList, List.getElem_map, Array.getElem_toList]
      simp only [Go.Sort.putCells, Array.getElem_mapIdx]
      rw [if_pos ⟨Nat.zero_le _, by omega⟩, Nat.sub_zero, getElem!_pos d i h2]
  · rw [hheap, Array.getElem?_append_left (by rw [hsz]; exact hk), Array.getElem?_modify, if_neg (fun e => hne (by rw [e]))]
def idxL (s : List Nat) : List Int := s.map fun (i : Nat) => (i : Int)
theorem fins_range (C : Nat) : (finsL C).toList.map encF = ints (idxL (List.range C)) := by
  apply List.ext_getElem
  · simp [finsL, ints, idxL]
  · intro i h1 h2; simp [finsL, ints, idxL, encF]
theorem map_encF {C : Nat} (d : Array (Fin C)) : d.toList.map encF = ints (idxL (d.toList.map (·.val))) := by
  simp only [ints, idxL, List.map_map]; rfl
set_option maxHeartbeats 1000000 in
theorem insertion_any (base : Nat) (g cap : Nat) (v : Value) (c : List Int) (q : Nat) (w : World) (h : w.ownsRow base 3 1 (.slice (some ⟨g, 0, none⟩) c.length cap) c.length (ints (idxL (List.range c.length)))) (hb : base ≤ w.heap.size) (hc1 : 1 ≤ c.length) (hc5 : c.length ≤ 5)
    (hr : ∀ w', Below base w w' → InRow w' v c ∧ w'.cell? ⟨q, 0, none⟩ = some v) :
    Calls Tryz.prog 142 #[.slice (some ⟨g, 0, none⟩) c.length cap, .int .i64 0, .int .i64 c.length, .func (.func 98) #[] #[.pointer (some ⟨q, 0, none⟩)]] w fun e w' =>
      e = .returned (.tuple #[]) ∧ w'.ownsRow base 3 1 (.slice (some ⟨g, 0, none⟩) c.length cap) c.length (ints (idxL (sortK c))) ∧ Below base w w' := by
  haveI : Inhabited (Fin c.length) := ⟨⟨0, hc1⟩⟩
  obtain ⟨g', cap', he, hbg, hg, hcc, hm, hcell, hfr⟩ := own_some h (by omega)
  cases he
  have eg : ∀ args w, (callFunc 98 args).run Tryz.prog w = .ok (.enter 98 args) w := enters_of Tryz.func98 (by kernel_rfl) rfl
  let cf : Fin c.length → Fin c.length → Int := fun x y => cmpI (c.getD y.val 0) (c.getD x.val 0)
  have hsz : (finsL c.length).size = c.length := by simp [finsL]
  have hcmp : CmpReads Tryz.prog 98 #[.pointer (some ⟨q, 0, none⟩)] encF cf g 0 (finsL c.length).size w := fun m os dk hdk x y => by
    obtain ⟨k1, k2⟩ := own_sortedF dk m os h (by rw [hdk, hsz])
    obtain ⟨r1, r2⟩ := hr _ ((Below.refl base w).grown k2 hb (fun k hk => by cases hk; exact hbg))
    exact greedyCmp_any v c x.val y.val q _ r1 r2 x.isLt y.isLt
  have hH : Go.Sort.Holds encF w g 0 (finsL c.length) := fun j hj => by
    have hj' : j < c.length := by rw [← hsz]; exact hj
    rw [Nat.zero_add]
    refine ⟨?_, hfr j⟩
    rw [hcell j hj', ints_at _ j (by simp [idxL]; exact hj'), getElem!_pos (finsL c.length) j hj]
    simp [idxL, finsL, encF]
  have hcon := Tryz.insertionSortCmpFunc_one encF (fun _ => rfl) cf 98 #[.pointer (some ⟨q, 0, none⟩)] g 0 cap 0 c.length (finsL c.length) w eg hcmp hH (Nat.zero_le _) (by rw [hsz]; exact Nat.le_refl _) (by rw [hsz]; omega)
  rw [hsz] at hcon
  refine hcon.mono ?_
  rintro e w' ⟨rfl, m, rfl⟩
  have hins := insertion_top (c := c) (by omega) (ltOf cf) (fun x y => by
    show decide (cmpI (c.getD y.val 0) (c.getD x.val 0) < 0) = _
    simp only [cmpI_neg])
  have hsr : (Go.Sort.insertionSort (ltOf cf) (finsL c.length) 0 c.length).size = c.length := by
    have := congrArg List.length hins
    rw [sortK_len] at this; simpa using this
  obtain ⟨k1, k2⟩ := own_sortedF (Go.Sort.insertionSort (ltOf cf) (finsL c.length) 0 c.length) m #[] h hsr
  rw [sortWorld_none] at k1 k2
  rw [map_encF, hins] at k1
  exact ⟨rfl, k1, (Below.refl base w).grown k2 hb (fun k hk => by cases hk; exact hbg)⟩
set_option maxHeartbeats 1000000 in
theorem stableCmp_any (base : Nat) (g cap : Nat) (v : Value) (c : List Int) (q : Nat) (w : World) (h : w.ownsRow base 3 1 (.slice (some ⟨g, 0, none⟩) c.length cap) c.length (ints (idxL (List.range c.length)))) (hb : base ≤ w.heap.size) (hc1 : 1 ≤ c.length) (hc5 : c.length ≤ 5)
    (hr : ∀ w', Below base w w' → InRow w' v c ∧ w'.cell? ⟨q, 0, none⟩ = some v) :
    Calls Tryz.prog 129 #[.slice (some ⟨g, 0, none⟩) c.length cap, .int .i64 c.length, .func (.func 98) #[] #[.pointer (some ⟨q, 0, none⟩)]] w fun e w' =>
      e = .returned (.tuple #[]) ∧ w'.ownsRow base 3 1 (.slice (some ⟨g, 0, none⟩) c.length cap) c.length (ints (idxL (sortK c))) ∧ Below base w w' := by
  have HI := hide (insertion_any base g cap v c q w h hb hc1 hc5 hr)
  obtain ⟨C, hC⟩ : ∃ C, C = c.length := ⟨_, rfl⟩
  rw [← hC] at HI hc1 hc5 ⊢
  clear h hr hC
  go_enter Tryz.func129, Tryz.ntmps129
  go_wp2
  go_loop [7, 8] (fun a b => a = .int .i64 0 ∧ b = .int .i64 20) (fun _ _ => 0)
  case atStart => exact ⟨rfl, rfl⟩
  case round =>
    obtain ⟨rfl, rfl⟩ := hrel
    go_wp2_with (go_at_call 142; refine HI.out.mono ?_; rintro e w9 ⟨rfl, ho, hb⟩; have HO := hide ho; have HB := hide hb; clear ho hb)
    go_loop [6, 7, 8] (fun z a b => z = .int .i64 20 ∧ a = .int .i64 0 ∧ b = .int .i64 20) (fun _ _ _ => 0)
    case atStart => exact ⟨rfl, rfl, rfl⟩
    case round =>
      obtain ⟨rfl, rfl, rfl⟩ := hrel
      go_wp2
      go_end0
      exact ⟨rfl, HO.out, HB.out⟩
set_option maxHeartbeats 1000000 in
theorem stable_any (base : Nat) (g cap : Nat) (v : Value) (c : List Int) (q : Nat) (w : World) (h : w.ownsRow base 3 1 (.slice (some ⟨g, 0, none⟩) c.length cap) c.length (ints (idxL (List.range c.length)))) (hb : base ≤ w.heap.size) (hc1 : 1 ≤ c.length) (hc5 : c.length ≤ 5)
    (hr : ∀ w', Below base w w' → InRow w' v c ∧ w'.cell? ⟨q, 0, none⟩ = some v) :
    Calls Tryz.prog 97 #[.slice (some ⟨g, 0, none⟩) c.length cap, .func (.func 98) #[] #[.pointer (some ⟨q, 0, none⟩)]] w fun e w' =>
      e = .returned (.tuple #[]) ∧ w'.ownsRow base 3 1 (.slice (some ⟨g, 0, none⟩) c.length cap) c.length (ints (idxL (sortK c))) ∧ Below base w w' := by
  have HI := hide (stableCmp_any base g cap v c q w h hb hc1 hc5 hr)
  obtain ⟨C, hC⟩ : ∃ C, C = c.length := ⟨_, rfl⟩
  rw [← hC] at HI hc1 hc5 ⊢
  clear h hr hC
  go_enter Tryz.func97, Tryz.ntmps97
  go_wp2_with (go_at_call 129; refine HI.out.mono ?_; rintro e w9 ⟨rfl, ho, hb⟩; have HO := hide ho; have HB := hide hb; clear ho hb)
  go_end0
  exact ⟨rfl, HO.out, HB.out⟩
end Go.Proofs.YtcliiefedmiokaaGreat
/-
  greedyRow of the program.
-/
namespace Go.Proofs.YtcliiefedmiokaaGreat
open Go.RowKit Go.Shelf

theorem idx_range (C : Nat) : (tabL C fun k => ((k : Int) + 1) - 1) = idxL (List.range C) := by
  apply List.ext_getElem
  · simp [tabL, idxL]
  · intro i h1 h2
    rw [tabL_at]; simp [idxL]
theorem enters_before : ∀ args w, (callFunc 96 args).run Tryz.prog w = .ok (.enter 96 args) w := enters_of Tryz.func96 (by kernel_rfl) rfl
theorem columns_any (C : Nat) (w : World) (h : 1 ≤ C ∧ C ≤ 5) : Calls Tryz.prog 95 #[.int .i64 C, .func (.func 96) #[] #[]] w (IntsRes (idxL (List.range C)) w) := by
  have := collectG_any C 96 #[] (fun k => k - 1) w enters_before h (fun k w' h1 h2 _ => before_any k w' (by omega))
  rw [← idx_range]; exact this
set_option maxHeartbeats 2000000 in
theorem greedyRow_any (vr vl : Value) (r c : List Int) (s : Nat) (w : World) (hr : InRow w vr r) (hc : InRow w vl c) (hC : 1 ≤ c.length ∧ c.length ≤ 5) (hr0 : 0 < r.length) (h0 : r[0] = s) (hs : s ≤ c.length) :
    Calls Tryz.prog 48 #[vr, vl] w (IntsRes (topRow c s) w) := by
  have hbox := (Below.refl w.heap.size w).alloc (Nat.le_refl _) (.cells #[vl] 30)
  have HBX := hide hbox
  have HCX := hide (show (w.alloc (.cells #[vl] 30)).cell? ⟨w.heap.size, 0, none⟩ = some vl by simp [World.cell?_alloc_new])
  have HI := hide (inRow_below hc hbox)
  have HSZ := hide (show (w.alloc (.cells #[vl] 30)).heap.size = w.heap.size + 1 by simp)
  obtain ⟨ar, cr, rfl, hmr, hpr⟩ := hr
  obtain ⟨gr, or', rfl, hgr, hcr⟩ := hpr.resolve_left (by omega)
  have HR0 := hide (hcr 0 hr0)
  rw [h0, Nat.add_zero] at HR0
  have HGR := hide hgr
  obtain ⟨al, cl, rfl, hml, hpl⟩ := hc
  unfold maxLen at hmr hml
  obtain ⟨R, hR⟩ : ∃ R, R = r.length := ⟨_, rfl⟩
  rw [← hR] at hmr hr0 ⊢
  obtain ⟨C, hCC⟩ : ∃ C, C = c.length := ⟨_, rfl⟩
  have HCL := hide hCC
  rw [← hCC] at hC hs hml HI HCX HBX HSZ ⊢
  have HKL : Hid ((sortK c).length = C) := hide (by rw [sortK_len, hCC])
  obtain ⟨hC1, hC2⟩ := hC
  clear hbox hcr hpl hpr hR hCC h0 hgr
  go_enter Tryz.func48, Tryz.ntmps48
  go_wp2_with fail
  generalize hW : w.alloc (.cells #[Value.slice al C cl] 30) = W1 at HSZ HBX HCX HI ⊢
  clear hW
  refine (columns_any C _ ⟨hC1, hC2⟩).mono ?_
  rintro e w2 ⟨v2, rfl, ho, hb⟩
  rw [show (idxL (List.range C)).length = C by simp [idxL]] at ho
  obtain ⟨g2, c2, rfl, hbg2, hg2, hcc2, hm2, -, -⟩ := own_some ho hC1
  unfold maxLen at hm2
  have HQ := hide (fun (w' : World) (hw : Below W1.heap.size w2 w') => (⟨inRow_below HI.out (hb.trans hw), below_cell (hb.trans hw) (by rw [HSZ.out]; omega) HCX.out⟩ : InRow w' (.slice al C cl) c ∧ w'.cell? ⟨w.heap.size, 0, none⟩ = some (.slice al C cl)))
  have hx2 := (HQ.out w2 (Below.refl _ _)).2
  have hsrt := stable_any W1.heap.size g2 c2 (.slice al C cl) c w.heap.size w2 (by rw [← HCL.out]; exact ho) hb.size (by rw [← HCL.out]; exact hC1) (by rw [← HCL.out]; exact hC2) HQ.out
  rw [← HCL.out] at hsrt
  have HSRT := hide hsrt
  have HB2 := hide hb
  clear ho hb hsrt hbg2 hg2
  go_wp2_with fail
  refine HSRT.out.mono ?_
  rintro e w3 ⟨rfl, ho, hb⟩
  have HO3 := hide ho; have HB3 := hide (HB2.out.trans hb); have hx3 := (HQ.out w3 hb).2; have hs3 := HB3.out.size
  clear ho hb hx2 HSRT
  have HS3 := hide (show w.heap.size ≤ w3.heap.size by have := HSZ.out; omega)
  go_wp2_with (at_make; refine wpList_new w3.heap.size C (.int .i64 0) rfl _ _ rfl Tryz.underlying30 Tryz.infoInt rfl (by decide) rfl rfl (by omega) (Nat.le_refl _) ?_; intro w4 hown hb hg; have HO4 := hide hown; have HOC := hide (own_below HO3.out hb); have HB4 := hide hb; have hr4 := below_cell ((HBX.out.trans (HB3.out.mono HBX.out.size)).trans (hb.mono HS3.out)) HGR.out HR0.out; clear hown hb hg)
  have HCOL : Hid (∀ w', Below w3.heap.size w4 w' → ∀ k, (h : k < (sortK c).length) → w'.cell? ⟨g2, k, none⟩ = some (.int .i64 ((sortK c)[k] : Nat))) := hide fun w' hb k h => by
    have hk : k < C := by rw [HKL.out] at h; exact h
    obtain ⟨g', cap', he, -, hg', -, -, hcell, -⟩ := own_some HO3.out (by omega)
    cases he
    rw [(HB4.out.trans hb).cell (p := ⟨g2, k, none⟩) hg', hcell k hk, ints_at _ k (by simp [idxL]; exact h)]
    simp [idxL]
  clear HOC HO3 hx3 hr4
  go_loopw [24] (fun i w' => ∃ k : Nat, k ≤ s ∧ i = .int .i64 k ∧ w'.ownsRow w3.heap.size 3 1 (.slice (some ⟨w3.heap.size, 0, none⟩) C C) C (ints (tabL C (topF c k))) ∧ Below w3.heap.size w4 w') (fun i _ => s - (intOf i).toNat)
  case atStart => exact ⟨0, Nat.zero_le _, rfl, by rw [tabL_zero] at HO4; rw [show tabL C (topF c 0) = tabL C (fun _ => 0) from tabL_congr fun i _ => topF_zero c i]; exact HO4.out, Below.refl _ _⟩
  case round =>
    clear HO4
    obtain ⟨k, hk, rfl, hown, hb⟩ := hrel
    have HO := hide hown; have HB := hide hb
    clear hown hb
    by_cases hlt : k < s
    · have hkl : k < (sortK c).length := by rw [HKL.out]; omega
      have hcol := HCOL.out wr HB.out k hkl
      have hxC : (sortK c)[k] < C := by rw [HCL.out]; exact sortK_mem.1 (List.getElem_mem hkl)
      have HNX := hide (topF_next hkl)
      have HSUC := hide (fun x => topF_succ hkl x)
      obtain ⟨x, hx⟩ : ∃ x, x = (sortK c)[k] := ⟨_, rfl⟩
      rw [← hx] at hcol hxC HNX HSUC
      have hc1 := cell_held HO.out hxC
      rw [tabL_held hxC, HNX.out] at hc1
      have hf := HO.out.frozenAt x
      have HS := HO.out.stored x (.int .i64 1)
      rw [ints_set, tabL_set] at HS
      rw [show (tabL C fun t => if t = x then 1 else topF c k t) = tabL C (topF c (k + 1)) from tabL_congr fun i _ => (HSUC.out i).symm] at HS
      have HS := hide HS
      clear hx
      go_wp2
      go_roundw
      case rel => exact ⟨k + 1, by omega, by go_num, HS.out.1, HB.out.setCell (Nat.le_refl _) _⟩
      case measure => simp [intOf]; omega
    · obtain rfl : k = s := by omega
      go_wp2
      go_ret
      refine ⟨_, rfl, ?_, ?_⟩
      · rw [topRow_len, ← HCL.out, topRow, ← HCL.out]; exact own_base HO.out HS3.out
      · exact (HBX.out.trans (HB3.out.mono HBX.out.size)).trans ((HB4.out.trans HB.out).mono HS3.out)
end Go.Proofs.YtcliiefedmiokaaGreat
/-
  BuildImage of the program.
-/
namespace Go.Proofs.YtcliiefedmiokaaGreat
open Go.RowKit Go.Shelf

/-- What holds while the image is constructed. -/
def InvG (r c : List Int) : Prop := r.length ≤ 5 ∧ (1 ≤ c.length ∧ c.length ≤ 5) ∧ (∀ x ∈ r, 0 ≤ x ∧ x ≤ c.length) ∧ Mid100 (5 - r.length) c
theorem invG_start {r c : List Int} (h : existsOf r c = true) : InvG r c := by
  have hs := existsOf_sums h
  obtain ⟨hr, hc, hrb, -, -⟩ := sumsOk_yes hs
  refine ⟨hr.2, hc, fun x hx => ?_, mid_mono (mid_start hs) (by omega)⟩
  obtain ⟨k, hk, rfl⟩ := List.getElem_of_mem hx
  exact noBad_at hrb hk
theorem choice_greedy : Choice 48 greedyCh InvG where
  enters := enters_of Tryz.func48 (by kernel_rfl) rfl
  calls a r c vr vc w hI hr hc := by
    obtain ⟨h1, h2, h3, -⟩ := hI
    have ha := h3 a List.mem_cons_self
    refine greedyRow_any vr vc (a :: r) c a.toNat w hr.1 hc h2 (by simp) (by simp; omega) (by omega)
  next a r c hI := by
    obtain ⟨h1, h2, h3, h4⟩ := hI
    rw [List.length_cons] at h1 h4
    have hl : (greedyCh (a :: r) c).length = c.length := topRow_len _ _
    refine ⟨by omega, h2.2, hl, ⟨by omega, by rw [subL_len]; exact h2, fun x hx => by rw [subL_len]; exact h3 x (List.mem_cons_of_mem _ hx), ?_⟩, fun x hx => by have := h4.2 x hx; omega, fun x hx => ?_⟩
    · exact mid_mono (mid_sub (n := a.toNat) h4) (by omega)
    · show -1000 ≤ (topRow c a.toNat).getD x 0 ∧ (topRow c a.toNat).getD x 0 ≤ 1000
      rw [topRow, tabL_getD hx]
      rcases top01 c a.toNat x with e | e <;> rw [e] <;> omega
set_option maxHeartbeats 400000 in
theorem implBuild_any (va vb : Value) (r c : List Int) (w : World) (ha : RowC w va r) (hb : RowC w vb c) :
    Calls Tryz.prog 15 #[va, vb] w (MatRes2 (if existsOf r c = true then imgL greedyCh r c else []) (existsOf r c) w) := by
  have HA := hide ha; have HB := hide hb; have HA1 := hide ha.1; have HB1 := hide hb.1
  cases h : existsOf r c with
  | false =>
    rw [if_neg (by decide)]
    have H := hide h
    clear ha hb h
    go_enter Tryz.func15, Tryz.ntmps15
    go_wp2_with ((with_reducible refine (implExists_any va vb r c _ HA1.out HB1.out).mono ?_); rw [H.out]; rintro e w1 ⟨rfl, b1⟩; have B1 := hide b1; clear b1)
    go_ret2
    exact matRes2_nil B1.out
  | true =>
    rw [if_pos rfl]
    have H := hide h
    have HI := hide (invG_start h)
    clear ha hb h
    go_enter Tryz.func15, Tryz.ntmps15
    go_wp2_with (first | ((with_reducible refine (implExists_any va vb r c _ HA1.out HB1.out).mono ?_); rw [H.out]; rintro e w1 ⟨rfl, b1⟩; have B1 := hide b1; clear b1) | (go_at_call 47; refine (imageBy_any 48 greedyCh InvG choice_greedy r c va vb _ HI.out (rowC_below HA.out B1.out) (inRow_below HB1.out B1.out)).mono ?_; rintro e w2 ⟨v, rfl, ho, hb⟩; have HO := hide (ownMat_mono ho B1.out.size (Nat.le_refl _)); have B2 := hide (B1.out.trans (hb.mono B1.out.size)); clear ho hb))
    go_ret2
    exact ⟨_, rfl, HO.out, B2.out⟩
theorem imgL_rows (ch : List Int → List Int → List Int) (n : Nat) (hch : ∀ r c, c.length = n → (ch r c).length = n) : ∀ (r c : List Int), c.length = n → ∀ q ∈ imgL ch r c, q.length = n
  | [], _, _, q, hq => by simp [imgL] at hq
  | a :: r, c, hc, q, hq => by
    rw [imgL, List.mem_cons] at hq
    rcases hq with rfl | hq
    · exact hch _ _ hc
    · exact imgL_rows ch n hch r _ (by rw [subL_len]; exact hc) q hq
end Go.Proofs.YtcliiefedmiokaaGreat
