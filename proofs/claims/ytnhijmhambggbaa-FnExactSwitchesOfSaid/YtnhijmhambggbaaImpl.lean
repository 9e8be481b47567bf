/-
  The program's exported functions on images.
-/
import Derived.Test.YtnhijmhambggbaaArr4
namespace Go.Proofs.Ytnhijmhambggbaa
open Go.RowKit

def trM (f : Nat → Nat → Int) (y x : Nat) : Int := f x y
def invM (f : Nat → Nat → Int) (y x : Nat) : Int := 1 - f y x
theorem img_tr {R C : Nat} {f : Nat → Nat → Int} (h : Img R C f) : Img C R (trM f) := ⟨h.c1, h.c2, h.r1, h.r2, fun y x hy hx => h.cell x y hx hy⟩
theorem img_mir {R C : Nat} {f : Nat → Nat → Int} (h : Img R C f) : Img R C (mirM C f) := ⟨h.r1, h.r2, h.c1, h.c2, fun y x hy hx => h.cell y (C - 1 - x) hy (by omega)⟩
theorem img_inv {R C : Nat} {f : Nat → Nat → Int} (h : Img R C f) : Img R C (invM f) := ⟨h.r1, h.r2, h.c1, h.c2, fun y x hy hx => by rcases h.cell y x hy hx with e | e <;> simp [invM, e]⟩
theorem transposed_img (R C : Nat) (f : Nat → Nat → Int) (w : World) (_hI : Img R C f) :
    Calls Try.prog 109 #[.agg (vec 25 (imgF R C f))] w fun e w' => e = .returned (.agg (vec 25 (imgF C R (trM f)))) ∧ Below w.heap.size w w' := by
  rw [← vec_congr (n := 25) (F := fun i => imgF R C f (5 * (i % 5) + i / 5)) (G := imgF C R (trM f)) fun i hi => ?_]
  · exact transposed_any _ _
  · simp only [imgF, trM, show (5 * (i % 5) + i / 5) / 5 = i % 5 by omega, show (5 * (i % 5) + i / 5) % 5 = i / 5 by omega]
    by_cases h : i % 5 < R ∧ i / 5 < C
    · rw [if_pos h, if_pos ⟨h.2, h.1⟩]
    · rw [if_neg h, if_neg fun e => h ⟨e.2, e.1⟩]
set_option maxHeartbeats 400000 in
theorem implTransposeOf_no (v : Value) (m : List (List Int)) (w : World) (hin : InMat w v m) (h : okB m = false) :
    Calls Try.prog 69 #[v] w (MatRes [] w) := by
  have HI := hide hin; have H := hide h
  clear hin h
  go_enter Try.func69, Try.ntmps69
  go_wp2_with fail
  refine (imageOf_no v m _ HI.out H.out).mono ?_
  rintro e w1 ⟨rfl, b1⟩
  have B1 := hide b1
  clear b1
  go_wp2_with (first | (with_reducible refine wpList_allocVec 25 3 rfl rfl rfl Try.zeroImg ?_; intro wa ha ba sa) | (with_reducible refine wpList_storeVec ha rfl (.tmp 3) (.tmp 8) rfl rfl rfl Try.sizeImg ?_; intro wb hb gb sb) | (with_reducible refine wpList_loadVec hb 12 rfl rfl _ rfl rfl Try.underlying88 Try.sizeImg ?_))
  go_ret
  exact matRes_nil (B1.out.trans ((ba.mono B1.out.size).trans (grown_below gb (fun k hk => by cases hk; exact B1.out.size) (by have := B1.out.size; omega))))
set_option maxHeartbeats 400000 in
theorem implTransposeOf_yes (v : Value) (R C : Nat) (f : Nat → Nat → Int) (w : World) (hin : InMat w v (mkM R C f)) (hI : Img R C f) :
    Calls Try.prog 69 #[v] w (MatRes (mkM C R (trM f)) w) := by
  have HI := hide hin; have H := hide hI
  clear hin hI
  go_enter Try.func69, Try.ntmps69
  go_wp2_with fail
  refine (imageOf_yes v R C f _ HI.out H.out).mono ?_
  rintro e w1 ⟨rfl, b1⟩
  have B1 := hide b1
  clear b1
  go_wp2_with (first | (with_reducible refine wpList_allocVec 25 3 rfl rfl rfl Try.zeroImg ?_; intro wa ha ba sa) | (with_reducible refine wpList_storeVec ha rfl (.tmp 3) (.tmp 8) rfl rfl rfl Try.sizeImg ?_; intro wb hb gb sb) | (with_reducible refine wpList_loadVec hb 12 rfl rfl _ rfl rfl Try.underlying88 Try.sizeImg ?_))
  have B2 := hide (B1.out.trans ((ba.mono B1.out.size).trans (grown_below gb (fun k hk => by cases hk; exact B1.out.size) (by have := B1.out.size; omega))))
  clear ha ba sa hb gb sb
  refine (transposed_img R C f _ H.out).mono ?_
  rintro e w3 ⟨rfl, b3⟩
  have B3 := hide (B2.out.trans (b3.mono B2.out.size))
  clear b3
  go_wp2_with fail
  refine (lists_any C R (trM f) _ (img_tr H.out)).mono ?_
  rintro e w4 ⟨v4, rfl, o4, b4⟩
  have O4 := hide (ownMat_mono o4 B3.out.size (Nat.le_refl _)); have B4 := hide (B3.out.trans (b4.mono B3.out.size))
  clear o4 b4
  go_wp2
  go_ret
  exact ⟨_, rfl, O4.out, B4.out⟩

/-- The cell of a valid image, or -1. -/
def atM (R C : Nat) (f : Nat → Nat → Int) (y x : Int) : Int := if 0 ≤ y ∧ y < R ∧ 0 ≤ x ∧ x < C then f y.toNat x.toNat else -1
theorem cell_img (R C : Nat) (f : Nat → Nat → Int) (y x : Int) (w : World) (hI : Img R C f) :
    Calls Try.prog 113 #[.agg (vec 25 (imgF R C f)), .int .i64 y, .int .i64 x] w fun e w' => e = .returned (.int .i64 (atM R C f y x)) ∧ Below w.heap.size w w' := by
  have hR := hI.r2; have hC := hI.c2
  by_cases h : y < 0 ∨ 5 ≤ y ∨ x < 0 ∨ 5 ≤ x
  · refine (cell_out (imgF R C f) y x w h).mono ?_
    rintro e w' ⟨rfl, hb⟩
    exact ⟨by rw [atM, if_neg (by omega)], hb⟩
  · obtain ⟨a, rfl⟩ : ∃ a : Nat, y = a := ⟨y.toNat, by omega⟩
    obtain ⟨b, rfl⟩ : ∃ b : Nat, x = b := ⟨x.toNat, by omega⟩
    refine (cell_in (imgF R C f) a b w (by omega) (by omega)).mono ?_
    rintro e w' ⟨rfl, hb⟩
    refine ⟨ret_int ?_, hb⟩
    rw [imgF_at _ _ _ _ _ (by omega), atM]
    by_cases h2 : a < R ∧ b < C
    · rw [if_pos h2, if_pos (by omega)]; rfl
    · rw [if_neg h2, if_neg (by omega)]
theorem img_zero {R C : Nat} (hR : 1 ≤ R ∧ R ≤ 5) (hC : 1 ≤ C ∧ C ≤ 5) : Img R C zeroM := ⟨hR.1, hR.2, hC.1, hC.2, fun _ _ _ _ => .inl rfl⟩
theorem whiteImage_img (R C : Nat) (w : World) :
    Calls Try.prog 110 #[.int .i64 R, .int .i64 C] w fun e w' => e = .returned (.agg (vec 25 (imgF R C zeroM))) ∧ Below w.heap.size w w' := by
  rw [← vec_congr (n := 25) (F := whiteF R C) (G := imgF R C zeroM) fun i hi => ?_]
  · exact whiteImage_any _ _ _
  · simp only [whiteF, imgF, zeroM]
    by_cases h : i / 5 < R ∧ i % 5 < C
    · rw [if_pos h, if_neg (by omega)]
    · rw [if_neg h, if_pos (by omega)]
end Go.Proofs.Ytnhijmhambggbaa
