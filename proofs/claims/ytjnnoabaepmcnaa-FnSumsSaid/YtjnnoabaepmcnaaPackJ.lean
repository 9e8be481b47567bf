/-
  Texts of this claim, one behind the other: Arr4, Impl, SpecI, SpecT, ColS, FnSumP, Draw, Pick, MkD, MkDs.
-/
import Derived.Test.YtjnnoabaepmcnaaPackI
import Derived.Test.YtjnnoabaepmcnaaPackG
import Derived.Test.YtjnnoabaepmcnaaPackD
import Derived.Test.YtjnnoabaepmcnaaPackH
import Derived.Test.YtjnnoabaepmcnaaPackE
import Derived.Test.YtjnnoabaepmcnaaPackC
import Derived.WalkMore
import Derived.Deep.LoopGhost
/-
  The program's images: mirrored; the exported functions.
-/
namespace Go.Proofs.Ytjnnoabaepmcnaa
open Go.RowKit

def mirM (C : Nat) (f : Nat → Nat → Int) (y x : Nat) : Int := f y (C - 1 - x)
def upMir (R C : Nat) (f : Nat → Nat → Int) (y : Nat) (i : Nat) : Int := if i / 5 < y then imgF R C (mirM C f) i else imgF R C f i
theorem upMir_zero (R C : Nat) (f : Nat → Nat → Int) : upMir R C f 0 = imgF R C f := by funext i; simp [upMir]
theorem upMir_all (R C : Nat) (f : Nat → Nat → Int) : ∀ i, i < 25 → upMir R C f 5 i = imgF R C (mirM C f) i := fun i hi => by rw [upMir, if_pos (by omega)]
theorem upMir_step (R C : Nat) (f : Nat → Nat → Int) (y n : Nat) (hC : C ≤ 5) (hn : n = if y < R then C else 0) : ∀ i, i < 25 →
    (if 0 + y * 5 ≤ i ∧ i < 0 + y * 5 + 5 then mirR n (fun j => imgF R C f (y * 5 + j)) (i - (0 + y * 5)) else upMir R C f y i) = upMir R C f (y + 1) i := fun i hi => by
  by_cases hl : 0 + y * 5 ≤ i ∧ i < 0 + y * 5 + 5
  · rw [if_pos hl, upMir, if_pos (by omega)]
    simp only [mirR, imgF]
    have e1 : i / 5 = y := by omega
    have e2 : i - (0 + y * 5) = i % 5 := by omega
    rw [e1, e2]
    by_cases hy : y < R
    · rw [if_pos hy] at hn
      subst hn
      by_cases hx : i % 5 < n
      · rw [if_pos hx, if_pos (by omega), if_pos ⟨hy, hx⟩, mirM, show (y * 5 + (n - 1 - i % 5)) / 5 = y by omega, show (y * 5 + (n - 1 - i % 5)) % 5 = n - 1 - i % 5 by omega]
      · rw [if_neg hx, if_neg (by omega), if_neg (by omega)]
    · rw [if_neg hy] at hn
      subst hn
      rw [if_neg (by omega), if_neg (by omega), if_neg (by omega)]
  · rw [if_neg hl, upMir, upMir]
    by_cases h2 : i / 5 < y
    · rw [if_pos h2, if_pos (by omega)]
    · rw [if_neg h2, if_neg (by omega)]

end Go.Proofs.Ytjnnoabaepmcnaa
/-
  The program's exported functions on images.
-/
namespace Go.Proofs.Ytjnnoabaepmcnaa
open Go.RowKit

def trM (f : Nat → Nat → Int) (y x : Nat) : Int := f x y
def invM (f : Nat → Nat → Int) (y x : Nat) : Int := 1 - f y x
theorem img_tr {R C : Nat} {f : Nat → Nat → Int} (h : Img R C f) : Img C R (trM f) := ⟨h.c1, h.c2, h.r1, h.r2, fun y x hy hx => h.cell x y hx hy⟩
theorem img_mir {R C : Nat} {f : Nat → Nat → Int} (h : Img R C f) : Img R C (mirM C f) := ⟨h.r1, h.r2, h.c1, h.c2, fun y x hy hx => h.cell y (C - 1 - x) hy (by omega)⟩
theorem img_inv {R C : Nat} {f : Nat → Nat → Int} (h : Img R C f) : Img R C (invM f) := ⟨h.r1, h.r2, h.c1, h.c2, fun y x hy hx => by rcases h.cell y x hy hx with e | e <;> simp [invM, e]⟩
theorem transposed_img (R C : Nat) (f : Nat → Nat → Int) (w : World) (_hI : Img R C f) :
    Calls Try.prog 45 #[.agg (vec 25 (imgF R C f))] w fun e w' => e = .returned (.agg (vec 25 (imgF C R (trM f)))) ∧ Below w.heap.size w w' := by
  rw [← vec_congr (n := 25) (F := fun i => imgF R C f (5 * (i % 5) + i / 5)) (G := imgF C R (trM f)) fun i hi => ?_]
  · exact transposed_any _ _
  · simp only [imgF, trM, show (5 * (i % 5) + i / 5) / 5 = i % 5 by omega, show (5 * (i % 5) + i / 5) % 5 = i / 5 by omega]
    by_cases h : i % 5 < R ∧ i / 5 < C
    · rw [if_pos h, if_pos ⟨h.2, h.1⟩]
    · rw [if_neg h, if_neg fun e => h ⟨e.2, e.1⟩]
set_option maxHeartbeats 400000 in
theorem implTransposeOf_no (v : Value) (m : List (List Int)) (w : World) (hin : InMat w v m) (h : okB m = false) :
    Calls Try.prog 18 #[v] w (MatRes [] w) := by
  have HI := hide hin; have H := hide h
  clear hin h
  go_enter Try.func18, Try.ntmps18
  go_wp2_with fail
  refine (imageOf_no v m _ HI.out H.out).mono ?_
  rintro e w1 ⟨rfl, b1⟩
  have B1 := hide b1
  clear b1
  go_wp2_with (first | (with_reducible refine wpList_allocVec 25 3 rfl rfl rfl Try.zeroImg ?_; intro wa ha ba sa) | (with_reducible refine wpList_storeVec ha rfl (.tmp 3) (.tmp 8) rfl rfl rfl Try.sizeImg ?_; intro wb hb gb sb) | (with_reducible refine wpList_loadVec hb 12 rfl rfl _ rfl rfl Try.underlying56 Try.sizeImg ?_))
  go_ret
  exact matRes_nil (B1.out.trans ((ba.mono B1.out.size).trans (grown_below gb (fun k hk => by cases hk; exact B1.out.size) (by have := B1.out.size; omega))))
set_option maxHeartbeats 400000 in
theorem implTransposeOf_yes (v : Value) (R C : Nat) (f : Nat → Nat → Int) (w : World) (hin : InMat w v (mkM R C f)) (hI : Img R C f) :
    Calls Try.prog 18 #[v] w (MatRes (mkM C R (trM f)) w) := by
  have HI := hide hin; have H := hide hI
  clear hin hI
  go_enter Try.func18, Try.ntmps18
  go_wp2_with fail
  refine (imageOf_yes v R C f _ HI.out H.out).mono ?_
  rintro e w1 ⟨rfl, b1⟩
  have B1 := hide b1
  clear b1
  go_wp2_with (first | (with_reducible refine wpList_allocVec 25 3 rfl rfl rfl Try.zeroImg ?_; intro wa ha ba sa) | (with_reducible refine wpList_storeVec ha rfl (.tmp 3) (.tmp 8) rfl rfl rfl Try.sizeImg ?_; intro wb hb gb sb) | (with_reducible refine wpList_loadVec hb 12 rfl rfl _ rfl rfl Try.underlying56 Try.sizeImg ?_))
  have B2 := hide (B1.out.trans ((ba.mono B1.out.size).trans (grown_below gb (fun k hk => by cases hk; exact B1.out.size) (by have := B1.out.size; omega))))
  clear ha ba sa hb gb sb
  refine (transposed_img R C f _ H.out).mono ?_
  rintro e w3 ⟨rfl, b3⟩
  have B3 := hide (B2.out.trans (b3.mono B2.out.size))
  clear b3
  go_wp2_with fail
  refine (lists_any C R (trM f) _ (img_tr H.out)).mono ?_
  rintro e w4 ⟨v4, rfl, o4, b4⟩
  have O4 := hide (ownMat_mono o4 B3.out.size (Nat.le_refl _)); have B4 := hide (B3.out.trans (b4.mono B3.out.size))
  clear o4 b4
  go_wp2
  go_ret
  exact ⟨_, rfl, O4.out, B4.out⟩

set_option maxHeartbeats 400000 in
theorem implCountBlack_no (v : Value) (m : List (List Int)) (w : World) (hin : InMat w v m) (h : okB m = false) :
    Calls Try.prog 7 #[v] w fun e w' => e = .returned (.int .i64 (-1)) ∧ Below w.heap.size w w' := by
  have HI := hide hin; have H := hide h
  clear hin h
  go_enter Try.func7, Try.ntmps7
  go_wp2_with fail
  refine (imageOf_no v m _ HI.out H.out).mono ?_
  rintro e w1 ⟨rfl, b1⟩
  have B1 := hide b1
  clear b1
  go_wp2_with (first | (with_reducible refine wpList_allocVec 25 3 rfl rfl rfl Try.zeroImg ?_; intro wa ha ba sa) | (with_reducible refine wpList_storeVec ha rfl (.tmp 3) (.tmp 8) rfl rfl rfl Try.sizeImg ?_; intro wb hb gb sb) | (with_reducible refine wpList_loadVec hb 12 rfl rfl _ rfl rfl Try.underlying56 Try.sizeImg ?_))
  go_ret
  exact ⟨rfl, B1.out.trans ((ba.mono B1.out.size).trans (grown_below gb (fun k hk => by cases hk; exact B1.out.size) (by have := B1.out.size; omega)))⟩
set_option maxHeartbeats 400000 in
theorem implCountBlack_yes (v : Value) (R C : Nat) (f : Nat → Nat → Int) (w : World) (hin : InMat w v (mkM R C f)) (hI : Img R C f) :
    Calls Try.prog 7 #[v] w fun e w' => e = .returned (.int .i64 (cnt (fun i => imgF R C f i == 1) 25)) ∧ Below w.heap.size w w' := by
  have HI := hide hin; have H := hide hI
  clear hin hI
  go_enter Try.func7, Try.ntmps7
  go_wp2_with fail
  refine (imageOf_yes v R C f _ HI.out H.out).mono ?_
  rintro e w1 ⟨rfl, b1⟩
  have B1 := hide b1
  clear b1
  go_wp2_with (first | (with_reducible refine wpList_allocVec 25 3 rfl rfl rfl Try.zeroImg ?_; intro wa ha ba sa) | (with_reducible refine wpList_storeVec ha rfl (.tmp 3) (.tmp 8) rfl rfl rfl Try.sizeImg ?_; intro wb hb gb sb) | (with_reducible refine wpList_loadVec hb 12 rfl rfl _ rfl rfl Try.underlying56 Try.sizeImg ?_))
  have B2 := hide (B1.out.trans ((ba.mono B1.out.size).trans (grown_below gb (fun k hk => by cases hk; exact B1.out.size) (by have := B1.out.size; omega))))
  clear ha ba sa hb gb sb
  refine (count_any (imgF R C f) 1 _).mono ?_
  rintro e w3 ⟨rfl, b3⟩
  have B3 := hide (B2.out.trans (b3.mono B2.out.size))
  clear b3
  go_wp2
  go_ret
  exact ⟨rfl, B3.out⟩

/-- The cell of a valid image, or -1. -/
def atM (R C : Nat) (f : Nat → Nat → Int) (y x : Int) : Int := if 0 ≤ y ∧ y < R ∧ 0 ≤ x ∧ x < C then f y.toNat x.toNat else -1
theorem img_zero {R C : Nat} (hR : 1 ≤ R ∧ R ≤ 5) (hC : 1 ≤ C ∧ C ≤ 5) : Img R C zeroM := ⟨hR.1, hR.2, hC.1, hC.2, fun _ _ _ _ => .inl rfl⟩
theorem whiteImage_img (R C : Nat) (w : World) :
    Calls Try.prog 61 #[.int .i64 R, .int .i64 C] w fun e w' => e = .returned (.agg (vec 25 (imgF R C zeroM))) ∧ Below w.heap.size w w' := by
  rw [← vec_congr (n := 25) (F := whiteF R C) (G := imgF R C zeroM) fun i hi => ?_]
  · exact whiteImage_any _ _ _
  · simp only [whiteF, imgF, zeroM]
    by_cases h : i / 5 < R ∧ i % 5 < C
    · rw [if_pos h, if_neg (by omega)]
    · rw [if_neg h, if_pos (by omega)]
end Go.Proofs.Ytjnnoabaepmcnaa
/-
  The model's functions on images.
-/
namespace Go.Proofs.Ytjnnoabaepmcnaa
open Go.RowKit

def inM (m : List (List Int)) (y x : Int) : Bool := okB m && decide (0 ≤ y ∧ y < m.length) && decide (0 ≤ x ∧ x < widthM m)
theorem cnt_row {R C : Nat} {f : Nat → Nat → Int} (p : Nat → Bool) (hp : ∀ i, imgF R C f i = -1 → p i = false) (y : Nat) (hC : C ≤ 5) : cnt p (5 * (y + 1)) = cnt p (5 * y + C) :=
  cnt_skip (by omega) fun i h1 h2 => hp i (by rw [imgF, if_neg (by omega)])
theorem cnt_end {R C : Nat} {f : Nat → Nat → Int} (p : Nat → Bool) (hp : ∀ i, imgF R C f i = -1 → p i = false) (hR : R ≤ 5) : cnt p 25 = cnt p (5 * R) :=
  cnt_skip (by omega) fun i h1 h2 => hp i (by rw [imgF, if_neg (by omega)])
end Go.Proofs.Ytjnnoabaepmcnaa
/-
  TransposeOf, MirrorOf, InvertOf of the model.
-/
namespace Go.Proofs.Ytjnnoabaepmcnaa
open Go.RowKit
set_option linter.unusedVariables false

def upTr (C : Nat) (f : Nat → Nat → Int) (y x a b : Nat) : Int := if b < y ∨ (b = y ∧ a < x) then f b a else 0
theorem upTr_zero (R C : Nat) (f : Nat → Nat → Int) : mkM C R zeroM = mkM C R (upTr C f 0 0) := mkM_congr fun a b ha hb => by rw [upTr, if_neg (by omega)]; rfl
theorem upTr_set (R C : Nat) (f : Nat → Nat → Int) (y x : Nat) (hy : y < R) (hx : x < C) (z : Int) (hz : f y x = z) :
    mkM C R (fun a b => if a = x ∧ b = y then z else upTr C f y x a b) = mkM C R (upTr C f y (x + 1)) := mkM_congr fun a b ha hb => by
  simp only [upTr]
  by_cases e : a = x ∧ b = y
  · obtain ⟨rfl, rfl⟩ := e
    rw [if_pos ⟨rfl, rfl⟩, if_pos (by omega), ← hz]
  · rw [if_neg e]
    by_cases hl : b < y ∨ (b = y ∧ a < x)
    · rw [if_pos hl, if_pos (by omega)]
    · rw [if_neg hl, if_neg (by omega)]
theorem upTr_next (R C : Nat) (f : Nat → Nat → Int) (y : Nat) (hy : y < R) : mkM C R (upTr C f y C) = mkM C R (upTr C f (y + 1) 0) := mkM_congr fun a b ha hb => by
  simp only [upTr]
  by_cases hl : b < y + 1
  · rw [if_pos (by omega), if_pos (by omega)]
  · rw [if_neg (by omega), if_neg (by omega)]
theorem upTr_all (R C : Nat) (f : Nat → Nat → Int) : mkM C R (upTr C f R 0) = mkM C R (trM f) := mkM_congr fun a b ha hb => by
  rw [upTr, if_pos (by omega)]; rfl
def upMi (C : Nat) (f : Nat → Nat → Int) (y x a b : Nat) : Int := if a < y ∨ (a = y ∧ C - 1 - b < x) then f a (C - 1 - b) else 0
theorem upMi_zero (R C : Nat) (f : Nat → Nat → Int) : mkM R C zeroM = mkM R C (upMi C f 0 0) := mkM_congr fun a b ha hb => by rw [upMi, if_neg (by omega)]; rfl
theorem upMi_set (R C : Nat) (f : Nat → Nat → Int) (y x : Nat) (hy : y < R) (hx : x < C) (z : Int) (hz : f y x = z) :
    mkM R C (fun a b => if a = y ∧ b = C - 1 - x then z else upMi C f y x a b) = mkM R C (upMi C f y (x + 1)) := mkM_congr fun a b ha hb => by
  simp only [upMi]
  by_cases e : a = y ∧ b = C - 1 - x
  · obtain ⟨rfl, rfl⟩ := e
    rw [if_pos ⟨rfl, rfl⟩, if_pos (by omega), ← hz]; rw [show C - 1 - (C - 1 - x) = x by omega]
  · rw [if_neg e]
    by_cases hl : a < y ∨ (a = y ∧ C - 1 - b < x)
    · rw [if_pos hl, if_pos (by omega)]
    · rw [if_neg hl, if_neg (by omega)]
theorem upMi_next (R C : Nat) (f : Nat → Nat → Int) (y : Nat) (hy : y < R) : mkM R C (upMi C f y C) = mkM R C (upMi C f (y + 1) 0) := mkM_congr fun a b ha hb => by
  simp only [upMi]
  by_cases hl : a < y + 1
  · rw [if_pos (by omega), if_pos (by omega)]
  · rw [if_neg (by omega), if_neg (by omega)]
theorem upMi_all (R C : Nat) (f : Nat → Nat → Int) : mkM R C (upMi C f R 0) = mkM R C (mirM C f) := mkM_congr fun a b ha hb => by
  rw [upMi, if_pos (by omega)]; rfl
def upIn (C : Nat) (f : Nat → Nat → Int) (y x a b : Nat) : Int := if a < y ∨ (a = y ∧ b < x) then 1 - f a b else 0
theorem upIn_zero (R C : Nat) (f : Nat → Nat → Int) : mkM R C zeroM = mkM R C (upIn C f 0 0) := mkM_congr fun a b ha hb => by rw [upIn, if_neg (by omega)]; rfl
theorem upIn_set (R C : Nat) (f : Nat → Nat → Int) (y x : Nat) (hy : y < R) (hx : x < C) (z : Int) (hz : 1 - f y x = z) :
    mkM R C (fun a b => if a = y ∧ b = x then z else upIn C f y x a b) = mkM R C (upIn C f y (x + 1)) := mkM_congr fun a b ha hb => by
  simp only [upIn]
  by_cases e : a = y ∧ b = x
  · obtain ⟨rfl, rfl⟩ := e
    rw [if_pos ⟨rfl, rfl⟩, if_pos (by omega), ← hz]
  · rw [if_neg e]
    by_cases hl : a < y ∨ (a = y ∧ b < x)
    · rw [if_pos hl, if_pos (by omega)]
    · rw [if_neg hl, if_neg (by omega)]
theorem upIn_next (R C : Nat) (f : Nat → Nat → Int) (y : Nat) (hy : y < R) : mkM R C (upIn C f y C) = mkM R C (upIn C f (y + 1) 0) := mkM_congr fun a b ha hb => by
  simp only [upIn]
  by_cases hl : a < y + 1
  · rw [if_pos (by omega), if_pos (by omega)]
  · rw [if_neg (by omega), if_neg (by omega)]
theorem upIn_all (R C : Nat) (f : Nat → Nat → Int) : mkM R C (upIn C f R 0) = mkM R C (invM f) := mkM_congr fun a b ha hb => by
  rw [upIn, if_pos (by omega)]; rfl
end Go.Proofs.Ytjnnoabaepmcnaa
/-
  ColSums of both.
-/
namespace Go.Proofs.Ytjnnoabaepmcnaa
open Go.RowKit

theorem implColSums_no (v : Value) (m : List (List Int)) (w : World) (hin : InMat w v m) (h : okB m = false) :
    Calls Try.prog 16 #[v] w (IntsRes [] w) := by
  have HI := hide hin; have H := hide h
  clear hin h
  go_enter Try.func16, Try.ntmps16
  go_wp2_with fail
  refine (implTransposeOf_no v m _ HI.out H.out).mono ?_
  rintro e w1 ⟨u, rfl, ho, hb⟩
  have HM := hide (inMat_own ho); have HB := hide hb
  clear ho hb
  go_wp2_with fail
  refine (implRowSums_no u [] _ HM.out (by decide)).mono ?_
  rintro e w2 ⟨u2, rfl, ho, hb⟩
  have HO := hide (own_base ho HB.out.size); have HB2 := hide (HB.out.trans (hb.mono HB.out.size))
  clear ho hb
  go_wp2
  go_ret
  exact ⟨_, rfl, HO.out, HB2.out⟩
theorem implColSums_yes (v : Value) (R C : Nat) (f : Nat → Nat → Int) (w : World) (hin : InMat w v (mkM R C f)) (hI : Img R C f) :
    Calls Try.prog 16 #[v] w (IntsRes (rowsL C R (trM f)) w) := by
  have HI := hide hin; have H := hide hI
  clear hin hI
  go_enter Try.func16, Try.ntmps16
  go_wp2_with fail
  refine (implTransposeOf_yes v R C f _ HI.out H.out).mono ?_
  rintro e w1 ⟨u, rfl, ho, hb⟩
  have HM := hide (inMat_own ho); have HB := hide hb
  clear ho hb
  go_wp2_with fail
  refine (implRowSums_yes u C R (trM f) _ HM.out (img_tr H.out)).mono ?_
  rintro e w2 ⟨u2, rfl, ho, hb⟩
  have HO := hide (own_base ho HB.out.size); have HB2 := hide (HB.out.trans (hb.mono HB.out.size))
  clear ho hb
  go_wp2
  go_ret
  exact ⟨_, rfl, HO.out, HB2.out⟩

end Go.Proofs.Ytjnnoabaepmcnaa
/-
  PURE: what the law FnSums says of an image.
-/
namespace Go.Proofs.Ytjnnoabaepmcnaa
open Go.RowKit

theorem rowF_allS {C : Nat} {f : Nat → Int} {p : Int → Bool} : (rowF C f).all p = true ↔ ∀ x, x < C → p (f x) = true := by
  simp [rowF, List.all_eq_true]
theorem elM_mkS {R C : Nat} {f : Nat → Nat → Int} {y x : Nat} (hy : y < R) (hx : x < C) : elM (mkM R C f) y x = f y x := by rw [elM, List.getD_eq_getElem?_getD, List.getD_eq_getElem?_getD, List.getElem?_eq_getElem (show y < (mkM R C f).length by rw [mkM_len]; exact hy), Option.getD_some, mkM_at, List.getElem?_eq_getElem (by rw [rowF_len]; exact hx), Option.getD_some, rowF_at]
/-- The number of black cells. -/
def blk25 (R C : Nat) (f : Nat → Nat → Int) : Nat := cnt (fun i => imgF R C f i == 1) 25
theorem blk_le (R C : Nat) (f : Nat → Nat → Int) : blk25 R C f ≤ 25 := cnt_le _ _
theorem black_all {R C N : Nat} {f : Nat → Nat → Int} {dx dy : Int} (hn : Near dx dy) (hI : Img R C f) (hN : (N : Int) = countL R C dx dy) : (lineRow R C f dx dy N).sum = (blk25 R C f : Nat) := by
  unfold blk25
  rw [black_img hI]
  unfold lineRow
  rw [Nat.mul_comm R C]
  refine lines_total C N f (dx, dy) (C * R) fun i hi => ?_
  have h1 := hI.r1; have h2 := hI.r2; have h3 := hI.c1; have h4 := hI.c2
  have hx := Nat.mod_lt i (show C > 0 by omega)
  have hy : i / C < R := Nat.div_lt_of_lt_mul hi
  generalize i / C = Y at hy
  generalize i % C = X at hx
  obtain ⟨p1, p2, p3⟩ := lnum_range (rows := R) (cols := C) (y := Y) (x := X) hn (by omega) (by omega) (by omega) (by omega) (by omega) (by omega) (by omega) (by omega)
  refine ⟨p1, ?_⟩
  unfold countL at hN
  show lnum dx dy C Y X < N
  omega
theorem rows_sum {R C : Nat} {f : Nat → Nat → Int} (hI : Img R C f) : (rowsL R C f).sum = (blk25 R C f : Nat) := by
  rw [← lineRow_rows]
  exact black_all (near_of (show dirOk 1 0 = true by decide)) hI (countL_rows R C).symm
theorem sum_row_cnt (p : Nat → Bool) : ∀ n, (rowF n fun x => if p x = true then (1 : Int) else 0).sum = (cnt p n : Nat)
  | 0 => rfl
  | n + 1 => by
    rw [sum_rowF_succ, sum_row_cnt p n, cnt]
    split <;> simp
theorem sum_swap (f : Nat → Nat → Int) (C : Nat) : ∀ R, (rowF C fun x => (cnt (fun y => f y x == 1) R : Int)).sum = (rowF R fun y => (cnt (fun x => f y x == 1) C : Int)).sum
  | 0 => sum_rowF_zero C
  | R + 1 => by
    rw [sum_rowF_succ, ← sum_swap f C R, ← sum_row_cnt (fun x => f R x == 1) C, ← sum_rowF_add]
    refine sum_rowF_congr fun i _ => ?_
    rw [cnt]
    split <;> simp
theorem cols_sum {R C : Nat} {f : Nat → Nat → Int} (hI : Img R C f) : (rowsL C R (trM f)).sum = (blk25 R C f : Nat) := by
  rw [← rows_sum hI]
  exact sum_swap f C R
theorem rows_cell (R C : Nat) (f : Nat → Nat → Int) {i : Nat} (h : i < (rowsL R C f).length) : 0 ≤ (rowsL R C f)[i] ∧ (rowsL R C f)[i] ≤ C := by
  have e : (rowsL R C f)[i] = ((rs C f i : Nat) : Int) := rowF_at R (fun y => ((rs C f y : Nat) : Int)) i h
  have : rs C f i ≤ C := cnt_le _ _
  rw [e]
  omega
theorem rowsL_lenS (R C : Nat) (f : Nat → Nat → Int) : (rowsL R C f).length = R := rowF_len _ _
theorem img_sumsOk {R C : Nat} {f : Nat → Nat → Int} (hI : Img R C f) : sumsOk (rowsL R C f) (rowsL C R (trM f)) = true := by
  have h1 := hI.r1; have h2 := hI.r2; have h3 := hI.c1; have h4 := hI.c2
  unfold sumsOk
  rw [rowsL_lenS, rowsL_lenS, rows_sum hI, cols_sum hI, any_no (fun i hi => by
    have := rows_cell R C f hi
    unfold badB
    rw [decide_eq_false (by omega), decide_eq_false (by omega)]; rfl), any_no (fun i hi => by
    have := rows_cell C R (trM f) hi
    unfold badB
    rw [decide_eq_false (by omega), decide_eq_false (by omega)]; rfl), sizeOk, decide_eq_true (show 1 ≤ (R : Int) ∧ (R : Int) ≤ 5 by omega), decide_eq_true (show 1 ≤ (C : Int) ∧ (C : Int) ≤ 5 by omega)]
  simp
theorem rows_smallT {R C : Nat} {f : Nat → Nat → Int} (hR : R ≤ 5) (hC : C ≤ 5) : SmallT (rowsL R C f) := ⟨by rw [rowsL_lenS]; omega, fun i hi => by have := rows_cell R C f hi; omega⟩
theorem line_smallT {R C N : Nat} {f : Nat → Nat → Int} {dx dy : Int} (hR : R ≤ 5) (hC : C ≤ 5) (hN : N ≤ 41) : SmallT (lineRow R C f dx dy N) := ⟨by unfold lineRow; rw [rowF_len]; omega, fun i hi => by
  have e : (lineRow R C f dx dy N)[i] = ((cnt (onL C f (dx, dy) i) (R * C) : Nat) : Int) := rowF_at N (fun j : Nat => ((cnt (onL C f (dx, dy) j) (R * C) : Nat) : Int)) i hi
  rw [e]
  have h1 : cnt (onL C f (dx, dy) i) (R * C) ≤ R * C := cnt_le _ _
  have h2 : R * C ≤ 5 * 5 := Nat.mul_le_mul hR hC
  omega⟩
theorem img_grid {R C : Nat} {f : Nat → Nat → Int} (hI : Img R C f) : gridOkB (mkM R C f) = true := by
  have h1 := hI.r1; have h2 := hI.r2; have h3 := hI.c1; have h4 := hI.c2
  have hw := width_mkM (C := C) (f := f) (show 0 < R by omega)
  unfold gridOkB gridB
  rw [hw, mkM_len, decide_eq_true (show R ≠ 0 by omega), sizeOk, decide_eq_true (show (1 : Int) ≤ R ∧ (R : Int) ≤ 5 by omega), decide_eq_true (show (1 : Int) ≤ C ∧ (C : Int) ≤ 5 by omega)]
  rw [anyRow_no fun r hr => by
    simp only [mkM, List.mem_map] at hr
    obtain ⟨y, -, rfl⟩ := hr
    rw [rowF_len]; simp]
  simp only [Bool.and_self, Bool.not_false, Bool.true_and]
  rw [List.all_eq_true]
  intro r hr
  simp only [mkM, List.mem_map, List.mem_range] at hr
  obtain ⟨y, hy, rfl⟩ := hr
  unfold within
  rw [rowF_allS]
  intro x hx
  refine decide_eq_true ?_
  rcases hI.cell y x hy hx with e | e <;> rw [e] <;> omega
theorem img_gsL {R C N : Nat} {f : Nat → Nat → Int} {dx dy : Int} (hI : Img R C f) (hd : dirOk dx dy = true) (hN : (N : Int) = countL R C dx dy) : gsL (mkM R C f) dx dy = lineRow R C f dx dy N := by
  have h1 := hI.r1; have h3 := hI.c1
  have hw := width_mkM (C := C) (f := f) (show 0 < R by omega)
  unfold gsL
  rw [img_grid hI, hd, hw, mkM_len, show (countL R C dx dy).toNat = N by omega, ← lineRow_img hI]
  simp only [Bool.and_self, if_true]
  unfold lineRowE
  refine rowF_congr fun i _ => ?_
  rw [Nat.mul_comm]
  refine sumF_congr fun j hj => ?_
  have h1 : j / C < R := (Nat.div_lt_iff_lt_mul (by omega)).2 (by rw [Nat.mul_comm]; exact hj)
  have h2 : j % C < C := Nat.mod_lt _ (by omega)
  unfold elL
  rw [elM_mkS h1 h2]
theorem line_lenS (R C N : Nat) (f : Nat → Nat → Int) (dx dy : Int) : (lineRow R C f dx dy N).length = N := rowF_len _ _
end Go.Proofs.Ytjnnoabaepmcnaa
/-
  The images that the laws draw: l02Draw, MakeImage, MakeSized.
-/
namespace Go.Proofs.Ytjnnoabaepmcnaa
open Go.RowKit

theorem curAt_within {w w' : World} {B n : Nat} {a : Option Addr} (h : CurAt w B a n) (hb : w'.heap[B]? = w.heap[B]?) : CurAt w' B a n := by
  obtain ⟨c, i, k, h1, h2, h3⟩ := h
  exact ⟨c, i, k, by rw [hb]; exact h1, h2, h3⟩
theorem curAt_lt {w : World} {B n : Nat} {a : Option Addr} (h : CurAt w B a n) : B < w.heap.size := by
  obtain ⟨c, i, k, h1, -⟩ := h
  exact (Array.getElem?_eq_some_iff.1 h1).1
theorem curAt_below {w w' : World} {B n : Nat} {a : Option Addr} (h : CurAt w B a n) (hb : Below w.heap.size w w') : CurAt w' B a n := curAt_within h (hb.block B (curAt_lt h))
theorem ownMat_cur {w w' : World} {lo hi B : Nat} {v : Value} {m : List (List Int)} (h : OwnMat w lo hi v m) (hg : w.grownBy w' (some B)) (hB : B < lo) : OwnMat w' lo hi v m :=
  ownMat_within h (within_grown (lo := B) (hi := B + 1) hg fun k hk => by cases hk; exact ⟨Nat.le_refl _, Nat.lt_succ_self _⟩) (.inr hB)
theorem grown_undrew {w w' : World} {row : Option Nat} (h : w.drew.grownBy w' row) : w.grownBy w' row := ⟨h.os, h.tape, h.output, h.size, h.block⟩
theorem cells_kept {w w' : World} {B gv y gr x : Nat} {u z : Value} (h : w.drew.grownBy w' (some B)) (h1 : w.cell? ⟨gv, y, none⟩ = some u) (h2 : w.cell? ⟨gr, x, none⟩ = some z) (h3 : w.frozen? ⟨gr, x, none⟩ = false) (n1 : gv ≠ B) (n2 : gr ≠ B) :
    w'.cell? ⟨gv, y, none⟩ = some u ∧ w'.cell? ⟨gr, x, none⟩ = some z ∧ w'.frozen? ⟨gr, x, none⟩ = false := by
  have hg := grown_undrew h
  refine ⟨hg.cell h1 (by simpa using n1), hg.cell h2 (by simpa using n2), ?_⟩
  have hlt : gr < w.heap.size := World.block_lt_of_cell? w _ h2
  rw [World.frozen?_of_block (w := w) (a := ⟨gr, x, none⟩) (hg.block gr hlt (by simpa using n2))]; exact h3
theorem img_upd {R C : Nat} {f : Nat → Nat → Int} (h : Img R C f) (y x : Nat) {z : Int} (hz : z = 0 ∨ z = 1) : Img R C fun a b => if a = y ∧ b = x then z else f a b :=
  ⟨h.r1, h.r2, h.c1, h.c2, fun a b ha hb => by
    show (if a = y ∧ b = x then z else f a b) = 0 ∨ (if a = y ∧ b = x then z else f a b) = 1
    split
    · exact hz
    · exact h.cell a b ha hb⟩

theorem ownMat_apart {w : World} {lo hi g n c g' n' c' : Nat} {m : List (List Int)} (h : OwnMat w lo hi (.slice (some ⟨g, 0, none⟩) n c) m) (i : Nat) (h' : i < m.length) (hc : w.cell? ⟨g, i, none⟩ = some (.slice (some ⟨g', 0, none⟩) n' c')) : g ≠ g' := by
  obtain ⟨vs, ho, -, hr, -⟩ := h
  have hn : n = m.length := by
    rcases ho.2 with ⟨e, _⟩ | ⟨g2, cap, cur, e, _⟩
    · cases e
    · cases e; rfl
  subst hn
  have h1 := cell_held ho h'
  rw [hc, Option.some.injEq] at h1
  rcases own_types ho (hr i h').1 (by decide) with e | e
  · cases e
  · rw [← h1] at e
    simpa [Value.ownBlock] using e
/-- What the laws draw: some image; the cursor in its place; nothing below it touched. -/
def DrawnImg (w : World) (B : Nat) (a : Option Addr) (n : Nat) (e : Ending) (w' : World) : Prop :=
  ∃ (v : Value) (R C : Nat) (f : Nat → Nat → Int), e = .returned v ∧ Img R C f ∧ OwnMat w' w.heap.size w'.heap.size v (mkM R C f) ∧ CurAt w' B a n ∧ Below B w w'

/-- And it is of the size asked. -/
def DrawnMost (most : Nat) (w : World) (B : Nat) (a : Option Addr) (n : Nat) (e : Ending) (w' : World) : Prop :=
  ∃ (v : Value) (R C : Nat) (f : Nat → Nat → Int), e = .returned v ∧ Img R C f ∧ (R ≤ most ∧ C ≤ most) ∧ OwnMat w' w.heap.size w'.heap.size v (mkM R C f) ∧ CurAt w' B a n ∧ Below B w w'
set_option maxRecDepth 100000 in
set_option maxHeartbeats 1000000 in
theorem l02Draw_most (B n : Nat) (a : Option Addr) (most : Nat) (w : World) (base : Nat) (hm0 : 1 ≤ most) (hm1 : most ≤ 5) (hc : CurAt w B a n) (hin : InBytes w base a n) (hbase : base ≤ B) :
    Calls Try.prog 28 #[.pointer (some ⟨B, 0, none⟩), .int .i64 most] w (DrawnMost most w B a n) := by
  have HC := hide hc; have HI := hide hin
  have hBw := curAt_lt hc
  clear hc hin
  go_enter Try.func28, Try.ntmps28
  go_wp2_with fail
  refine (l01Below_any B n a most _ base (by omega) (by omega) HC.out HI.out hbase).mono ?_
  rintro e w1 ⟨x1, hx10, hx11, rfl, hc1, hg1⟩
  have HC1 := hide hc1; have HI1 := hide (inBytes_grown HI.out hg1 hbase); have HG1 := hide hg1
  clear hc1 hg1
  go_wp2_with fail
  refine (l01Below_any B n a most _ base (by omega) (by omega) HC1.out HI1.out hbase).mono ?_
  rintro e w2 ⟨x2, hx20, hx21, rfl, hc2, hg2⟩
  have HC2 := hide hc2; have HI2 := hide (inBytes_grown HI1.out hg2 hbase); have HG2 := hide (grown_trans HG1.out hg2)
  clear hc2 hg2
  obtain ⟨R, hR⟩ : ∃ R : Nat, 1 + x1 = R := ⟨(1 + x1).toNat, by omega⟩
  obtain ⟨C, hC⟩ : ∃ C : Nat, 1 + x2 = C := ⟨(1 + x2).toNat, by omega⟩
  have HMOST : Hid (R ≤ most ∧ C ≤ most) := hide (by omega)
  have hR5 : 1 ≤ R ∧ R ≤ 5 := by omega
  have hC5 : 1 ≤ C ∧ C ≤ 5 := by omega
  obtain rfl : x1 = R - 1 := by omega
  obtain rfl : x2 = C - 1 := by omega
  have k1 : 1 + ((R : Int) - 1) = R := by omega
  have k2 : 1 + ((C : Int) - 1) = C := by omega
  clear hR hC
  go_wp2_with fail
  refine (l02Empty_any R C _ hR5.2 hC5.2).mono ?_
  rintro e w3 ⟨v3, rfl, o3, b3⟩
  clear k1 k2
  obtain ⟨gv, cv, rfl⟩ := ownMat_some o3 (by rw [mkM_len]; omega)
  rw [mkM_len] at *
  have hs2 := HG2.out.size
  have B3 := hide ((grown_below HG2.out (fun k hk => by cases hk; exact Nat.le_refl B) (by omega) : Below B w w2).trans (b3.mono (by omega)))
  have C3 := hide (curAt_below HC2.out b3)
  have I3 := hide (inBytes_below HI2.out (b3.mono (by have := HI2.out.2.1; omega)))
  have O3 := hide (ownMat_mono o3 hs2 (Nat.le_refl _))
  have IM3 := hide (img_zero hR5 hC5)
  obtain ⟨hi, hhi⟩ : ∃ hi, hi = w3.heap.size := ⟨_, rfl⟩
  have hge : hi ≤ w3.heap.size := by omega
  rw [← hhi] at O3
  clear HG2 HC2 HI2 HC1 HI1 HG1 o3 b3 hhi
  go_wp2
  go_loopw [19] (fun i w' => ∃ (y : Nat) (f : Nat → Nat → Int), y ≤ R ∧ i = .int .i64 y ∧ Img R C f ∧ hi ≤ w'.heap.size ∧ OwnMat w' w.heap.size hi (.slice (some ⟨gv, 0, none⟩) R cv) (mkM R C f) ∧ CurAt w' B a n ∧ InBytes w' base a n ∧ Below B w w') (fun i _ => R - (intOf i).toNat)
  case atStart => exact ⟨0, zeroM, by omega, rfl, IM3.out, hge, O3.out, C3.out, I3.out, B3.out⟩
  case round =>
    clear B3 C3 I3 O3 IM3 hge
    obtain ⟨y, f, hy, rfl, him, hhi, hown, hcu, hib, hb⟩ := hrel
    have HM := hide him; have HO := hide hown; have HCu := hide hcu; have HIB := hide hib; have HB := hide hb
    clear him hown hcu hib hb
    by_cases hlt : y < R
    · have hyI : (y : Int) < R := by omega
      obtain ⟨g0, c0, hrow0, -⟩ := ownMat_cell HO.out y 0 hlt (by omega)
      go_wp2
      clear hrow0
      go_loopw [27] (fun i w' => ∃ (x : Nat) (f : Nat → Nat → Int), x ≤ C ∧ i = .int .i64 x ∧ Img R C f ∧ hi ≤ w'.heap.size ∧ OwnMat w' w.heap.size hi (.slice (some ⟨gv, 0, none⟩) R cv) (mkM R C f) ∧ CurAt w' B a n ∧ InBytes w' base a n ∧ Below B w w') (fun i _ => C - (intOf i).toNat)
      case atStart => exact ⟨0, f, by omega, rfl, HM.out, hhi, HO.out, HCu.out, HIB.out, HB.out⟩
      case round =>
        clear HM HO HCu HIB HB hhi f
        obtain ⟨x, f, hx, rfl, him, hhi, hown, hcu, hib, hb⟩ := hrel
        have HM := hide him; have HO := hide hown; have HCu := hide hcu; have HIB := hide hib; have HB := hide hb
        clear him hown hcu hib hb
        by_cases hlx : x < C
        · have hxI : (x : Int) < C := by omega
          obtain ⟨gr, cr, hrow, hcl, hfr, hlo, hgh, -⟩ := ownMat_cell HO.out y x hlt hlx
          have hgv : gv ≠ B := by
            obtain ⟨vs, hvs, -⟩ := HO.out
            have := (hvs.lt gv rfl).1; omega
          have HK : Hid (∀ w5, CurAt w5 B a n → wr.drew.grownBy w5 (some B) → w5.cell? ⟨gv, y, none⟩ = some (.slice (some ⟨gr, 0, none⟩) C cr) ∧ w5.cell? ⟨gr, x, none⟩ = some (.int .i64 (f y x)) ∧ w5.frozen? ⟨gr, x, none⟩ = false) := hide fun w5 hc hg => cells_kept hg hrow hcl hfr hgv (by omega)
          have hgg : gv ≠ gr := ownMat_apart HO.out y (by rw [mkM_len]; exact hlt) hrow
          have HCd : Hid (CurAt wr.drew B a n) := hide HCu.out
          have HId : Hid (InBytes wr.drew base a n) := hide HIB.out
          go_wp2
          go_region_held3 (fun w' => w'.cell? ⟨gv, y, none⟩ = some (.slice (some ⟨gr, 0, none⟩) C cr))
            (first | exact hrow | exact k1 | exact HKS.out)
            (first | (go_at_call 32; refine (l01Below_any B n a 2 _ base (by omega) (by omega) HCd.out HId.out hbase).mono ?_; rintro e w5 ⟨z, hz0, hz1, rfl, hc5, hg5⟩; obtain ⟨k1, k2, k3⟩ := HK.out w5 hc5 hg5; have HZ : Hid (z = 0 ∨ z = 1) := hide (by omega); have HKS : Hid ((w5.setCell ⟨gr, x, none⟩ (.int .i64 z)).cell? ⟨gv, y, none⟩ = some (.slice (some ⟨gr, 0, none⟩) C cr)) := hide (by rw [World.cell?_setCell_other _ _ _ _ (fun e => hgg (congrArg Addr.block e).symm)]; exact k1); replace hc5 := hide hc5; replace hg5 := hide hg5))
          go_wp2
          go_roundw
          case rel =>
            have hg := grown_undrew hg5.out
            have ho5 := ownMat_cur HO.out hg (by omega)
            obtain ⟨g7, c7, hrow7, -, -, -, -, hset⟩ := ownMat_cell ho5 y x hlt hlx
            rw [k1] at hrow7
            simp only [Option.some.injEq, Value.slice.injEq, Addr.mk.injEq] at hrow7
            obtain ⟨⟨rfl, -, -⟩, -, -⟩ := hrow7
            exact ⟨x + 1, _, by omega, by go_num, img_upd HM.out y x HZ.out, (by have := hg.size; simp [World.setCell]; omega), hset z, curAt_within hc5.out (heap_setCell_other _ _ _ _ (by show B ≠ gr; omega)), inBytes_below (inBytes_grown HIB.out hg hbase) ((Below.refl _ _).setCell (by show base ≤ gr; omega) _), (HB.out.trans (grown_below hg (fun k hk => by cases hk; exact Nat.le_refl _) (by have := curAt_lt HCu.out; omega))).setCell (by show B ≤ gr; omega) _⟩
          case measure => simp [intOf]; omega
        · obtain rfl : x = C := by omega
          go_wp2
          go_roundw
          case rel => exact ⟨y + 1, f, by omega, by go_num, HM.out, hhi, HO.out, HCu.out, HIB.out, HB.out⟩
          case measure => simp [intOf]; omega
    · obtain rfl : y = R := by omega
      go_wp2
      go_ret
      exact ⟨_, y, C, f, rfl, HM.out, HMOST.out, ownMat_mono HO.out (Nat.le_refl _) hhi, HCu.out, HB.out⟩

theorem l02Draw_any (B n : Nat) (a : Option Addr) (most : Nat) (w : World) (base : Nat) (hm0 : 1 ≤ most) (hm1 : most ≤ 5) (hc : CurAt w B a n) (hin : InBytes w base a n) (hbase : base ≤ B) :
    Calls Try.prog 28 #[.pointer (some ⟨B, 0, none⟩), .int .i64 most] w (DrawnImg w B a n) :=
  (l02Draw_most B n a most w base hm0 hm1 hc hin hbase).mono fun _ _ ⟨v, R, C, f, h1, h2, _, h3, h4, h5⟩ => ⟨v, R, C, f, h1, h2, h3, h4, h5⟩

/-- What the laws' makers answer: some image. -/
def MadeImg (w : World) (e : Ending) (w' : World) : Prop := ∃ (v : Value) (R C : Nat) (f : Nat → Nat → Int), e = .returned v ∧ Img R C f ∧ OwnMat w' w.heap.size w'.heap.size v (mkM R C f) ∧ Below w.heap.size w w'
set_option maxHeartbeats 400000 in
theorem makeImage_any (n c : Nat) (a : Option Addr) (m : Nat) (w : World) (base : Nat) (hin : InBytes w base a n) (hn : n ≤ 2000000) (hm : m ≤ 1000) :
    Calls Try.prog 6 #[.slice a n c, .int .i64 m, .int .i64 5] w (MadeImg w) := by
  have HI := hide hin
  clear hin
  go_enter Try.func6, Try.ntmps6
  go_wp2_with fail
  refine (l18New_any n c a m _ base HI.out hn hm).mono ?_
  rintro e w1 ⟨rfl, hc, hb, hlt⟩
  have HC := hide hc; have HB := hide hb; have hs1 := hb.size
  have HI1 := hide (inBytes_below HI.out (hb.mono HI.out.2.1))
  clear hc hb
  go_wp2_with fail
  refine (l02Draw_any _ n a 5 _ base (by omega) (by omega) HC.out HI1.out HI.out.2.1).mono ?_
  rintro e w2 ⟨v, R, C, f, rfl, him, ho, -, hb⟩
  have HIM := hide him; have HO := hide (ownMat_mono ho hs1 (Nat.le_refl _)); have HB2 := hide (HB.out.trans hb)
  clear him ho hb
  go_wp2
  go_ret
  exact ⟨v, R, C, f, rfl, HIM.out, HO.out, HB2.out⟩

/-- What MakeSized answers: an image of the size asked. -/
def SizedImg (R C : Nat) (w : World) (e : Ending) (w' : World) : Prop := ∃ (v : Value) (f : Nat → Nat → Int), e = .returned v ∧ Img R C f ∧ OwnMat w' w.heap.size w'.heap.size v (mkM R C f) ∧ Below w.heap.size w w'
set_option maxRecDepth 100000 in
set_option maxHeartbeats 1000000 in
theorem makeSized_any (n c : Nat) (a : Option Addr) (m R C : Nat) (w : World) (base : Nat) (hin : InBytes w base a n) (hn : n ≤ 2000000) (hm : m ≤ 1000) (hR5 : 1 ≤ R ∧ R ≤ 5) (hC5 : 1 ≤ C ∧ C ≤ 5) :
    Calls Try.prog 24 #[.slice a n c, .int .i64 m, .int .i64 R, .int .i64 C] w (SizedImg R C w) := by
  have HI := hide hin
  have hbase := hin.2.1
  clear hin
  go_enter Try.func24, Try.ntmps24
  go_wp2_with fail
  refine (l18New_any n c a m _ base HI.out hn hm).mono ?_
  rintro e w0 ⟨rfl, hc, hb, hBw⟩
  have HC0 := hide hc; have HB0 := hide hb; have HI0 := hide (inBytes_below HI.out (hb.mono HI.out.2.1))
  clear hc hb HI
  obtain ⟨B, hB⟩ : ∃ B, w.heap.size = B := ⟨_, rfl⟩
  rw [hB] at HC0 HB0 hBw hbase ⊢
  have HEB := hide hB
  clear hB
  go_wp2_with fail
  rw [show max (1 : Int) (min (R : Int) 5) = R by omega, show max (1 : Int) (min (C : Int) 5) = C by omega]
  refine (l02Empty_any R C _ hR5.2 hC5.2).mono ?_
  rintro e w3 ⟨v3, rfl, o3, b3⟩
  obtain ⟨gv, cv, rfl⟩ := ownMat_some o3 (by rw [mkM_len]; omega)
  rw [mkM_len] at *
  have B3 := hide (HB0.out.trans (b3.mono (by omega)))
  have C3 := hide (curAt_below HC0.out b3)
  have I3 := hide (inBytes_below HI0.out (b3.mono (by omega)))
  have O3 := hide o3
  have IM3 := hide (img_zero hR5 hC5)
  obtain ⟨hi, hhi⟩ : ∃ hi, hi = w3.heap.size := ⟨_, rfl⟩
  have hge : hi ≤ w3.heap.size := by omega
  rw [← hhi] at O3
  clear HC0 HI0 o3 b3 hhi
  go_wp2
  go_loopw [25] (fun i w' => ∃ (y : Nat) (f : Nat → Nat → Int), y ≤ R ∧ i = .int .i64 y ∧ Img R C f ∧ hi ≤ w'.heap.size ∧ OwnMat w' w0.heap.size hi (.slice (some ⟨gv, 0, none⟩) R cv) (mkM R C f) ∧ CurAt w' B a n ∧ InBytes w' base a n ∧ Below B w w') (fun i _ => R - (intOf i).toNat)
  case atStart => exact ⟨0, zeroM, by omega, rfl, IM3.out, hge, O3.out, C3.out, I3.out, B3.out⟩
  case round =>
    clear B3 C3 I3 O3 IM3 hge
    obtain ⟨y, f, hy, rfl, him, hhi, hown, hcu, hib, hb⟩ := hrel
    have HM := hide him; have HO := hide hown; have HCu := hide hcu; have HIB := hide hib; have HB := hide hb
    clear him hown hcu hib hb
    by_cases hlt : y < R
    · have hyI : (y : Int) < R := by omega
      obtain ⟨g0, c0, hrow0, -⟩ := ownMat_cell HO.out y 0 hlt (by omega)
      go_wp2
      clear hrow0
      go_loopw [33] (fun i w' => ∃ (x : Nat) (f : Nat → Nat → Int), x ≤ C ∧ i = .int .i64 x ∧ Img R C f ∧ hi ≤ w'.heap.size ∧ OwnMat w' w0.heap.size hi (.slice (some ⟨gv, 0, none⟩) R cv) (mkM R C f) ∧ CurAt w' B a n ∧ InBytes w' base a n ∧ Below B w w') (fun i _ => C - (intOf i).toNat)
      case atStart => exact ⟨0, f, by omega, rfl, HM.out, hhi, HO.out, HCu.out, HIB.out, HB.out⟩
      case round =>
        clear HM HO HCu HIB HB hhi f
        obtain ⟨x, f, hx, rfl, him, hhi, hown, hcu, hib, hb⟩ := hrel
        have HM := hide him; have HO := hide hown; have HCu := hide hcu; have HIB := hide hib; have HB := hide hb
        clear him hown hcu hib hb
        by_cases hlx : x < C
        · have hxI : (x : Int) < C := by omega
          obtain ⟨gr, cr, hrow, hcl, hfr, hlo, hgh, -⟩ := ownMat_cell HO.out y x hlt hlx
          have hgv : gv ≠ B := by
            obtain ⟨vs, hvs, -⟩ := HO.out
            have := (hvs.lt gv rfl).1; omega
          have HK : Hid (∀ w5, CurAt w5 B a n → wr.drew.grownBy w5 (some B) → w5.cell? ⟨gv, y, none⟩ = some (.slice (some ⟨gr, 0, none⟩) C cr) ∧ w5.cell? ⟨gr, x, none⟩ = some (.int .i64 (f y x)) ∧ w5.frozen? ⟨gr, x, none⟩ = false) := hide fun w5 hc hg => cells_kept hg hrow hcl hfr hgv (by omega)
          have hgg : gv ≠ gr := ownMat_apart HO.out y (by rw [mkM_len]; exact hlt) hrow
          have HCd : Hid (CurAt wr.drew B a n) := hide HCu.out
          have HId : Hid (InBytes wr.drew base a n) := hide HIB.out
          go_wp2
          go_region_held3 (fun w' => w'.cell? ⟨gv, y, none⟩ = some (.slice (some ⟨gr, 0, none⟩) C cr))
            (first | exact hrow | exact k1 | exact HKS.out)
            (first | (go_at_call 32; refine (l01Below_any B n a 2 _ base (by omega) (by omega) HCd.out HId.out hbase).mono ?_; rintro e w5 ⟨z, hz0, hz1, rfl, hc5, hg5⟩; obtain ⟨k1, k2, k3⟩ := HK.out w5 hc5 hg5; have HZ : Hid (z = 0 ∨ z = 1) := hide (by omega); have HKS : Hid ((w5.setCell ⟨gr, x, none⟩ (.int .i64 z)).cell? ⟨gv, y, none⟩ = some (.slice (some ⟨gr, 0, none⟩) C cr)) := hide (by rw [World.cell?_setCell_other _ _ _ _ (fun e => hgg (congrArg Addr.block e).symm)]; exact k1); replace hc5 := hide hc5; replace hg5 := hide hg5))
          go_wp2
          go_roundw
          case rel =>
            have hg := grown_undrew hg5.out
            have ho5 := ownMat_cur HO.out hg (by omega)
            obtain ⟨g7, c7, hrow7, -, -, -, -, hset⟩ := ownMat_cell ho5 y x hlt hlx
            rw [k1] at hrow7
            simp only [Option.some.injEq, Value.slice.injEq, Addr.mk.injEq] at hrow7
            obtain ⟨⟨rfl, -, -⟩, -, -⟩ := hrow7
            exact ⟨x + 1, _, by omega, by go_num, img_upd HM.out y x HZ.out, (by have := hg.size; simp [World.setCell]; omega), hset z, curAt_within hc5.out (heap_setCell_other _ _ _ _ (by show B ≠ gr; omega)), inBytes_below (inBytes_grown HIB.out hg hbase) ((Below.refl _ _).setCell (by show base ≤ gr; omega) _), (HB.out.trans (grown_below hg (fun k hk => by cases hk; exact Nat.le_refl _) (by have := curAt_lt HCu.out; omega))).setCell (by show B ≤ gr; omega) _⟩
          case measure => simp [intOf]; omega
        · obtain rfl : x = C := by omega
          go_wp2
          go_roundw
          case rel => exact ⟨y + 1, f, by omega, by go_num, HM.out, hhi, HO.out, HCu.out, HIB.out, HB.out⟩
          case measure => simp [intOf]; omega
    · obtain rfl : y = R := by omega
      go_wp2
      go_ret
      exact ⟨_, f, rfl, HM.out, ownMat_mono HO.out (by have := HB0.out.size; exact this) hhi, by rw [HEB.out]; exact HB.out⟩

end Go.Proofs.Ytjnnoabaepmcnaa
/-
  One of a list's numbers is drawn.
-/
namespace Go.Proofs.Ytjnnoabaepmcnaa
open Go.RowKit

set_option maxHeartbeats 400000 in
theorem l01Pick_any (B n : Nat) (a : Option Addr) (g len cap : Nat) (l : List Int) (hln : len = l.length) (w : World) (base : Nat) (hc : CurAt w B a n) (hin : InBytes w base a n) (hbase : base ≤ B) (h1 : 1 ≤ l.length ∧ l.length ≤ 100) (hg : g ≠ B) (hlt : g < w.heap.size)
    (hl : ∀ i, (h : i < l.length) → w.cell? ⟨g, i, none⟩ = some (.int .i64 l[i])) :
    Calls Try.prog 62 #[.pointer (some ⟨B, 0, none⟩), .slice (some ⟨g, 0, none⟩) len cap] w fun e w' => ∃ z, z ∈ l ∧ e = .returned (.int .i64 z) ∧ CurAt w' B a n ∧ w.grownBy w' (some B) := by
  have HC := hide hc; have HI := hide hin; have HL := hide hl
  obtain ⟨k, rfl⟩ : ∃ k, k = len := ⟨_, rfl⟩
  have HK := hide hln
  rw [← hln] at h1
  obtain ⟨h1a, h1b⟩ := h1
  clear hc hin hl hln
  go_enter Try.func62, Try.ntmps62
  go_wp2_with fail
  refine (l01Below_any B n a k _ base (by omega) (by omega) HC.out HI.out hbase).mono ?_
  rintro e w1 ⟨x, hx0, hx1, rfl, hc1, hg1⟩
  obtain ⟨j, rfl⟩ : ∃ j : Nat, x = j := ⟨x.toNat, by omega⟩
  have hj : j < k := by omega
  have hjl : j < l.length := by rw [← HK.out]; exact hj
  have hcell : w1.cell? ⟨g, j, none⟩ = some (.int .i64 l[j]) := (World.cell?_of_block (hg1.block g hlt (by simp; omega))).trans (HL.out j hjl)
  have HMEM := hide (show l[j] ∈ l from List.getElem_mem hjl)
  obtain ⟨z, hz⟩ : ∃ z, z = l[j] := ⟨_, rfl⟩
  rw [← hz] at hcell HMEM
  have HC1 := hide hc1; have HG1 := hide hg1
  clear hc1 hg1 hz hx0 hx1
  go_wp2
  go_ret
  exact ⟨z, HMEM.out, rfl, HC1.out, HG1.out⟩
end Go.Proofs.Ytjnnoabaepmcnaa
/-
  Directions that are drawn, of the model.
-/
namespace Go.Proofs.Ytjnnoabaepmcnaa
open Go.RowKit
set_option maxRecDepth 100000

theorem exec_storeDr {ρ : Operand → Value} {o : Oper} {w : World} {x y : Operand} {g : Nat} {r0 c0 : Int} (r c : Int) (ho : o.op = .store 29 x y) (hx : ρ x = .pointer (some ⟨g, 0, none⟩)) (hy : ρ y = .agg #[.int .i64 r, .int .i64 c]) (hb : DirAt w g r0 c0) :
    ∃ w', (execOp ρ o).run Try.prog w = .ok .skip w' ∧ DirAt w' g r c ∧ w.grownBy w' (some g) ∧ w'.heap.size = w.heap.size := by
  unfold execOp
  simp only [ho, hx, hy, Instr.storeAt, Instr.sureAddr, Sem.run_bind, Sem.run_pure, Result.andThen_ok, run_storeVar_row w g 29 29 #[.int .i64 r0, .int .i64 c0] #[.int .i64 r, .int .i64 c] hb (by rw [Try.sizeDir]; rfl) rfl (by simp [Value.oneCell'])]
  exact ⟨_, rfl, setRow_heap w g _ _ _ (0, 0) hb, ⟨rfl, rfl, rfl, by simp, fun k hk hr => setRow_other w g k _ (fun e => hr (by rw [e]))⟩, by simp⟩
theorem wpList_storeDr {ops : Array Oper} {rest : List Oper} {o : Oper} {a : Act} {Q : Exit → Act → World → Prop} {W : World} {g : Nat} {r0 c0 : Int} (hb : DirAt W g r0 c0) (r c : Int)
    (hgd : o.guard = none) (x y : Operand) (ho : o.op = .store 29 x y) (hx : a.eval x = .pointer (some ⟨g, 0, none⟩)) (hy : a.eval y = .agg #[.int .i64 r, .int .i64 c])
    (h : ∀ w', DirAt w' g r c → W.grownBy w' (some g) → w'.heap.size = W.heap.size → wpList Try.prog ops Q rest (a.put o.dst undef) w') : wpList Try.prog ops Q (o :: rest) a W := by
  refine wpList_plain hgd fun K hK => ?_
  obtain ⟨w', h1, h2, h3, h4⟩ := exec_storeDr (ρ := a.eval) r c ho hx hy hb
  unfold Oper.wp
  rw [h1]
  exact hK _ _ (h w' h2 h3 h4)
theorem sixGrown {w wb w3 w4 w5 : World} {B g : Nat} (h1 : Below w.heap.size w wb) (h2 : wb.grownBy w3 (some B)) (h3 : Below w3.heap.size w3 w4) (h4 : w4.grownBy w5 (some g)) (hg : w.heap.size ≤ g) : w.grownBy w5 (some B) := by
  have s1 := h1.size; have s2 := h2.size; have s3 := h3.size
  refine ⟨?_, ?_, ?_, ?_, fun k hk hne => ?_⟩
  · rw [h4.os, h3.os, h2.os, h1.os]
  · rw [h4.tape, h3.tape, h2.tape, h1.tape]
  · rw [h4.output, h3.output, h2.output, h1.output]
  · have := h4.size; omega
  · rw [h4.block k (by omega) (by simp; omega), h3.block k (by omega), h2.block k (by omega) hne, h1.block k (by omega)]
/-- The six directions that are drawn. -/
def sixD : List (Int × Int) := [(1, 0), (0, 1), (1, 1), (1, -1), (2, 1), (1, 2)]
set_option maxHeartbeats 2000000 in
theorem l03Direction_any (B n : Nat) (a : Option Addr) (w : World) (base : Nat) (hc : CurAt w B a n) (hin : InBytes w base a n) (hbase : base ≤ B) :
    Calls Try.prog 33 #[.pointer (some ⟨B, 0, none⟩)] w fun e w' => ∃ d : Int × Int, d ∈ sixD ∧ e = .returned (.agg #[.int .i64 d.1, .int .i64 d.2]) ∧ CurAt w' B a n ∧ w.grownBy w' (some B) := by
  have hBw := curAt_lt hc
  obtain ⟨wa, hwa⟩ : ∃ wa, wa = w.alloc (.cells #[.int .i64 0, .int .i64 0] 29) := ⟨_, rfl⟩
  obtain ⟨wb, hwb⟩ : ∃ wb, wb = wa.alloc (.cells #[.int .i64 0, .int .i64 1, .int .i64 2, .int .i64 3, .int .i64 4, .int .i64 5] 3) := ⟨_, rfl⟩
  have za : wa.heap.size = w.heap.size + 1 := by rw [hwa]; simp
  have zb : wb.heap.size = w.heap.size + 2 := by rw [hwb]; simp [za]
  have hba : Below w.heap.size w wa := by rw [hwa]; exact (Below.refl _ _).alloc (Nat.le_refl _) _
  have hbb : Below wa.heap.size wa wb := by rw [hwb]; exact (Below.refl _ _).alloc (Nat.le_refl _) _
  have hbab := hba.trans (hbb.mono hba.size)
  have HD0 := hide (dirAt_below (show DirAt wa w.heap.size 0 0 by rw [hwa]; exact heap_alloc_new w _) hbb)
  have HCB := hide (curAt_below hc hbab); have HIB := hide (inBytes_below hin (hbab.mono (by omega)))
  have HCL : Hid (∀ i, (h : i < [(0 : Int), 1, 2, 3, 4, 5].length) → wb.cell? ⟨wa.heap.size, i, none⟩ = some (.int .i64 [(0 : Int), 1, 2, 3, 4, 5][i])) := hide fun i h => by
    rw [hwb, World.cell?_alloc_new]
    have : i < 6 := h
    rcases i with _ | _ | _ | _ | _ | _ | i
    all_goals first | rfl | omega
  have HPK := hide (l01Pick_any B n a wa.heap.size 6 6 [0, 1, 2, 3, 4, 5] rfl wb base HCB.out HIB.out hbase (by simp) (by omega) (by omega) HCL.out)
  have HBAB := hide hbab
  rw [za] at HPK
  have HWB : Hid (wb = (w.alloc (.cells #[.int .i64 0, .int .i64 0] 29)).alloc (.cells #[.int .i64 0, .int .i64 1, .int .i64 2, .int .i64 3, .int .i64 4, .int .i64 5] 3)) := hide (by rw [hwb, hwa])
  have HZB := hide zb
  clear hc hin hwa hwb za zb hba hbb hbab HCL
  go_enter Try.func33, Try.ntmps33
  go_wp2_with fail
  rw [← HWB.out]
  refine HPK.out.mono ?_
  rintro e w3 ⟨z, hz, rfl, hc3, hg3⟩
  have HC3 := hide hc3; have HG3 := hide hg3
  have HD3 := hide (show DirAt w3 w.heap.size 0 0 by unfold DirAt; rw [hg3.block _ (Array.getElem?_eq_some_iff.1 HD0.out).1 (by simp; omega)]; exact HD0.out)
  have HD4 := hide fun o : Obj => dirAt_below HD3.out ((Below.refl w3.heap.size w3).alloc (Nat.le_refl _) o)
  have HAL := hide ((Below.refl w3.heap.size w3).alloc (Nat.le_refl _) (.cells #[.int .i64 1, .int .i64 0, .int .i64 0, .int .i64 1, .int .i64 1, .int .i64 1, .int .i64 1, .int .i64 (-1), .int .i64 2, .int .i64 1, .int .i64 1, .int .i64 2] 29))
  clear hc3 hg3 HWB
  simp only [List.mem_cons, List.not_mem_nil, or_false] at hz
  rcases hz with rfl | rfl | rfl | rfl | rfl | rfl
  · go_wp2_with (with_reducible refine wpList_storeDr (HD4.out _) _ _ rfl _ _ rfl rfl rfl ?_; intro w4 hd4 hg4 hz4)
    obtain ⟨q0, q1⟩ := drC_at hd4
    simp only at q0 q1
    refine bodyPost_ret (v := .agg #[.int .i64 (1), .int .i64 (0)]) ?_ rfl ⟨(1, 0), by simp [sixD], rfl, ?_, sixGrown HBAB.out HG3.out HAL.out hg4 (Nat.le_refl _)⟩
    · simp [results, Try.results33, go_sem, q0, q1]
    · have s3 := HG3.out.size
      have s2 := HBAB.out.size
      exact curAt_within HC3.out (by rw [hg4.block B (by simp; omega) (by simp; omega), HAL.out.block B (by omega)])
  · go_wp2_with (with_reducible refine wpList_storeDr (HD4.out _) _ _ rfl _ _ rfl rfl rfl ?_; intro w4 hd4 hg4 hz4)
    obtain ⟨q0, q1⟩ := drC_at hd4
    simp only at q0 q1
    refine bodyPost_ret (v := .agg #[.int .i64 (0), .int .i64 (1)]) ?_ rfl ⟨(0, 1), by simp [sixD], rfl, ?_, sixGrown HBAB.out HG3.out HAL.out hg4 (Nat.le_refl _)⟩
    · simp [results, Try.results33, go_sem, q0, q1]
    · have s3 := HG3.out.size
      have s2 := HBAB.out.size
      exact curAt_within HC3.out (by rw [hg4.block B (by simp; omega) (by simp; omega), HAL.out.block B (by omega)])
  · go_wp2_with (with_reducible refine wpList_storeDr (HD4.out _) _ _ rfl _ _ rfl rfl rfl ?_; intro w4 hd4 hg4 hz4)
    obtain ⟨q0, q1⟩ := drC_at hd4
    simp only at q0 q1
    refine bodyPost_ret (v := .agg #[.int .i64 (1), .int .i64 (1)]) ?_ rfl ⟨(1, 1), by simp [sixD], rfl, ?_, sixGrown HBAB.out HG3.out HAL.out hg4 (Nat.le_refl _)⟩
    · simp [results, Try.results33, go_sem, q0, q1]
    · have s3 := HG3.out.size
      have s2 := HBAB.out.size
      exact curAt_within HC3.out (by rw [hg4.block B (by simp; omega) (by simp; omega), HAL.out.block B (by omega)])
  · go_wp2_with (with_reducible refine wpList_storeDr (HD4.out _) _ _ rfl _ _ rfl rfl rfl ?_; intro w4 hd4 hg4 hz4)
    obtain ⟨q0, q1⟩ := drC_at hd4
    simp only at q0 q1
    refine bodyPost_ret (v := .agg #[.int .i64 (1), .int .i64 (-1)]) ?_ rfl ⟨(1, -1), by simp [sixD], rfl, ?_, sixGrown HBAB.out HG3.out HAL.out hg4 (Nat.le_refl _)⟩
    · simp [results, Try.results33, go_sem, q0, q1]
    · have s3 := HG3.out.size
      have s2 := HBAB.out.size
      exact curAt_within HC3.out (by rw [hg4.block B (by simp; omega) (by simp; omega), HAL.out.block B (by omega)])
  · go_wp2_with (with_reducible refine wpList_storeDr (HD4.out _) _ _ rfl _ _ rfl rfl rfl ?_; intro w4 hd4 hg4 hz4)
    obtain ⟨q0, q1⟩ := drC_at hd4
    simp only at q0 q1
    refine bodyPost_ret (v := .agg #[.int .i64 (2), .int .i64 (1)]) ?_ rfl ⟨(2, 1), by simp [sixD], rfl, ?_, sixGrown HBAB.out HG3.out HAL.out hg4 (Nat.le_refl _)⟩
    · simp [results, Try.results33, go_sem, q0, q1]
    · have s3 := HG3.out.size
      have s2 := HBAB.out.size
      exact curAt_within HC3.out (by rw [hg4.block B (by simp; omega) (by simp; omega), HAL.out.block B (by omega)])
  · go_wp2_with (with_reducible refine wpList_storeDr (HD4.out _) _ _ rfl _ _ rfl rfl rfl ?_; intro w4 hd4 hg4 hz4)
    obtain ⟨q0, q1⟩ := drC_at hd4
    simp only at q0 q1
    refine bodyPost_ret (v := .agg #[.int .i64 (1), .int .i64 (2)]) ?_ rfl ⟨(1, 2), by simp [sixD], rfl, ?_, sixGrown HBAB.out HG3.out HAL.out hg4 (Nat.le_refl _)⟩
    · simp [results, Try.results33, go_sem, q0, q1]
    · have s3 := HG3.out.size
      have s2 := HBAB.out.size
      exact curAt_within HC3.out (by rw [hg4.block B (by simp; omega) (by simp; omega), HAL.out.block B (by omega)])
end Go.Proofs.Ytjnnoabaepmcnaa
/-
  MakeDirections, of the model: from one to three directions, drawn, all valid and different.
-/
namespace Go.Proofs.Ytjnnoabaepmcnaa
open Go.RowKit
set_option maxRecDepth 100000

/-- What MakeDirections answers. -/
def DirsRes (w : World) (e : Ending) (w' : World) : Prop := ∃ (v : Value) (l : List (Int × Int)), e = .returned v ∧ dirsB l = true ∧ DrsC w' v l ∧ Below w.heap.size w w'
/-- A list of directions of the call's own that is not nil. -/
def OwnDrE (w : World) (lo : Nat) (v : Value) (l : List (Int × Int)) : Prop := OwnDrs w lo v l ∧ ∃ g c, v = .slice (some ⟨g, 0, none⟩) l.length c
theorem ownDrE_below {w w' : World} {lo : Nat} {v : Value} {l : List (Int × Int)} (h : OwnDrE w lo v l) (hb : Below w.heap.size w w') : OwnDrE w' lo v l := ⟨ownDrs_below h.1 hb, h.2⟩
theorem drE_of {w : World} {B : Nat} {v : Value} {l : List (Int × Int)} (h : OwnDrs w B v l) (hne : v ≠ .slice none 0 0) : OwnDrE w B v l := by
  refine ⟨h, ?_⟩
  rcases h.2 with ⟨e, -⟩ | ⟨g, cap, cur, e, -⟩
  · exact absurd e hne
  · exact ⟨g, cap, e⟩
/-- An empty list of directions, new. -/
def emptyDF (B : Nat) : FactP := fun u w2 => ∃ g, u = .slice (some ⟨g, 0, none⟩) 0 0 ∧ B ≤ g ∧ w2.heap[g]? = some (.cells #[] 29 (0, 0))
theorem stable_emptyDF (B : Nat) : StableP (emptyDF B) := fun _ _ _ hb h => by
  obtain ⟨g, h1, h2, h3⟩ := h
  exact ⟨g, h1, h2, by rw [hb.block g (Array.getElem?_eq_some_iff.1 h3).1]; exact h3⟩
/-- A list of one direction, new. -/
def oneDF (B : Nat) (s : Int × Int) : FactP := fun u w2 => ∃ b, u = .slice (some ⟨b, 0, none⟩) 1 1 ∧ B ≤ b ∧ DirAt w2 b s.1 s.2
theorem stable_oneDF (B : Nat) (s : Int × Int) : StableP (oneDF B s) := fun _ _ _ hb h => by
  obtain ⟨b, h1, h2, h3⟩ := h
  exact ⟨b, h1, h2, dirAt_below h3 hb⟩
def drsF (W : World) (l : List (Int × Int)) : FactP := fun u w2 => OwnDrE w2 W.heap.size u l ∧ Below W.heap.size W w2
theorem stable_drsF (W : World) (l : List (Int × Int)) : StableP (drsF W l) := fun _ _ _ hb h => ⟨ownDrE_below h.1 hb, h.2.trans (hb.mono h.2.size)⟩
theorem exec_buildNoDr {ρ : Operand → Value} {o : Oper} {w : World} (ho : o.op = .buildSlice 26 0 #[]) :
    (execOp ρ o).run Try.prog w = .ok (.value (.slice (some ⟨w.heap.size, 0, none⟩) 0 0)) (w.alloc (.cells #[] 29)) := by
  unfold execOp
  simp only [ho]
  go_simp
theorem exec_buildDr {ρ : Operand → Value} {o : Oper} {w : World} {x : Operand} {s : Int × Int} (ho : o.op = .buildSlice 26 1 #[(0, x)]) (hx : ρ x = drV s) :
    (execOp ρ o).run Try.prog w = .ok (.value (.slice (some ⟨w.heap.size, 0, none⟩) 1 1)) (w.alloc (.cells (drA s) 29)) := by
  unfold drV at hx
  unfold execOp drA
  simp only [ho]
  go_simp
theorem cellsD_one (l : List (Int × Int)) : ∀ u ∈ cellsD l, u.oneCell' = true := by
  intro u hu
  unfold cellsD at hu
  obtain ⟨s, -, h⟩ := List.mem_flatMap.1 hu
  simp only [List.mem_cons, List.not_mem_nil, or_false] at h
  rcases h with rfl | rfl <;> rfl
/-- 'append(v, x...)' at directions. -/
theorem exec_appDrs (ty : TypeId) {W : World} {B lo m gp c : Nat} {v : Value} {p q : List (Int × Int)}
    (hv : OwnDrE W B v p) (hp : OwnDrs W lo (.slice (some ⟨gp, 0, none⟩) m c) q) (hB : B ≤ W.heap.size) (hn : p.length + q.length ≤ 4000000) :
    ∃ v' w', (∀ (ρ : Operand → Value) (o : Oper) (x y : Operand), o.op = .call { callee := .builtin .append, args := #[x, y], argTypes := #[26, 26] } → o.type = ty → ρ x = v → ρ y = .slice (some ⟨gp, 0, none⟩) m c → (execOp ρ o).run Try.prog W = .ok (.value v') w') ∧ OwnDrE w' B v' (p ++ q) ∧ W.grownBy w' v.ownBlock := by
  obtain ⟨i0, hi, hz0, hz1, hz2⟩ := info_parts Try.infoDr
  have hm : m = q.length := by
    rcases hp.2 with ⟨e, -⟩ | ⟨g, cap, cur, e, -⟩
    · cases e
    · cases e; rfl
  subst hm
  obtain ⟨hv1, g, cv, rfl⟩ := hv
  obtain ⟨v', w', hr, g1, g2, g3⟩ := run_append_own (P := Try.prog) W B 26 ty 29 i0 _ 2 16 Try.underlying26 hi hz0 hz1 hz2 rfl (by decide) _ p.length (cellsD p) hv1 ⟨gp, 0, none⟩ q.length c (cellsD q) (cellsD_len q) (fun j u hj => by
      rw [addr_add, Nat.zero_add]
      have hj' : j < q.length * 2 := by have := (List.getElem?_eq_some_iff.1 hj).1; rwa [cellsD_len] at this
      rw [World.ownsRow.cellAt hp j hj', hj]) (cellsD_one q) (by unfold maxLen; omega) (by omega) hB
  refine ⟨v', w', ?_, drE_of ?_ ?_, g2⟩
  · intro ρ o x y ho ht hx hy
    subst ht
    unfold execOp
    simp only [ho, resolve, invoke, builtin, Sem.run_bind, Sem.run_pure, Result.andThen_ok, List.map_toArray, List.map_cons, List.map_nil, hx, hy, hr]
  · unfold OwnDrs
    rw [List.length_append, show cellsD (p ++ q) = cellsD p ++ cellsD q by simp [cellsD]]
    exact g1
  · intro e
    have := (g3.1 e).1
    cases this
/-- A list of one direction, to be read. -/
theorem oneDF_own {w : World} {b : Nat} {s : Int × Int} (h : DirAt w b s.1 s.2) : OwnDrs w 0 (.slice (some ⟨b, 0, none⟩) 1 1) [s] :=
  ⟨rfl, .inr ⟨b, 1, drA s, rfl, Nat.zero_le _, h, Nat.le_refl _, by decide, rfl, rfl⟩⟩
theorem emptyDF_own {w : World} {g B : Nat} (h : w.heap[g]? = some (.cells #[] 29 (0, 0))) (hB : B ≤ g) : OwnDrE w B (.slice (some ⟨g, 0, none⟩) 0 0) [] :=
  ⟨⟨rfl, .inr ⟨g, 0, #[], rfl, hB, h, Nat.le_refl _, by decide, rfl, rfl⟩⟩, g, 0, rfl⟩
theorem oneDF_far {w w' : World} {B g : Nat} {s : Int × Int} {u : Value} (h : oneDF B s u w) (hg : w.heap[g]? = some (.cells #[] 29 (0, 0))) (hw : w.grownBy w' (some g)) : oneDF B s u w' := by
  obtain ⟨b, h1, h2, h3⟩ := h
  refine ⟨b, h1, h2, ?_⟩
  have hne : b ≠ g := by
    intro e
    subst e
    unfold DirAt at h3
    rw [h3] at hg
    simp at hg
  unfold DirAt at h3 ⊢
  rw [hw.block b (Array.getElem?_eq_some_iff.1 h3).1 (fun e => hne (Option.some.inj e))]
  exact h3
theorem six_alone : ∀ d ∈ sixD, dirsB [d] = true := by decide

set_option maxHeartbeats 8000000 in
theorem makeDirs_any (n c : Nat) (a : Option Addr) (m : Nat) (w : World) (hin : InBytes w w.heap.size a n) (hn : n ≤ 2000000) (hm : m ≤ 1000) :
    Calls Try.prog 8 #[.slice a n c, .int .i64 m] w (DirsRes w) := by
  have HI := hide hin
  clear hin
  go_enter Try.func8, Try.ntmps8
  go_wp2_with fail
  refine (l18New_any n c a m _ w.heap.size HI.out hn hm).mono ?_
  rintro e w1 ⟨rfl, hc, hb, hlt⟩
  have HC := hide hc; have HB := hide hb; have HLT := hide hlt
  obtain ⟨B, hB⟩ : ∃ B, B = w.heap.size := ⟨_, rfl⟩
  rw [← hB] at HC HLT
  rw [← hB]
  have HBE := hide hB
  clear hc hb hlt hB
  go_wp2_with fail
  obtain ⟨w2, hw2⟩ : ∃ w2, w2 = w1.alloc (.cells #[] 29) := ⟨_, rfl⟩
  have HG0 := hide (show OwnDrE w2 w1.heap.size (.slice (some ⟨w1.heap.size, 0, none⟩) 0 0) [] from emptyDF_own (by rw [hw2]; exact heap_alloc_new w1 _) (Nat.le_refl _))
  have hb12 : Below w1.heap.size w1 w2 := by rw [hw2]; exact (Below.refl _ _).alloc (Nat.le_refl _) _
  have HC2 := hide (curAt_below HC.out hb12)
  have HB2 := hide (HB.out.trans (hb12.mono HB.out.size))
  rw [← hw2]
  clear hw2 HC
  have HB12 := hide hb12
  clear hb12
  refine (l01Below_any B n a 3 _ w.heap.size (by omega) (by omega) HC2.out (inBytes_below HI.out HB2.out) (by have := HBE.out; omega)).mono ?_
  rintro e w3 ⟨x, hx0, hx1, rfl, hc3, hg3⟩
  have HC3 := hide hc3
  have HB3 := hide (below_drawn HB2.out hg3 (by have := HBE.out; omega))
  have HO3 := hide (show OwnDrE w3 w1.heap.size (.slice (some ⟨w1.heap.size, 0, none⟩) 0 0) [] from ⟨ownA_grown HG0.out.1 hg3 (fun k hk => by cases hk; have := HLT.out; simp [Value.ownBlock]; omega), HG0.out.2⟩)
  clear hc3 hg3 HG0 HC2 HB2 HB12
  go_wp2
  have HW1 : Hid (w.heap.size ≤ w1.heap.size ∧ B < w1.heap.size) := hide (by have := HB.out.size; have := HLT.out; exact ⟨by omega, by omega⟩)
  obtain ⟨L1, hL1⟩ : ∃ L1, L1 = w1.heap.size := ⟨_, rfl⟩
  rw [← hL1] at HO3 HW1 ⊢
  clear HB HLT hL1
  go_loopw [6, 7] (fun s6 s7 w' => ∃ (l : List (Int × Int)) (g cap k : Nat), s6 = .slice (some ⟨g, 0, none⟩) l.length cap ∧ s7 = .int .i64 k ∧ OwnDrs w' L1 s6 l ∧ l.length + k ≤ 3 ∧ ((l = [] ∧ 1 ≤ k) ∨ dirsB l = true) ∧ CurAt w' B a n ∧ Below w.heap.size w w') (fun _ s7 _ => (intOf s7).toNat)
  case atStart =>
    obtain ⟨k, rfl⟩ : ∃ k : Nat, x = k := ⟨x.toNat, by omega⟩
    exact ⟨[], L1, 0, k + 1, rfl, by go_num, HO3.out.1, by simp; omega, .inl ⟨rfl, by omega⟩, HC3.out, HB3.out⟩
  case round =>
    clear HO3 HC3 HB3
    obtain ⟨l, g, cap, k, rfl, rfl, hown, hlk, hcase, hcur, hbw⟩ := hrel
    have HO := hide hown; have HCU := hide hcur; have HBW := hide hbw; have HCASE := hide hcase; have HLK := hide hlk
    obtain ⟨nl, hnl⟩ : ∃ nl, nl = l.length := ⟨_, rfl⟩
    rw [← hnl] at HO hlk ⊢
    have HNL := hide hnl
    have hk3 : k ≤ 3 := by omega
    have hnl3 : nl ≤ 3 := by omega
    have HW2 := hide (show L1 ≤ wr.heap.size from by
      rcases (HO.out).2 with ⟨e, -⟩ | ⟨g', cap', cur, e, h1, h2, -⟩
      · cases e
      · have := (Array.getElem?_eq_some_iff.1 h2).1; omega)
    have HGL : Hid (L1 ≤ g ∧ g < wr.heap.size) := hide (World.ownsRow.lt HO.out g rfl)
    clear hown hcur hbw hcase hlk hnl
    by_cases hk : 0 < k
    · have hkI : (0 : Int) < k := by omega
      have HIB := hide (inBytes_below HI.out HBW.out)
      go_wp2_with fail
      refine (l03Direction_any B n a _ w.heap.size HCU.out HIB.out (by have := HBE.out; omega)).mono ?_
      rintro e w4 ⟨d, hd, rfl, hc4, hg4⟩
      have HD := hide hd
      have HC4 := hide hc4
      have HB4 := hide (below_drawn HBW.out hg4 (by have := HBE.out; omega))
      have HO4 := hide (ownA_grown HO.out hg4 (fun k hk => by cases hk; have := HGL.out; have := HW1.out; simp [Value.ownBlock]; omega))
      have HS4 := hide hg4.size
      clear hd hc4 hg4 HO HCU HBW HIB
      have HDN := hide fun o : Obj => (Below.refl w4.heap.size w4).alloc (Nat.le_refl _) o
      have HDZ : Hid (DirAt (w4.alloc (.cells #[.int .i64 0, .int .i64 0] 29)) w4.heap.size 0 0) := hide (heap_alloc_new w4 _)
      obtain ⟨d1, d2⟩ := d
      go_wp2_with (with_reducible refine wpList_storeDr HDZ.out _ _ rfl _ _ rfl rfl rfl ?_; intro w5 hd5 hg5 hz5)
      have HD5 := hide hd5
      have hb45 : Below w4.heap.size w4 w5 := below_drawn (HDN.out _) hg5 (Nat.le_refl _)
      have HC5 := hide (curAt_below HC4.out hb45)
      have HO5 := hide (ownDrs_below HO4.out hb45)
      have HB5 := hide (HB4.out.trans (hb45.mono (by have := HB4.out.size; omega)))
      have HS5 := hide (Nat.le_trans HS4.out hb45.size)
      obtain ⟨p8, hp8⟩ : ∃ p8, p8 = w4.heap.size := ⟨_, rfl⟩
      rw [← hp8] at HD5 ⊢
      clear hd5 hg5 hz5 hb45 HDN HDZ HC4 HO4 HB4 HS4 hp8
      have hfs : ∀ f ∈ ([emptyDF w5.heap.size, isV (.slice (some ⟨g, 0, none⟩) nl cap), drsF w5 l, isV (drV (d1, d2)), oneDF w5.heap.size (d1, d2), drsF w5 (l ++ [(d1, d2)])] : List FactP), StableP f := by
        intro f hf
        simp only [List.mem_cons, List.not_mem_nil, or_false] at hf
        rcases hf with rfl | rfl | rfl | rfl | rfl | rfl <;> first | exact stable_v _ | exact stable_emptyDF _ | exact stable_drsF _ _ | exact stable_oneDF _ _
      have hS1 : ∀ (wy wz : World), Below w5.heap.size w5.drew wy → Below wy.heap.size wy wz → Below w5.heap.size w5.drew wz := fun wy wz h k => h.trans (k.mono h.size)
      have hS0 : ∀ wy : World, Below w5.heap.size w5.drew wy → Below w5.heap.size w5 wy := fun wy h => (below_drew (Below.refl _ w5)).trans h
      refine wp_region_pen (S := fun wy => Below w5.heap.size w5.drew wy) 5 [emptyDF w5.heap.size, isV (.slice (some ⟨g, 0, none⟩) nl cap), drsF w5 l, isV (drV (d1, d2)), oneDF w5.heap.size (d1, d2), drsF w5 (l ++ [(d1, d2)])] [(6, .slice (some ⟨g, 0, none⟩) nl cap), (8, .pointer (some ⟨p8, 0, none⟩))] _ _ 6 (by kernel_rfl) (by decide) (by kernel_rfl) rfl rfl (by kernel_rfl) (by kernel_rfl) rfl (by kernel_rfl) ?baseA (Below.refl _ _) ?obA rfl ?finA
      case baseA =>
        intro t v ht
        simp only [List.lookup_cons, List.lookup_nil] at ht
        repeat' split at ht
        all_goals first | (cases ht; done) | (obtain rfl := Option.some.inj ht; rename_i hh; obtain rfl := eq_of_beq hh; rfl)
      case obA =>
        exact ⟨obp_of (obn_of (by kernel_rfl) (obt_make hfs rfl fun ac wy hS hs => ⟨_, _, exec_buildNoDr rfl, hS1 _ _ hS ((Below.refl _ _).alloc (Nat.le_refl _) _), (Below.refl _ _).alloc (Nat.le_refl _) _, ⟨wy.heap.size, rfl, hS.size, heap_alloc_new wy _⟩⟩)),
          obp_of (obn_of (by kernel_rfl) (obt_move (.slice (some ⟨g, 0, none⟩) nl cap) rfl rfl rfl (srt_b 6 rfl))),
          (fun ac wy hS hB hD K hK => by
            obtain ⟨g1, e22, hg1, hg2⟩ : emptyDF w5.heap.size (ac.tmps.getD 22 undef) wy := hD 0 22 rfl (by kernel_rfl)
            have h23 : ac.tmps.getD 23 undef = .slice (some ⟨g, 0, none⟩) nl cap := hD 1 23 rfl (by kernel_rfl)
            obtain ⟨v', wz, hr, ho, hgr⟩ := exec_appDrs 26 (emptyDF_own hg2 hg1) (ownDrs_below HO5.out (hS0 _ hS)) hS.size (by have := HNL.out; simp only [List.length_nil]; omega)
            have hbz := hS.grown hgr hS.size (fun k hk => by cases hk; exact hg1)
            refine ⟨.inl rfl, run_value v' (hr ac.eval _ (.tmp 22) (.tmp 23) rfl rfl e22 h23) (hK _ _ (fun _ => hbz) (fun j hj => ?_) ⟨ho, hS0 _ hbz⟩)⟩
            have hj' := List.all_eq_true.1 (show ((needPL _ 2).all fun j => j == 3 || j == 4) = true by kernel_rfl) j (needPL_of hj)
            simp only [Bool.or_eq_true, beq_iff_eq] at hj'
            rcases hj' with rfl | rfl
            · exact fun u h => h
            · exact fun u h => oneDF_far h hg2 hgr),
          obp_of (obn_of (by kernel_rfl) (obt_one (drV (d1, d2)) rfl rfl (srt_b 8 rfl) (fun ρ w2 hS hx => exec_loadDir rfl hx (dirAt_below HD5.out (hS0 _ hS))))),
          obp_of (obn_of (by kernel_rfl) (obt_make hfs rfl fun ac wy hS hs => ⟨_, _, exec_buildDr (s := (d1, d2)) rfl (hs _ _ (srt_j 3 rfl (by kernel_rfl) rfl)), hS1 _ _ hS ((Below.refl _ _).alloc (Nat.le_refl _) _), (Below.refl _ _).alloc (Nat.le_refl _) _, ⟨wy.heap.size, rfl, hS.size, heap_alloc_new wy _⟩⟩)),
          (fun ac wy hS hB hD K hK => by
            obtain ⟨h24, -⟩ : drsF w5 l (ac.tmps.getD 24 undef) wy := hD 2 24 rfl (by kernel_rfl)
            obtain ⟨b, e26, hb1, hb2⟩ : oneDF w5.heap.size (d1, d2) (ac.tmps.getD 26 undef) wy := hD 4 26 rfl (by kernel_rfl)
            obtain ⟨v', wz, hr, ho, hgr⟩ := exec_appDrs 26 h24 (oneDF_own hb2) hS.size (by have := HNL.out; simp only [List.length_singleton]; omega)
            have hbz := hS.grown hgr hS.size (fun k hk => (World.ownsRow.lt h24.1 k hk).1)
            exact ⟨.inl rfl, run_value v' (hr ac.eval _ (.tmp 24) (.tmp 26) rfl rfl rfl e26) (hK _ _ (fun hne => absurd rfl hne) (fun j hj => absurd (needPL_of hj) (by rw [show needPL _ 5 = [] by kernel_rfl]; simp)) ⟨ho, hS0 _ hbz⟩)⟩),
          trivial⟩
      case finA =>
        intro a' w' h1 h2 h3 h4 K hK
        obtain ⟨ho, hb6⟩ : drsF w5 (l ++ [(d1, d2)]) (a'.tmps.getD 27 undef) w' := h4 5 27 rfl (by decide) (by kernel_rfl)
        obtain ⟨v27, hv27⟩ : ∃ u, a'.tmps.getD 27 undef = u := ⟨_, rfl⟩
        rw [hv27] at ho
        refine run_call rfl Try.func34 (by kernel_rfl) (by kernel_rfl) #[v27] (by
          simp only [List.map_toArray, List.map_cons, List.map_nil]
          rw [show a'.eval (.tmp 27) = a'.tmps.getD 27 undef from rfl, hv27]) ?_
        refine (specDirsOk_any v27 (l ++ [(d1, d2)]) w' (drsC_own ho.1)).mono ?_
        rintro e w7 ⟨rfl, hb7⟩
        refine ⟨_, rfl, hK _ _ ?_⟩
        have ha := frame_ov rfl h1 h2 h3 [(22, a'.tmps.getD 22 undef), (23, a'.tmps.getD 23 undef), (24, a'.tmps.getD 24 undef), (25, a'.tmps.getD 25 undef), (26, a'.tmps.getD 26 undef), (27, v27), (28, a'.tmps.getD 28 undef)] (by kernel_rfl) ⟨rfl, rfl, rfl, rfl, rfl, hv27, rfl, trivial⟩
        dsimp only [ov, List.lookup, Nat.reduceBEq, Nat.reduceAdd] at ha
        rw [ha]
        generalize a'.tmps.getD 22 undef = u22
        generalize a'.tmps.getD 23 undef = u23
        generalize a'.tmps.getD 24 undef = u24
        generalize a'.tmps.getD 25 undef = u25
        generalize a'.tmps.getD 26 undef = u26
        generalize a'.tmps.getD 28 undef = u28
        have hb57 := hb6.trans (hb7.mono hb6.size)
        have HB7 := hide (HB5.out.trans (hb57.mono HB5.out.size))
        have HO7 := hide (ownDrs_below HO5.out hb57)
        have HC7 := hide (curAt_below HC5.out hb57)
        have HD7 := hide (dirAt_below HD5.out hb57)
        have HS7 := hide (Nat.le_trans HS5.out hb57.size)
        obtain ⟨q, hq⟩ : ∃ q, q = dirsB (l ++ [(d1, d2)]) := ⟨_, rfl⟩
        rw [← hq]
        have HQ := hide hq
        clear hfs hS1 hS0 h1 h2 h3 h4 hK ha ho hb6 hb7 hb57 hv27 hq HO5 HC5 HD5 HB5 HS5
        cases q with
        | false =>
          have hne : l ≠ [] := fun e => by
            have := HQ.out
            rw [e, List.nil_append, six_alone _ HD.out] at this
            cases this
          have HNE := hide hne
          clear hne
          go_wp2
          go_roundw
          case rel => exact ⟨l, g, cap, k - 1, by rw [← HNL.out], by go_num, HO7.out, by have := HLK.out; omega, .inr ((HCASE.out).resolve_left fun h => HNE.out h.1), HC7.out, HB7.out⟩
          case measure => simp [intOf]; omega
        | true =>
          obtain ⟨q0, q1⟩ := drC_at HD7.out
          have HQ0 := hide (drC_at HD7.out)
          clear q0 q1
          have hn4 : nl < 4000000 := by omega
          have HL7 : Hid (L1 ≤ w7.heap.size) := hide (by have := HW2.out; have := HS7.out; omega)
          have HOX : Hid (w7.ownsRow L1 29 2 (.slice (some ⟨g, 0, none⟩) nl cap) nl (cellsD l)) := hide (by
            have := HO7.out
            unfold OwnDrs at this
            rw [← HNL.out] at this; exact this)
          go_wp2_with (first | (with_reducible refine wpList_loadDrC HQ0.out _ rfl rfl _ rfl rfl ?_) | (with_reducible refine wpList_buildOneA (drA (d1, d2)) _ _ rfl rfl _ rfl rfl Try.underlying26 Try.infoDr (by decide) (by decide) rfl ?_) | (at_builtin; refine wpList_pushA HOX.out (drA (d1, d2)) _ rfl _ _ rfl Try.underlying26 Try.infoDr rfl (by decide) (by decide) rfl rfl rfl (by simp [drA, Value.oneCell']) hn4 HL7.out ?_; intro g8 cap8 w8 hown8 hb8 hg8 hor8 hlt8))
          have HO8 := hide hown8
          have hb8' : Below w.heap.size w w8 := HB7.out.trans (hb8.mono (by have := HW1.out; omega))
          have HB8 := hide hb8'
          have HC8 := hide (curAt_within HC7.out (hb8.block B (by have := HW1.out; omega)))
          clear hown8 hb8 hg8 hor8 hlt8 hb8'
          go_wp2
          go_roundw
          case rel =>
            refine ⟨l ++ [(d1, d2)], g8, cap8, k - 1, by rw [List.length_append, ← HNL.out]; rfl, by go_num, ?_, by have := HLK.out; rw [List.length_append, List.length_singleton]; omega, .inr HQ.out.symm, HC8.out, HB8.out⟩
            unfold OwnDrs
            rw [List.length_append, ← HNL.out, cellsD_snoc]
            exact HO8.out
          case measure => simp [intOf]; omega
    · obtain rfl : k = 0 := by omega
      have HDB := hide ((HCASE.out).resolve_left fun h => absurd h.2 (by decide))
      go_wp2
      go_ret
      refine ⟨_, l, rfl, HDB.out, drsC_own HO.out, HBW.out⟩
end Go.Proofs.Ytjnnoabaepmcnaa
