/-
  Texts of this claim, one behind the other: ShSl, Lists, Arr2, Arr3, Arr4, Impl, SpecI, SpecT, ColS, Fit, Grown, SwV, Chg.
-/
import Derived.Shelf.Slices.Clone
import Derived.Ground.Names2Prog
import Derived.Test.YtinhdcchfeokpaaProg
import Derived.Test.YtinhdcchfeokpaaPackB
import Derived.Test.YtinhdcchfeokpaaPackC
import Derived.Test.YtinhdcchfeokpaaPackD
import Derived.BigQuiet
import Derived.Test.YtinhdcchfeokpaaPackA
import Derived.Shelf.SlSortCmp.QuietGrown
/-
  Contracts of the library, at this translation: laid by the shelf, in plain declarations.
-/
namespace Go.Proofs
open Go.Shelf Go.RowKit Go.Lib
def Try.laysNm215_ren : Go.Shelf.Ren := ⟨fun | 15 => 38 | n => n, fun | 22 => 22 | 3 => 3 | 4 => 4 | n => n, fun | n => n⟩
theorem Try.laysNm215 : Go.Proofs.Lays2.n15 Try.prog Try.laysNm215_ren := {
  mixed := by kernel_rfl
  f15 := Try.func38.trans (congrArg some (by kernel_rfl))
  t3 := Try.underlying3
  a3 := Try.isAgg3
  z3 := Try.sizeOf3
  v3 := Try.zeroValue3
  t4 := Try.underlying4
  a4 := Try.isAgg4
  z4 := Try.sizeOf4
  v4 := Try.zeroValue4
  t22 := Try.underlying22
  a22 := Try.isAgg22
  z22 := Try.sizeOf22
  v22 := Try.zeroValue22
  i3 := by kernel_rfl }
theorem Try.slices_Clone_int (b off n c : Nat) (zs : List Int) (w : World) (hz : n ≤ zs.length) (hbig : n * 8 ≤ 140737488355328) (hc : ∀ j, j < zs.length → w.cell? ⟨b, off + j, none⟩ = some (.int .i64 (zs.getD j 0))) :
    Calls Try.prog 38 #[.slice (some ⟨b, off, none⟩) n c] w fun e w' => ∃ v', e = .returned v' ∧ w'.ownsRow w.heap.size 3 1 v' n ((zs.take n).map (Value.int .i64)) ∧ v' ≠ .slice none 0 0 ∧ Below w.heap.size w w' := Any.slices_Clone_int Try.laysNm215 b off n c zs w hz hbig hc
theorem Try.slices_Clone_int_nil (n c : Nat) (w : World) :
    Calls Try.prog 38 #[.slice none n c] w fun e w' => e = .returned (.slice none 0 0) ∧ w' = w := Any.slices_Clone_int_nil Try.laysNm215 n c w
theorem Try.slices_Clone_int_zero (a : Addr) (c : Nat) (w : World) :
    Calls Try.prog 38 #[.slice (some a) 0 c] w fun e w' => ∃ v', e = .returned v' ∧ w'.ownsRow w.heap.size 3 1 v' 0 [] ∧ v' ≠ .slice none 0 0 ∧ Below w.heap.size w w' := Any.slices_Clone_int_zero Try.laysNm215 a c w
end Go.Proofs
/-
  The program's images: size, lists.
-/
namespace Go.Proofs.Ytinhdcchfeokpaa
open Go.RowKit

/-- A row of the padded image. -/
theorem imgF_row (R C : Nat) (f : Nat → Nat → Int) (y : Nat) : ∀ j, j < 5 → imgF R C f (y * 5 + j) = if y < R ∧ j < C then f y j else -1 := fun j hj => by
  rw [show y * 5 + j = 5 * y + j by omega, imgF_at R C f y j hj]

theorem ownMat_block {w w' : World} {lo hi g : Nat} {v : Value} {m : List (List Int)} (h : OwnMat w lo hi v m) (hg : w.grownBy w' (some g)) (hh : hi ≤ g) : OwnMat w' lo hi v m :=
  ownMat_within h (within_grown (lo := g) (hi := g + 1) hg fun k hk => by cases hk; exact ⟨Nat.le_refl _, Nat.lt_succ_self _⟩) (.inl hh)

end Go.Proofs.Ytinhdcchfeokpaa
/-
  The program's images: cell, count, transposed, inverted, distance.
-/
namespace Go.Proofs.Ytinhdcchfeokpaa
open Go.RowKit

theorem row_below {w wr w2 w3 : World} (hb : Below w.heap.size w wr) (b2 : Below wr.heap.size wr w2) (g3 : w2.grownBy w3 (some wr.heap.size)) : Below w.heap.size w w3 :=
  hb.trans ((b2.mono hb.size).trans (grown_below g3 (fun k hk => by cases hk; exact hb.size) (Nat.le_trans hb.size b2.size)))
theorem row_blk {wr w2 w3 : World} {g n : Nat} {T : TypeId} {F : Nat → Int} (h : Blk wr g T n F) (b2 : Below wr.heap.size wr w2) (g3 : w2.grownBy w3 (some wr.heap.size)) : Blk w3 g T n F :=
  blk_grown (blk_below h b2) g3 (by have := blk_lt h; simp; omega)

/-- The first y columns of the exchanged image, and x cells of the next one. -/
def upT (F : Nat → Int) (y x : Nat) (i : Nat) : Int := if i % 5 < y ∨ (i % 5 = y ∧ i / 5 < x) then F (5 * (i % 5) + i / 5) else 0
theorem upT_zero (F : Nat → Int) : upT F 0 0 = fun _ => 0 := by funext i; rw [upT, if_neg (by omega)]
theorem upT_set (F : Nat → Int) (y x : Nat) (hy : y < 5) : (fun j => if j = 5 * x + y then F (5 * y + x) else upT F y x j) = upT F y (x + 1) := by
  funext j
  simp only [upT]
  by_cases e : j = 5 * x + y
  · subst e
    rw [if_pos rfl, if_pos (by omega), show (5 * x + y) % 5 = y by omega, show (5 * x + y) / 5 = x by omega]
  · rw [if_neg e]
    by_cases hl : j % 5 < y ∨ (j % 5 = y ∧ j / 5 < x)
    · rw [if_pos hl, if_pos (by omega)]
    · rw [if_neg hl, if_neg (by omega)]
theorem upT_next (F : Nat → Int) (y : Nat) : ∀ i, i < 25 → upT F y 5 i = upT F (y + 1) 0 i := fun i hi => by
  simp only [upT]
  by_cases hl : i % 5 < y + 1
  · rw [if_pos (by omega), if_pos (by omega)]
  · rw [if_neg (by omega), if_neg (by omega)]
theorem upT_all (F : Nat → Int) : ∀ i, i < 25 → upT F 5 0 i = F (5 * (i % 5) + i / 5) := fun i hi => by rw [upT, if_pos (by omega)]

end Go.Proofs.Ytinhdcchfeokpaa
/-
  The program's images: inverted, distance, mirrored.
-/
namespace Go.Proofs.Ytinhdcchfeokpaa
open Go.RowKit

def invN (v : Int) : Int := if v = -1 then -1 else 1 - v
def upI (F : Nat → Int) (k : Nat) (i : Nat) : Int := if i < k then invN (F i) else F i
theorem upI_zero (F : Nat → Int) : upI F 0 = F := by funext i; simp [upI]
theorem upI_set (F : Nat → Int) (k : Nat) (v : Int) (h : invN (F k) = v) : (fun j => if j = k then v else upI F k j) = upI F (k + 1) := by
  funext j
  simp only [upI]
  by_cases e : j = k
  · subst e; simp [h]
  · rw [if_neg e]
    by_cases hl : j < k
    · rw [if_pos hl, if_pos (by omega)]
    · rw [if_neg hl, if_neg (by omega)]
theorem upI_skip (F : Nat → Int) (k : Nat) (h : F k = -1) : upI F k = upI F (k + 1) := by
  funext j
  simp only [upI]
  by_cases hl : j < k
  · rw [if_pos hl, if_pos (by omega)]
  · by_cases e : j = k
    · subst e; simp [h, invN]
    · rw [if_neg hl, if_neg (by omega)]
theorem upI_all (F : Nat → Int) : ∀ i, i < 25 → upI F (5 * 5) i = invN (F i) := fun i hi => by rw [upI, if_pos (by omega)]

/-- What distance answers: the number, and whether the sizes are the same. -/
def DistRes (b : Bool) (n : Nat) (w : World) (e : Ending) (w' : World) : Prop := e = .returned (.tuple #[.int .i64 (if b then n else 0 : Nat), .bool b]) ∧ Below w.heap.size w w'
theorem dist_no {b : Bool} {n : Nat} {w : World} {w' : World} (hb : b = false) (h : Below w.heap.size w w') : DistRes b n w (.returned (.tuple #[.int .i64 0, .bool false])) w' := by subst hb; exact ⟨rfl, h⟩
/-- Numbers put over others, from place o on. -/
def overF (F : Nat → Int) (o : Nat) (r : List Int) (j : Nat) : Int := if o ≤ j ∧ j < o + r.length then r.getD (j - o) 0 else F j
theorem blk_setCells {g n : Nat} {T : TypeId} : ∀ (r : List Int) (o : Nat) (w : World) (F : Nat → Int), Blk w g T n F → Blk (w.setCells g o (ints r)) g T n (overF F o r) ∧ w.grownBy (w.setCells g o (ints r)) (some g) ∧ (w.setCells g o (ints r)).heap.size = w.heap.size
  | [], o, w, F, h => ⟨blk_congr h fun i _ => by simp only [overF, List.length_nil]; rw [if_neg (by omega)], ⟨rfl, rfl, rfl, Nat.le_refl _, fun _ _ _ => rfl⟩, rfl⟩
  | x :: r, o, w, F, h => by
    have h1 := blk_set h o x
    obtain ⟨h2, h3, h4⟩ := blk_setCells r (o + 1) _ _ h1
    refine ⟨blk_congr h2 fun i _ => ?_, ?_, ?_⟩
    · simp only [overF, List.length_cons]
      by_cases e : i = o
      · subst e; rw [if_neg (by omega), if_pos rfl, if_pos (by omega), Nat.sub_self]; rfl
      · by_cases hl : o + 1 ≤ i ∧ i < o + 1 + r.length
        · rw [if_pos hl, if_pos (by omega), show i - o = (i - (o + 1)) + 1 by omega]; rfl
        · rw [if_neg hl, if_neg e, if_neg (by omega)]
    · refine grown_trans (b := w.setCell ⟨g, o, none⟩ (.int .i64 x)) ⟨rfl, rfl, rfl, by simp [World.setCell], fun k _ hr => heap_setCell_other w _ k _ fun e => hr (by rw [e])⟩ h3
    · show ((w.setCell ⟨g, o, none⟩ (.int .i64 x)).setCells g (o + 1) (ints r)).heap.size = w.heap.size
      rw [h4]; simp [World.setCell]
theorem vec_ints (n : Nat) (F : Nat → Int) : vecL n F = ints (rowF n F) := by simp [vecL, ints, rowF]

/-- A row goes into the middle of a variable. -/
theorem wpList_storeMid {P : Program} {ops : Array Oper} {rest : List Oper} {o : Oper} {a : Act} {Q : Exit → Act → World → Prop} {W : World} {g b n s : Nat} {T T' : TypeId} {F G : Nat → Int} (hb : Blk W g T n F)
    (hgd : o.guard = none) (x y : Operand) (ho : o.op = .store T' x y) (hx : a.eval x = .pointer (some ⟨g, b, none⟩)) (hy : a.eval y = .agg (vec s G)) (hi : (P.info? T').map (·.size) = some s) (hn : b + s ≤ n)
    (h : ∀ w', Blk w' g T n (fun j => if b ≤ j ∧ j < b + s then G (j - b) else F j) → W.grownBy w' (some g) → w'.heap.size = W.heap.size → wpList P ops Q rest (a.put o.dst undef) w') : wpList P ops Q (o :: rest) a W := by
  refine wpList_store_mid hgd T' x y ho g b (vec s G) hx hy (fun j hj => ?_) (by rw [hi, vec_size]) (vec_one s G) ?_
  · rw [vec_size] at hj
    exact ⟨by rw [blk_cell hb (b + j) (by omega)]; rfl, blk_frozen hb _⟩
  · have e : (vec s G).toList = ints (rowF s G) := by rw [← vec_ints]; rfl
    obtain ⟨h1, h2, h3⟩ := blk_setCells (rowF s G) b W F hb
    rw [e]
    refine h _ (blk_congr h1 fun i _ => ?_) h2 h3
    simp only [overF, rowF_len]
    by_cases hl : b ≤ i ∧ i < b + s
    · rw [if_pos hl, if_pos hl, List.getD_eq_getElem?_getD, List.getElem?_eq_getElem (by rw [rowF_len]; omega), Option.getD_some, rowF_at]
    · rw [if_neg hl, if_neg hl]

def mirR (n : Nat) (G : Nat → Int) (j : Nat) : Int := if j < n then G (n - 1 - j) else G j
end Go.Proofs.Ytinhdcchfeokpaa
/-
  The program's images: mirrored; the exported functions.
-/
namespace Go.Proofs.Ytinhdcchfeokpaa
open Go.RowKit

def mirM (C : Nat) (f : Nat → Nat → Int) (y x : Nat) : Int := f y (C - 1 - x)
def upMir (R C : Nat) (f : Nat → Nat → Int) (y : Nat) (i : Nat) : Int := if i / 5 < y then imgF R C (mirM C f) i else imgF R C f i
theorem upMir_zero (R C : Nat) (f : Nat → Nat → Int) : upMir R C f 0 = imgF R C f := by funext i; simp [upMir]
theorem upMir_all (R C : Nat) (f : Nat → Nat → Int) : ∀ i, i < 25 → upMir R C f 5 i = imgF R C (mirM C f) i := fun i hi => by rw [upMir, if_pos (by omega)]
theorem upMir_step (R C : Nat) (f : Nat → Nat → Int) (y n : Nat) (hC : C ≤ 5) (hn : n = if y < R then C else 0) : ∀ i, i < 25 →
    (if 0 + y * 5 ≤ i ∧ i < 0 + y * 5 + 5 then mirR n (fun j => imgF R C f (y * 5 + j)) (i - (0 + y * 5)) else upMir R C f y i) = upMir R C f (y + 1) i := fun i hi => by
  by_cases hl : 0 + y * 5 ≤ i ∧ i < 0 + y * 5 + 5
  · rw [if_pos hl, upMir, if_pos (by omega)]
    simp only [mirR, imgF]
    have e1 : i / 5 = y := by omega
    have e2 : i - (0 + y * 5) = i % 5 := by omega
    rw [e1, e2]
    by_cases hy : y < R
    · rw [if_pos hy] at hn
      subst hn
      by_cases hx : i % 5 < n
      · rw [if_pos hx, if_pos (by omega), if_pos ⟨hy, hx⟩, mirM, show (y * 5 + (n - 1 - i % 5)) / 5 = y by omega, show (y * 5 + (n - 1 - i % 5)) % 5 = n - 1 - i % 5 by omega]
      · rw [if_neg hx, if_neg (by omega), if_neg (by omega)]
    · rw [if_neg hy] at hn
      subst hn
      rw [if_neg (by omega), if_neg (by omega), if_neg (by omega)]
  · rw [if_neg hl, upMir, upMir]
    by_cases h2 : i / 5 < y
    · rw [if_pos h2, if_pos (by omega)]
    · rw [if_neg h2, if_neg (by omega)]

end Go.Proofs.Ytinhdcchfeokpaa
/-
  The program's exported functions on images.
-/
namespace Go.Proofs.Ytinhdcchfeokpaa
open Go.RowKit

def trM (f : Nat → Nat → Int) (y x : Nat) : Int := f x y
def invM (f : Nat → Nat → Int) (y x : Nat) : Int := 1 - f y x
theorem img_tr {R C : Nat} {f : Nat → Nat → Int} (h : Img R C f) : Img C R (trM f) := ⟨h.c1, h.c2, h.r1, h.r2, fun y x hy hx => h.cell x y hx hy⟩
theorem img_mir {R C : Nat} {f : Nat → Nat → Int} (h : Img R C f) : Img R C (mirM C f) := ⟨h.r1, h.r2, h.c1, h.c2, fun y x hy hx => h.cell y (C - 1 - x) hy (by omega)⟩
theorem img_inv {R C : Nat} {f : Nat → Nat → Int} (h : Img R C f) : Img R C (invM f) := ⟨h.r1, h.r2, h.c1, h.c2, fun y x hy hx => by rcases h.cell y x hy hx with e | e <;> simp [invM, e]⟩
/-- The cell of a valid image, or -1. -/
def atM (R C : Nat) (f : Nat → Nat → Int) (y x : Int) : Int := if 0 ≤ y ∧ y < R ∧ 0 ≤ x ∧ x < C then f y.toNat x.toNat else -1
theorem img_zero {R C : Nat} (hR : 1 ≤ R ∧ R ≤ 5) (hC : 1 ≤ C ∧ C ≤ 5) : Img R C zeroM := ⟨hR.1, hR.2, hC.1, hC.2, fun _ _ _ _ => .inl rfl⟩
end Go.Proofs.Ytinhdcchfeokpaa
/-
  The model's functions on images.
-/
namespace Go.Proofs.Ytinhdcchfeokpaa
open Go.RowKit

def inM (m : List (List Int)) (y x : Int) : Bool := okB m && decide (0 ≤ y ∧ y < m.length) && decide (0 ≤ x ∧ x < widthM m)
theorem cnt_row {R C : Nat} {f : Nat → Nat → Int} (p : Nat → Bool) (hp : ∀ i, imgF R C f i = -1 → p i = false) (y : Nat) (hC : C ≤ 5) : cnt p (5 * (y + 1)) = cnt p (5 * y + C) :=
  cnt_skip (by omega) fun i h1 h2 => hp i (by rw [imgF, if_neg (by omega)])
theorem cnt_end {R C : Nat} {f : Nat → Nat → Int} (p : Nat → Bool) (hp : ∀ i, imgF R C f i = -1 → p i = false) (hR : R ≤ 5) : cnt p 25 = cnt p (5 * R) :=
  cnt_skip (by omega) fun i h1 h2 => hp i (by rw [imgF, if_neg (by omega)])
end Go.Proofs.Ytinhdcchfeokpaa
/-
  TransposeOf, MirrorOf, InvertOf of the model.
-/
namespace Go.Proofs.Ytinhdcchfeokpaa
open Go.RowKit
set_option linter.unusedVariables false

def upTr (C : Nat) (f : Nat → Nat → Int) (y x a b : Nat) : Int := if b < y ∨ (b = y ∧ a < x) then f b a else 0
theorem upTr_zero (R C : Nat) (f : Nat → Nat → Int) : mkM C R zeroM = mkM C R (upTr C f 0 0) := mkM_congr fun a b ha hb => by rw [upTr, if_neg (by omega)]; rfl
theorem upTr_set (R C : Nat) (f : Nat → Nat → Int) (y x : Nat) (hy : y < R) (hx : x < C) (z : Int) (hz : f y x = z) :
    mkM C R (fun a b => if a = x ∧ b = y then z else upTr C f y x a b) = mkM C R (upTr C f y (x + 1)) := mkM_congr fun a b ha hb => by
  simp only [upTr]
  by_cases e : a = x ∧ b = y
  · obtain ⟨rfl, rfl⟩ := e
    rw [if_pos ⟨rfl, rfl⟩, if_pos (by omega), ← hz]
  · rw [if_neg e]
    by_cases hl : b < y ∨ (b = y ∧ a < x)
    · rw [if_pos hl, if_pos (by omega)]
    · rw [if_neg hl, if_neg (by omega)]
theorem upTr_next (R C : Nat) (f : Nat → Nat → Int) (y : Nat) (hy : y < R) : mkM C R (upTr C f y C) = mkM C R (upTr C f (y + 1) 0) := mkM_congr fun a b ha hb => by
  simp only [upTr]
  by_cases hl : b < y + 1
  · rw [if_pos (by omega), if_pos (by omega)]
  · rw [if_neg (by omega), if_neg (by omega)]
theorem upTr_all (R C : Nat) (f : Nat → Nat → Int) : mkM C R (upTr C f R 0) = mkM C R (trM f) := mkM_congr fun a b ha hb => by
  rw [upTr, if_pos (by omega)]; rfl
set_option maxHeartbeats 400000 in
theorem specTransposeOf_no (v : Value) (m : List (List Int)) (w : World) (hin : InMat w v m) (h : okB m = false) :
    Calls Try.prog 31 #[v] w (MatRes [] w) := by
  have HI := hide hin; have H := hide h
  clear hin h
  go_enter Try.func31, Try.ntmps31
  go_wp2_with (with_reducible refine (specImageOk_any v m _ HI.out).mono ?_; rw [H.out]; rintro e w' ⟨rfl, rfl⟩)
  go_ret
  exact matRes_nil (Below.refl _ _)
set_option maxHeartbeats 1000000 in
theorem specTransposeOf_yes (v : Value) (R C : Nat) (f : Nat → Nat → Int) (w : World) (hin : InMat w v (mkM R C f)) (hI : Img R C f) :
    Calls Try.prog 31 #[v] w (MatRes (mkM C R (trM f)) w) := by
  have HI := hide hin; have H := hide (img_ok hI); have HX := hide hI
  have hR1 := hI.r1; have hC1 := hI.c1; have hR := hI.r2; have hC := hI.c2
  obtain ⟨g, o, c, rfl, hg, hcell⟩ := inMat_img hin (by omega) (by omega)
  have HC := hide hcell
  obtain ⟨g0, o0, c0, hx0, -⟩ := hcell 0 (by omega)
  rw [Nat.add_zero] at hx0
  clear hin hI hcell
  go_enter Try.func31, Try.ntmps31
  go_wp2_with (first | (with_reducible refine (specImageOk_any _ _ _ HI.out).mono ?_; rw [H.out]; rintro e w' ⟨rfl, rfl⟩))
  refine (l02Empty_any C R _ (by omega) (by omega)).mono ?_
  rintro e w3 ⟨v3, rfl, o3, b3⟩
  rw [upTr_zero R C f] at o3
  obtain ⟨gv, cv, rfl⟩ := ownMat_some o3 (by rw [mkM_len]; omega)
  obtain ⟨hi, hhi⟩ : ∃ hi, hi = w3.heap.size := ⟨_, rfl⟩
  rw [← hhi] at o3
  rw [mkM_len] at *
  have B3 := hide b3; have O3 := hide o3
  have hge : hi ≤ w3.heap.size := by omega
  clear b3 o3 hhi hx0
  go_wp2
  go_loopw [20] (fun i w' => ∃ y : Nat, y ≤ R ∧ i = .int .i64 y ∧ hi ≤ w'.heap.size ∧ OwnMat w' w.heap.size hi (.slice (some ⟨gv, 0, none⟩) C cv) (mkM C R (upTr C f y 0)) ∧ Below w.heap.size w w') (fun i _ => R - (intOf i).toNat)
  case atStart => exact ⟨0, by omega, rfl, hge, O3.out, B3.out⟩

  case round =>
    clear B3 O3 hge
    obtain ⟨y, hy, rfl, hhi, hown, hb⟩ := hrel
    have HO := hide hown; have HB := hide hb
    clear hown hb
    by_cases hlt : y < R
    · have hyI : (y : Int) < R := by omega
      obtain ⟨g', o', c', hx, hg', hcc⟩ := HC.out y hlt
      have hx := below_cell HB.out hg hx
      have HCC := hide hcc
      clear hcc
      go_wp2
      go_loopw [27] (fun i w' => ∃ x : Nat, x ≤ C ∧ i = .int .i64 x ∧ hi ≤ w'.heap.size ∧ OwnMat w' w.heap.size hi (.slice (some ⟨gv, 0, none⟩) C cv) (mkM C R (upTr C f y x)) ∧ Below w.heap.size w w') (fun i _ => C - (intOf i).toNat)
      case atStart => exact ⟨0, by omega, rfl, hhi, HO.out, HB.out⟩
      case round =>
        clear HO HB hx hhi
        obtain ⟨x, hxx, rfl, hhi, hown, hb⟩ := hrel
        have HO := hide hown; have HB := hide hb
        clear hown hb
        by_cases hlx : x < C
        · have hxI : (x : Int) < C := by omega
          have hz := below_cell HB.out hg' (HCC.out x hlx)
          obtain ⟨gr, cr, hrow, hcl, hfr, hlo, hgh, hset⟩ := ownMat_cell HO.out (x) (y) (by omega) (by omega)
          have HSET := hide hset
          clear hset
          skip
          have HS := hide (upTr_set R C f y x hlt hlx _ rfl)
          go_wp2
          go_roundw
          case rel => exact ⟨x + 1, by omega, by go_num, by simpa [World.setCell] using hhi, by have := HSET.out (f y x); rw [HS.out] at this; exact this, HB.out.setCell hlo _⟩
          case measure => simp [intOf]; omega
        · obtain rfl : x = C := by omega
          have HS := hide (upTr_next R x f y hlt)
          rw [HS.out] at HO
          clear HS
          go_wp2
          go_roundw
          case rel => exact ⟨y + 1, by omega, by go_num, hhi, HO.out, HB.out⟩
          case measure => simp [intOf]; omega
    · obtain rfl : y = R := by omega
      have HS := hide (upTr_all y C f)
      rw [HS.out] at HO
      clear HS
      go_wp2
      go_ret
      exact ⟨_, rfl, ownMat_mono HO.out (Nat.le_refl _) hhi, HB.out⟩

def upMi (C : Nat) (f : Nat → Nat → Int) (y x a b : Nat) : Int := if a < y ∨ (a = y ∧ C - 1 - b < x) then f a (C - 1 - b) else 0
theorem upMi_zero (R C : Nat) (f : Nat → Nat → Int) : mkM R C zeroM = mkM R C (upMi C f 0 0) := mkM_congr fun a b ha hb => by rw [upMi, if_neg (by omega)]; rfl
theorem upMi_set (R C : Nat) (f : Nat → Nat → Int) (y x : Nat) (hy : y < R) (hx : x < C) (z : Int) (hz : f y x = z) :
    mkM R C (fun a b => if a = y ∧ b = C - 1 - x then z else upMi C f y x a b) = mkM R C (upMi C f y (x + 1)) := mkM_congr fun a b ha hb => by
  simp only [upMi]
  by_cases e : a = y ∧ b = C - 1 - x
  · obtain ⟨rfl, rfl⟩ := e
    rw [if_pos ⟨rfl, rfl⟩, if_pos (by omega), ← hz]; rw [show C - 1 - (C - 1 - x) = x by omega]
  · rw [if_neg e]
    by_cases hl : a < y ∨ (a = y ∧ C - 1 - b < x)
    · rw [if_pos hl, if_pos (by omega)]
    · rw [if_neg hl, if_neg (by omega)]
theorem upMi_next (R C : Nat) (f : Nat → Nat → Int) (y : Nat) (hy : y < R) : mkM R C (upMi C f y C) = mkM R C (upMi C f (y + 1) 0) := mkM_congr fun a b ha hb => by
  simp only [upMi]
  by_cases hl : a < y + 1
  · rw [if_pos (by omega), if_pos (by omega)]
  · rw [if_neg (by omega), if_neg (by omega)]
theorem upMi_all (R C : Nat) (f : Nat → Nat → Int) : mkM R C (upMi C f R 0) = mkM R C (mirM C f) := mkM_congr fun a b ha hb => by
  rw [upMi, if_pos (by omega)]; rfl
def upIn (C : Nat) (f : Nat → Nat → Int) (y x a b : Nat) : Int := if a < y ∨ (a = y ∧ b < x) then 1 - f a b else 0
theorem upIn_zero (R C : Nat) (f : Nat → Nat → Int) : mkM R C zeroM = mkM R C (upIn C f 0 0) := mkM_congr fun a b ha hb => by rw [upIn, if_neg (by omega)]; rfl
theorem upIn_set (R C : Nat) (f : Nat → Nat → Int) (y x : Nat) (hy : y < R) (hx : x < C) (z : Int) (hz : 1 - f y x = z) :
    mkM R C (fun a b => if a = y ∧ b = x then z else upIn C f y x a b) = mkM R C (upIn C f y (x + 1)) := mkM_congr fun a b ha hb => by
  simp only [upIn]
  by_cases e : a = y ∧ b = x
  · obtain ⟨rfl, rfl⟩ := e
    rw [if_pos ⟨rfl, rfl⟩, if_pos (by omega), ← hz]
  · rw [if_neg e]
    by_cases hl : a < y ∨ (a = y ∧ b < x)
    · rw [if_pos hl, if_pos (by omega)]
    · rw [if_neg hl, if_neg (by omega)]
theorem upIn_next (R C : Nat) (f : Nat → Nat → Int) (y : Nat) (hy : y < R) : mkM R C (upIn C f y C) = mkM R C (upIn C f (y + 1) 0) := mkM_congr fun a b ha hb => by
  simp only [upIn]
  by_cases hl : a < y + 1
  · rw [if_pos (by omega), if_pos (by omega)]
  · rw [if_neg (by omega), if_neg (by omega)]
theorem upIn_all (R C : Nat) (f : Nat → Nat → Int) : mkM R C (upIn C f R 0) = mkM R C (invM f) := mkM_congr fun a b ha hb => by
  rw [upIn, if_pos (by omega)]; rfl
end Go.Proofs.Ytinhdcchfeokpaa
/-
  ColSums of both.
-/
namespace Go.Proofs.Ytinhdcchfeokpaa
open Go.RowKit

theorem specColSums_no (v : Value) (m : List (List Int)) (w : World) (hin : InMat w v m) (h : okB m = false) :
    Calls Try.prog 24 #[v] w (IntsRes [] w) := by
  have HI := hide hin; have H := hide h
  clear hin h
  go_enter Try.func24, Try.ntmps24
  go_wp2_with fail
  refine (specTransposeOf_no v m _ HI.out H.out).mono ?_
  rintro e w1 ⟨u, rfl, ho, hb⟩
  have HM := hide (inMat_own ho); have HB := hide hb
  clear ho hb
  go_wp2_with fail
  refine (specRowSums_no u [] _ HM.out (by decide)).mono ?_
  rintro e w2 ⟨u2, rfl, ho, hb⟩
  have HO := hide (own_base ho HB.out.size); have HB2 := hide (HB.out.trans (hb.mono HB.out.size))
  clear ho hb
  go_wp2
  go_ret
  exact ⟨_, rfl, HO.out, HB2.out⟩
theorem specColSums_yes (v : Value) (R C : Nat) (f : Nat → Nat → Int) (w : World) (hin : InMat w v (mkM R C f)) (hI : Img R C f) :
    Calls Try.prog 24 #[v] w (IntsRes (rowsL C R (trM f)) w) := by
  have HI := hide hin; have H := hide hI
  clear hin hI
  go_enter Try.func24, Try.ntmps24
  go_wp2_with fail
  refine (specTransposeOf_yes v R C f _ HI.out H.out).mono ?_
  rintro e w1 ⟨u, rfl, ho, hb⟩
  have HM := hide (inMat_own ho); have HB := hide hb
  clear ho hb
  go_wp2_with fail
  refine (specRowSums_yes u C R (trM f) _ HM.out (img_tr H.out)).mono ?_
  rintro e w2 ⟨u2, rfl, ho, hb⟩
  have HO := hide (own_base ho HB.out.size); have HB2 := hide (HB.out.trans (hb.mono HB.out.size))
  clear ho hb
  go_wp2
  go_ret
  exact ⟨_, rfl, HO.out, HB2.out⟩
end Go.Proofs.Ytinhdcchfeokpaa
/-
  Sums that may be wrong: SumsFit, ChangeOf, ParityOf of the model.
-/
namespace Go.Proofs.Ytinhdcchfeokpaa
open Go.RowKit

def inB (n : Nat) (x : Int) : Bool := decide (0 ≤ x ∧ x ≤ (n : Int))
/-- From 1 to 4 rows and columns, each sum within its range. -/
def fitB (r c : List Int) : Bool := decide (1 ≤ r.length ∧ r.length ≤ 4) && decide (1 ≤ c.length ∧ c.length ≤ 4) && r.all (inB c.length) && c.all (inB r.length)
theorem fit_yes {r c : List Int} (h : fitB r c = true) : (1 ≤ r.length ∧ r.length ≤ 4) ∧ (1 ≤ c.length ∧ c.length ≤ 4) ∧ (∀ x ∈ r, 0 ≤ x ∧ x ≤ c.length) ∧ ∀ x ∈ c, 0 ≤ x ∧ x ≤ r.length := by
  unfold fitB at h
  simp only [Bool.and_eq_true, decide_eq_true_eq, List.all_eq_true, inB] at h
  exact ⟨h.1.1.1, h.1.1.2, h.1.2, h.2⟩
theorem fit_nor {r c : List Int} {n t : Nat} (hn : n = c.length) (ht : t < r.length) (h : inB n r[t] = false) : fitB r c = false := by
  cases hf : fitB r c with
  | false => rfl
  | true =>
    have := (fit_yes hf).2.2.1 _ (List.getElem_mem ht)
    unfold inB at h
    rw [decide_eq_false_iff_not] at h
    exact absurd (by rw [hn]; exact this) h
theorem fit_noc {r c : List Int} {n t : Nat} (hn : n = r.length) (ht : t < c.length) (h : inB n c[t] = false) : fitB r c = false := by
  cases hf : fitB r c with
  | false => rfl
  | true =>
    have := (fit_yes hf).2.2.2 _ (List.getElem_mem ht)
    unfold inB at h
    rw [decide_eq_false_iff_not] at h
    exact absurd (by rw [hn]; exact this) h
theorem fit_size {r c : List Int} (h : ¬ ((1 ≤ r.length ∧ r.length ≤ 4) ∧ (1 ≤ c.length ∧ c.length ≤ 4))) : fitB r c = false := by
  cases hf : fitB r c with
  | false => rfl
  | true => exact absurd ⟨(fit_yes hf).1, (fit_yes hf).2.1⟩ h
theorem fit_all {r c : List Int} (h1 : 1 ≤ r.length ∧ r.length ≤ 4) (h2 : 1 ≤ c.length ∧ c.length ≤ 4) (h3 : ∀ j, (h : j < r.length) → inB c.length r[j] = true) (h4 : ∀ j, (h : j < c.length) → inB r.length c[j] = true) : fitB r c = true := by
  unfold fitB
  rw [decide_eq_true h1, decide_eq_true h2, Bool.and_self, Bool.true_and, Bool.and_eq_true, List.all_eq_true, List.all_eq_true]
  refine ⟨fun x hx => ?_, fun x hx => ?_⟩
  · obtain ⟨i, hi, rfl⟩ := List.mem_iff_getElem.1 hx; exact h3 i hi
  · obtain ⟨i, hi, rfl⟩ := List.mem_iff_getElem.1 hx; exact h4 i hi
set_option maxHeartbeats 2000000 in
theorem specSumsFit_any (va vb : Value) (r c : List Int) (w : World) (ha : InRow w va r) (hb : InRow w vb c) :
    Calls Try.prog 6 #[va, vb] w fun e w' => e = .returned (.bool (fitB r c)) ∧ w = w' := by
  obtain ⟨ar, cr, rfl, hmr, hpr⟩ := ha
  obtain ⟨ac, cc, rfl, hmc, hpc⟩ := hb
  unfold maxLen at hmr hmc
  have HPr := hide hpr; have HPc := hide hpc
  have HFIT := hide (fit_size (r := r) (c := c))
  obtain ⟨nr, hnr⟩ : ∃ n, n = r.length := ⟨_, rfl⟩
  obtain ⟨nc, hnc⟩ : ∃ n, n = c.length := ⟨_, rfl⟩
  have HNr := hide hnr; have HNc := hide hnc
  rw [← hnr] at hmr HFIT ⊢
  rw [← hnc] at hmc HFIT ⊢
  have HI1 := hide fun w' => l01In_any (nr : Int) 1 4 w'
  have HI2 := hide fun w' => l01In_any (nc : Int) 1 4 w'
  clear hpr hpc hnr hnc
  by_cases h1 : 1 ≤ nr ∧ nr ≤ 4
  · rw [decide_eq_true (show 1 ≤ (nr : Int) ∧ (nr : Int) ≤ 4 by omega)] at HI1
    by_cases h2 : 1 ≤ nc ∧ nc ≤ 4
    · rw [decide_eq_true (show 1 ≤ (nc : Int) ∧ (nc : Int) ≤ 4 by omega)] at HI2
      go_enter Try.func6, Try.ntmps6
      go_wp2_with (first | ((with_reducible refine (HI1.out _).mono ?_); rintro e w9 ⟨rfl, rfl⟩) | ((with_reducible refine (HI2.out _).mono ?_); rintro e w9 ⟨rfl, rfl⟩))
      go_loop [21] (fun i => ∃ t : Nat, t ≤ nr ∧ i = .int .i64 t ∧ ∀ j, (h : j < r.length) → j < t → inB nc r[j] = true) (fun i => nr - (intOf i).toNat)
      case atStart => exact ⟨0, Nat.zero_le _, rfl, fun j _ h => absurd h (Nat.not_lt_zero _)⟩
      case round =>
        obtain ⟨t, ht, rfl, hall⟩ := hrel
        have HAr := hide hall
        clear hall
        by_cases hlt : t < nr
        · have hltI : (t : Int) < nr := by omega
          have ht' : t < r.length := by rw [← HNr.out]; exact hlt
          obtain ⟨g, o, rfl, hg, hc⟩ := HPr.out.resolve_left (by omega)
          have hx := hc t ht'
          have HIN := hide fun w' => l01In_any r[t] 0 (nc : Int) w'
          have HNO : Hid (inB nc r[t] = false → fitB r c = false) := hide fun h => fit_nor HNc.out ht' h
          have HYES : Hid (inB nc r[t] = true → ∀ j, (h : j < r.length) → j < t + 1 → inB nc r[j] = true) := hide fun h j h1 h2 => by
            by_cases e : j = t
            · subst e; exact h
            · exact HAr.out j h1 (by omega)
          unfold inB at HNO HYES
          obtain ⟨x, hxx⟩ : ∃ x, x = r[t] := ⟨_, rfl⟩
          rw [← hxx] at hx HIN HNO HYES
          obtain ⟨d, hd⟩ : ∃ d, d = decide (0 ≤ x ∧ x ≤ (nc : Int)) := ⟨_, rfl⟩
          rw [← hd] at HIN HNO HYES
          clear hxx hd hc
          cases d with
          | true =>
            have HY2 := hide (HYES.out rfl)
            clear HYES HNO
            go_wp2_with (go_at_call 17; refine (HIN.out _).mono ?_; rintro e w9 ⟨rfl, rfl⟩)
            go_round
            case rel => exact ⟨t + 1, by omega, by go_num, HY2.out⟩
            case measure => simp [intOf]; omega
          | false =>
            have HF := hide (HNO.out rfl)
            clear HYES HNO
            go_wp2_with (go_at_call 17; refine (HIN.out _).mono ?_; rintro e w9 ⟨rfl, rfl⟩)
            go_ret
            exact ⟨ret_bool HF.out.symm, rfl⟩
        · obtain rfl : nr = t := by omega
          go_wp2
          go_loop [33] (fun i => ∃ t : Nat, t ≤ nc ∧ i = .int .i64 t ∧ ∀ j, (h : j < c.length) → j < t → inB nr c[j] = true) (fun i => nc - (intOf i).toNat)
          case atStart => exact ⟨0, Nat.zero_le _, rfl, fun j _ h => absurd h (Nat.not_lt_zero _)⟩
          case round =>
            obtain ⟨t, ht, rfl, hall⟩ := hrel
            have HAc := hide hall
            clear hall
            by_cases hlt : t < nc
            · have hltI : (t : Int) < nc := by omega
              have ht' : t < c.length := by rw [← HNc.out]; exact hlt
              obtain ⟨g, o, rfl, hg, hc⟩ := HPc.out.resolve_left (by omega)
              have hx := hc t ht'
              have HIN := hide fun w' => l01In_any c[t] 0 (nr : Int) w'
              have HNO : Hid (inB nr c[t] = false → fitB r c = false) := hide fun h => fit_noc HNr.out ht' h
              have HYES : Hid (inB nr c[t] = true → ∀ j, (h : j < c.length) → j < t + 1 → inB nr c[j] = true) := hide fun h j h1 h2 => by
                by_cases e : j = t
                · subst e; exact h
                · exact HAc.out j h1 (by omega)
              unfold inB at HNO HYES
              obtain ⟨x, hxx⟩ : ∃ x, x = c[t] := ⟨_, rfl⟩
              rw [← hxx] at hx HIN HNO HYES
              obtain ⟨d, hd⟩ : ∃ d, d = decide (0 ≤ x ∧ x ≤ (nr : Int)) := ⟨_, rfl⟩
              rw [← hd] at HIN HNO HYES
              clear hxx hd hc
              cases d with
              | true =>
                have HY2 := hide (HYES.out rfl)
                clear HYES HNO
                go_wp2_with (go_at_call 17; refine (HIN.out _).mono ?_; rintro e w9 ⟨rfl, rfl⟩)
                go_round
                case rel => exact ⟨t + 1, by omega, by go_num, HY2.out⟩
                case measure => simp [intOf]; omega
              | false =>
                have HF := hide (HNO.out rfl)
                clear HYES HNO
                go_wp2_with (go_at_call 17; refine (HIN.out _).mono ?_; rintro e w9 ⟨rfl, rfl⟩)
                go_ret
                exact ⟨ret_bool HF.out.symm, rfl⟩
            · obtain rfl : nc = t := by omega
              have HE := hide (fit_all (by rw [← HNr.out]; exact h1) (by rw [← HNc.out]; exact h2) (fun j h => by rw [← HNc.out]; exact HAr.out j h (by have := HNr.out; omega)) (fun j h => by rw [← HNr.out]; exact HAc.out j h (by have := HNc.out; omega)))
              go_wp2
              go_ret
              exact ⟨ret_bool HE.out.symm, rfl⟩
    · have HF := hide (HFIT.out fun h => h2 h.2)
      rw [decide_eq_false (show ¬ (1 ≤ (nc : Int) ∧ (nc : Int) ≤ 4) by omega)] at HI2
      go_enter Try.func6, Try.ntmps6
      go_wp2_with (first | ((with_reducible refine (HI1.out _).mono ?_); rintro e w9 ⟨rfl, rfl⟩) | ((with_reducible refine (HI2.out _).mono ?_); rintro e w9 ⟨rfl, rfl⟩))
      go_ret
      exact ⟨ret_bool HF.out.symm, rfl⟩
  · have HF := hide (HFIT.out fun h => h1 h.1)
    rw [decide_eq_false (show ¬ (1 ≤ (nr : Int) ∧ (nr : Int) ≤ 4) by omega)] at HI1
    go_enter Try.func6, Try.ntmps6
    go_wp2_with (first | ((with_reducible refine (HI1.out _).mono ?_); rintro e w9 ⟨rfl, rfl⟩))
    go_ret
    exact ⟨ret_bool HF.out.symm, rfl⟩

/-- The differences of two lists, together. -/
def gapL (a b : List Int) : Nat → Int
  | 0 => 0
  | k + 1 => gapL a b k + max (a.getD k 0 - b.getD k 0) (b.getD k 0 - a.getD k 0)
theorem gapL_range {a b : List Int} {M : Int} (h : ∀ k, (0 ≤ a.getD k 0 ∧ a.getD k 0 ≤ M) ∧ 0 ≤ b.getD k 0 ∧ b.getD k 0 ≤ M) : ∀ k : Nat, 0 ≤ gapL a b k ∧ gapL a b k ≤ M * k
  | 0 => by simp [gapL]
  | k + 1 => by
    have h1 := gapL_range h k
    have h2 := h k
    have e : M * ((k + 1 : Nat) : Int) = M * k + M := by rw [show ((k + 1 : Nat) : Int) = (k : Int) + 1 by omega, Int.mul_add, Int.mul_one]
    unfold gapL
    omega
set_option maxHeartbeats 1000000 in
theorem l13Gap_any (va vb : Value) (a b : List Int) (w : World) (ha : InRow w va a) (hb : InRow w vb b) (hl : a.length = b.length) (h5 : a.length ≤ 5) (hr : ∀ k, (0 ≤ a.getD k 0 ∧ a.getD k 0 ≤ 10) ∧ 0 ≤ b.getD k 0 ∧ b.getD k 0 ≤ 10) :
    Calls Try.prog 22 #[va, vb] w fun e w' => e = .returned (.int .i64 (gapL a b a.length)) ∧ Below w.heap.size w w' := by
  obtain ⟨aa, ca, rfl, hma, hpa⟩ := ha
  obtain ⟨ab, cb, rfl, hmb, hpb⟩ := hb
  unfold maxLen at hma hmb
  have HPA := hide hpa; have HPB := hide hpb; have HR := hide hr; have HL := hide hl
  obtain ⟨n, hn⟩ : ∃ n, n = a.length := ⟨_, rfl⟩
  have HN := hide hn
  rw [← hn] at h5 hma ⊢
  rw [← hl, ← hn] at hmb ⊢
  clear hpa hpb hr hn hl
  go_enter Try.func22, Try.ntmps22
  go_wp2
  go_loopw [5, 10] (fun q i w' => ∃ k : Nat, k ≤ n ∧ i = .int .i64 k ∧ q = .int .i64 (gapL a b k) ∧ Below w.heap.size w w') (fun _ i _ => n - (intOf i).toNat)
  case atStart => exact ⟨0, Nat.zero_le _, rfl, rfl, Below.refl _ _⟩
  case round =>
    obtain ⟨k, hk, rfl, rfl, hbo⟩ := hrel
    have HB := hide hbo
    clear hbo
    by_cases hlt : k < n
    · have hltI : (k : Int) < n := by omega
      have hka : k < a.length := by rw [← HN.out]; exact hlt
      have hkb : k < b.length := by rw [← HL.out]; exact hka
      obtain ⟨g1, o1, rfl, hg1, hc1⟩ := HPA.out.resolve_left (by omega)
      obtain ⟨g2, o2, rfl, hg2, hc2⟩ := HPB.out.resolve_left (by omega)
      have hx := below_cell HB.out hg1 (hc1 k hka)
      have hy := below_cell HB.out hg2 (hc2 k hkb)
      rw [show a[k] = a.getD k 0 by rw [List.getD_eq_getElem?_getD, List.getElem?_eq_getElem hka]; rfl] at hx
      rw [show b[k] = b.getD k 0 by rw [List.getD_eq_getElem?_getD, List.getElem?_eq_getElem hkb]; rfl] at hy
      have hrk := HR.out k
      have hgr := gapL_range HR.out k
      have HSU : Hid (gapL a b (k + 1) = gapL a b k + max (a.getD k 0 - b.getD k 0) (b.getD k 0 - a.getD k 0)) := hide rfl
      obtain ⟨x, hxe⟩ : ∃ x, x = a.getD k 0 := ⟨_, rfl⟩
      obtain ⟨y, hye⟩ : ∃ y, y = b.getD k 0 := ⟨_, rfl⟩
      obtain ⟨G, hG⟩ : ∃ G, G = gapL a b k := ⟨_, rfl⟩
      rw [← hxe] at hx hrk HSU
      rw [← hye] at hy hrk HSU
      rw [← hG] at hgr HSU ⊢
      obtain ⟨⟨x1, x2⟩, y1, y2⟩ := hrk
      clear hxe hye hG hc1 hc2
      by_cases hxy : x ≤ y
      · have HM : Hid (max (x - y) (y - x) = y - x) := hide (by omega)
        rw [HM.out] at HSU
        go_wp2_with fail
        go_quiet (fail)
        go_wp2
        go_roundw
        case rel => exact ⟨k + 1, by omega, by go_num, by rw [HSU.out]; first | rfl | (congr 1; omega), below_draws HB.out _⟩
        case measure => simp [intOf]; omega
      · have HM : Hid (max (x - y) (y - x) = x - y) := hide (by omega)
        rw [HM.out] at HSU
        go_wp2_with fail
        go_quiet (fail)
        go_wp2
        go_roundw
        case rel => exact ⟨k + 1, by omega, by go_num, by rw [HSU.out]; first | rfl | (congr 1; omega), below_draws HB.out _⟩
        case measure => simp [intOf]; omega
    · obtain rfl : k = n := by omega
      go_wp2
      go_ret
      exact ⟨rfl, HB.out⟩
end Go.Proofs.Ytinhdcchfeokpaa
/-
  Worlds that have grown: some draws, some blocks laid behind.
-/
namespace Go.Proofs.Ytinhdcchfeokpaa
open Go.RowKit

/-- After some draws, with some blocks laid behind. -/
def GrownW (w w' : World) : Prop := ∃ q os, w' = Go.Sort.grow (w.drewN q) os
theorem grownW_refl (w : World) : GrownW w w := ⟨0, #[], by rw [Go.Sort.grow_empty]; rfl⟩
theorem grownW_grow (w : World) (q : Nat) (os : Array Obj) : GrownW w (Go.Sort.grow (w.drewN q) os) := ⟨q, os, rfl⟩
theorem grownW_trans {a b c : World} (h : GrownW a b) (k : GrownW b c) : GrownW a c := by
  obtain ⟨q, os, rfl⟩ := h
  obtain ⟨p, os', rfl⟩ := k
  exact ⟨q + p, os ++ os', by show Go.Sort.grow (Go.Sort.grow ((a.drewN q).drewN p) os) os' = _; rw [Go.Sort.grow_grow, World.drewN_drewN]⟩
theorem grownW_alloc (w : World) (o : Obj) : GrownW w (w.alloc o) := ⟨0, #[o], by rw [Go.Sort.alloc_eq_grow]; rfl⟩
theorem grownW_below {w w' : World} (h : GrownW w w') : Below w.heap.size w w' := by
  obtain ⟨q, os, rfl⟩ := h
  refine ⟨rfl, rfl, rfl, ?_, fun k hk => ?_⟩
  · show w.heap.size ≤ (w.heap ++ os).size
    rw [Array.size_append]; omega
  · show (w.heap ++ os)[k]? = _
    rw [Array.getElem?_append_left hk]
theorem quiet_of {P : Program} {f : FuncId} {args : Array Value} {w : World} {n : Nat} {os : Array Obj} {v : Value} (h : Calls P f args (Go.Sort.grow (w.drewN n) os) fun e w' => e = .returned v ∧ GrownW (Go.Sort.grow (w.drewN n) os) w') :
    Calls P f args (Go.Sort.grow (w.drewN n) os) fun e w'' => e = .returned v ∧ ∃ p : GrownBy, w'' = Go.Sort.grow (w.drewN p.n) p.os := Calls.grown_of h
end Go.Proofs.Ytinhdcchfeokpaa
/-
  Switches as values and in variables; a cell of an image; whether a switch is one of an image.
-/
namespace Go.Proofs.Ytinhdcchfeokpaa
open Go.RowKit

def swA (s : Sw) : Array Value := #[.int .i64 s.y1, .int .i64 s.y2, .int .i64 s.x1, .int .i64 s.x2]
def swV (s : Sw) : Value := .agg (swA s)
theorem swA_size (s : Sw) : (swA s).size = 4 := rfl
theorem swA_one (s : Sw) : (swA s).all (·.oneCell') = true := by simp [swA, Value.oneCell']
/-- The cell of five rows of five, -1 outside. -/
def cellF (F : Nat → Int) (y x : Int) : Int := if 0 ≤ y ∧ y < 5 ∧ 0 ≤ x ∧ x < 5 then F (5 * y.toNat + x.toNat) else -1
/-- Whether the switch is one of the image. -/
def hasF (F : Nat → Int) (s : Sw) : Bool :=
  decide (s.y1 < s.y2) && decide (s.x1 < s.x2) && decide (cellF F s.y1 s.x1 ≠ cellF F s.y1 s.x2) && decide (cellF F s.y2 s.x1 = cellF F s.y1 s.x2) && decide (cellF F s.y2 s.x2 = cellF F s.y1 s.x1)
theorem cellF_img {R C : Nat} {f : Nat → Nat → Int} (h : Img R C f) (y x : Int) : cellF (imgF R C f) y x = if 0 ≤ y ∧ y < R ∧ 0 ≤ x ∧ x < C then f y.toNat x.toNat else -1 := by
  have hR := h.r2; have hC := h.c2
  unfold cellF
  by_cases h0 : 0 ≤ y ∧ y < 5 ∧ 0 ≤ x ∧ x < 5
  · rw [if_pos h0, imgF_at _ _ _ _ _ (by omega)]
    by_cases h1 : 0 ≤ y ∧ y < R ∧ 0 ≤ x ∧ x < C
    · rw [if_pos (by omega), if_pos h1]
    · rw [if_neg (by omega), if_neg h1]
  · rw [if_neg h0, if_neg (by omega)]
theorem hasF_img {R C : Nat} {f : Nat → Nat → Int} (h : Img R C f) (s : Sw) : hasF (imgF R C f) s = swF R C f s := by
  have hR := h.r2; have hC := h.c2
  obtain ⟨y1, y2, x1, x2⟩ := s
  rw [Bool.eq_iff_iff]
  simp only [hasF, cellF_img h, swF, four, Bool.and_eq_true, decide_eq_true_eq]
  by_cases hh : (0 ≤ y1 ∧ 0 ≤ x1) ∧ y1 < y2 ∧ x1 < x2
  · obtain ⟨⟨h1, h2⟩, h3, h4⟩ := hh
    obtain ⟨a, rfl⟩ : ∃ a : Nat, y1 = a := ⟨y1.toNat, by omega⟩
    obtain ⟨b, rfl⟩ : ∃ b : Nat, y2 = b := ⟨y2.toNat, by omega⟩
    obtain ⟨c, rfl⟩ : ∃ c : Nat, x1 = c := ⟨x1.toNat, by omega⟩
    obtain ⟨d, rfl⟩ : ∃ d : Nat, x2 = d := ⟨x2.toNat, by omega⟩
    simp only [Int.toNat_natCast]
    by_cases hb : b < R ∧ d < C
    · obtain ⟨hb, hd⟩ := hb
      have e1 := h.cell a c (by omega) (by omega); have e2 := h.cell a d (by omega) (by omega); have e3 := h.cell b c (by omega) (by omega); have e4 := h.cell b d (by omega) (by omega)
      rw [if_pos (by omega), if_pos (by omega), if_pos (by omega), if_pos (by omega)]
      omega
    · constructor
      · intro hx
        exfalso
        obtain ⟨⟨⟨⟨-, -⟩, g1⟩, g2⟩, g3⟩ := hx
        rw [if_neg (show ¬ (0 ≤ (b : Int) ∧ (b : Int) < R ∧ 0 ≤ (d : Int) ∧ (d : Int) < C) by omega)] at g3
        by_cases hc : a < R ∧ c < C
        · have := h.cell a c hc.1 hc.2
          rw [if_pos (by omega)] at g3
          omega
        · rw [if_neg (show ¬ (0 ≤ (a : Int) ∧ (a : Int) < R ∧ 0 ≤ (c : Int) ∧ (c : Int) < C) by omega)] at g1
          rw [if_neg (by omega)] at g1
          exact g1 rfl
      · rintro ⟨-, h5⟩; omega
  · constructor
    · intro hx
      exfalso
      obtain ⟨⟨⟨⟨k1, k2⟩, g1⟩, g2⟩, g3⟩ := hx
      have hn : ¬ (0 ≤ y1 ∧ 0 ≤ x1) := fun e => hh ⟨e, k1, k2⟩
      rw [if_neg (show ¬ (0 ≤ y1 ∧ y1 < R ∧ 0 ≤ x1 ∧ x1 < C) by omega)] at g1 g3
      split at g1 <;> split at g3 <;> split at g2 <;> first | omega | skip
      all_goals first | (exact g1 rfl) | skip
      all_goals (rename_i q1 q2 q3; omega)
    · rintro ⟨⟨⟨⟨k1, k2⟩, k3⟩, k4⟩, -⟩
      exact absurd ⟨⟨k1, k2⟩, k3, k4⟩ hh
end Go.Proofs.Ytinhdcchfeokpaa
/-
  ChangeOf and ParityOf of the model.
-/
namespace Go.Proofs.Ytinhdcchfeokpaa
open Go.RowKit

/-- How much the sums must be changed to be those of the image f. -/
def chgF (r c : List Int) (R C : Nat) (f : Nat → Nat → Int) : Int := gapL r (rowsL R C f) R + gapL c (rowsL C R (trM f)) C
def chgB (r c : List Int) (m : List (List Int)) : Bool := fitB r c && okB m && decide (m.length = r.length) && decide (widthM m = c.length)
def chgOf (r c : List Int) (m : List (List Int)) : Int := if chgB r c m = true then chgF r c m.length (widthM m) (cellM m) else -1
theorem rowF_getD13 {n : Nat} {g : Nat → Int} (k : Nat) : (rowF n g).getD k 0 = if k < n then g k else 0 := by
  by_cases h : k < n
  · rw [if_pos h, List.getD_eq_getElem?_getD, List.getElem?_eq_getElem (by rw [rowF_len]; exact h), Option.getD_some, rowF_at]
  · rw [if_neg h, List.getD_eq_getElem?_getD, List.getElem?_eq_none (by rw [rowF_len]; omega)]; rfl
theorem rowsL_getD (R C : Nat) (f : Nat → Nat → Int) (k : Nat) : 0 ≤ (rowsL R C f).getD k 0 ∧ (rowsL R C f).getD k 0 ≤ C := by
  unfold rowsL
  rw [rowF_getD13]
  have : rs C f k ≤ C := cnt_le _ _
  split <;> omega
theorem fit_getD {r : List Int} {n : Nat} (h : ∀ x ∈ r, 0 ≤ x ∧ x ≤ (n : Int)) (k : Nat) : 0 ≤ r.getD k 0 ∧ r.getD k 0 ≤ n := by
  by_cases hk : k < r.length
  · rw [List.getD_eq_getElem?_getD, List.getElem?_eq_getElem hk, Option.getD_some]
    exact h _ (List.getElem_mem hk)
  · rw [List.getD_eq_getElem?_getD, List.getElem?_eq_none (by omega)]
    exact ⟨Int.le_refl _, Int.natCast_nonneg n⟩
theorem chg_ranges {r c : List Int} {R C : Nat} {f : Nat → Nat → Int} (h : fitB r c = true) (hR : R = r.length) (hC : C = c.length) :
    (∀ k, (0 ≤ r.getD k 0 ∧ r.getD k 0 ≤ 10) ∧ 0 ≤ (rowsL R C f).getD k 0 ∧ (rowsL R C f).getD k 0 ≤ 10) ∧ ∀ k, (0 ≤ c.getD k 0 ∧ c.getD k 0 ≤ 10) ∧ 0 ≤ (rowsL C R (trM f)).getD k 0 ∧ (rowsL C R (trM f)).getD k 0 ≤ 10 := by
  obtain ⟨h1, h2, h3, h4⟩ := fit_yes h
  refine ⟨fun k => ?_, fun k => ?_⟩
  · have a := fit_getD h3 k
    have b := rowsL_getD R C f k
    omega
  · have a := fit_getD h4 k
    have b := rowsL_getD C R (trM f) k
    omega
theorem rowsL_congr13 {R C : Nat} {f g : Nat → Nat → Int} (h : ∀ y x, y < R → x < C → f y x = g y x) : rowsL R C f = rowsL R C g := by
  unfold rowsL
  refine rowF_congr fun y hy => ?_
  have : rs C f y = rs C g y := by
    unfold rs
    exact cnt_congr fun x hx => by rw [h y x hy hx]
  rw [this]
theorem chgF_congr {r c : List Int} {R C : Nat} {f g : Nat → Nat → Int} (h : ∀ y x, y < R → x < C → f y x = g y x) : chgF r c R C f = chgF r c R C g := by
  unfold chgF
  rw [rowsL_congr13 h, rowsL_congr13 (R := C) (C := R) (f := trM f) (g := trM g) fun y x hy hx => h x y hx hy]
theorem chg_yes {r c : List Int} {R C : Nat} {f : Nat → Nat → Int} (hI : Img R C f) (hf : fitB r c = true) (hok : okB (mkM R C f) = true) (hR : R = r.length) (hC : C = c.length) : chgOf r c (mkM R C f) = chgF r c R C f := by
  unfold chgOf chgB
  rw [hf, hok, mkM_len, width_mkM hI.r1, decide_eq_true hR, decide_eq_true hC]
  exact chgF_congr fun y x hy hx => cell_mk R C f hy hx
theorem chg_bound {r c : List Int} {R C : Nat} {f : Nat → Nat → Int} (h : fitB r c = true) (hR : R = r.length) (hC : C = c.length) : 0 ≤ chgF r c R C f ∧ chgF r c R C f ≤ 80 := by
  obtain ⟨h1, h2⟩ := chg_ranges (f := f) h hR hC
  obtain ⟨s1, s2, -⟩ := fit_yes h
  have a := gapL_range h1 R
  have b := gapL_range h2 C
  unfold chgF
  omega
set_option maxHeartbeats 2000000 in
theorem specChangeOf_any (va vb vm : Value) (r c : List Int) (m : List (List Int)) (w : World) (ha : InRow w va r) (hb : InRow w vb c) (hm : InMat w vm m) :
    Calls Try.prog 11 #[va, vb, vm] w fun e w' => e = .returned (.int .i64 (chgOf r c m)) ∧ Below w.heap.size w w' := by
  have HFT := hide (specSumsFit_any va vb r c w ha hb)
  have HOK := hide (specImageOk_any vm m w hm)
  cases hf : fitB r c with
  | false =>
    rw [hf] at HFT
    have HE : Hid (chgOf r c m = -1) := hide (by unfold chgOf chgB; rw [hf]; rfl)
    rw [HE.out]
    obtain ⟨aa, ca, rfl, -, -⟩ := ha
    obtain ⟨ab, cb, rfl, -, -⟩ := hb
    obtain ⟨am, cm, rfl, -, -⟩ := hm
    generalize r.length = nr at *
    generalize c.length = nc at *
    generalize m.length = nm at *
    clear hf HE
    go_enter Try.func11, Try.ntmps11
    go_wp2_with (go_at_call 6; refine HFT.out.mono ?_; rintro e w1 ⟨rfl, rfl⟩)
    go_ret
    exact ⟨rfl, Below.refl _ _⟩
  | true =>
    rw [hf] at HFT
    cases hok : okB m with
    | false =>
      rw [hok] at HOK
      have HE : Hid (chgOf r c m = -1) := hide (by unfold chgOf chgB; rw [hok, Bool.and_false]; rfl)
      rw [HE.out]
      obtain ⟨aa, ca, rfl, -, -⟩ := ha
      obtain ⟨ab, cb, rfl, -, -⟩ := hb
      obtain ⟨am, cm, rfl, -, -⟩ := hm
      generalize r.length = nr at *
      generalize c.length = nc at *
      generalize m.length = nm at *
      clear hf HE hok
      go_enter Try.func11, Try.ntmps11
      go_wp2_with (first | (go_at_call 6; refine HFT.out.mono ?_; rintro e w1 ⟨rfl, rfl⟩) | (go_at_call 21; refine HOK.out.mono ?_; rintro e w1 ⟨rfl, rfl⟩))
      go_ret
      exact ⟨rfl, Below.refl _ _⟩
    | true =>
      rw [hok] at HOK
      obtain ⟨R, C, f, rfl, hI⟩ := ok_img hok
      have hR1 := hI.r1; have hC1 := hI.c1; have hR5 := hI.r2; have hC5 := hI.c2
      have hw := width_mkM (C := C) (f := f) (show 0 < R by omega)
      have HA := hide ha; have HB := hide hb; have HM := hide hm
      obtain ⟨aa, ca, rfl, -, -⟩ := ha
      obtain ⟨ab, cb, rfl, -, -⟩ := hb
      obtain ⟨gm, om, cm, rfl, hgm, hra⟩ := inMat_img hm (by omega) (by omega)
      obtain ⟨g0, o0, k0, hc0, -, -⟩ := hra 0 (by omega)
      rw [Nat.add_zero] at hc0
      have hRp : (0 : Int) < R := by omega
      obtain ⟨nr, hnr⟩ : ∃ n, n = r.length := ⟨_, rfl⟩
      obtain ⟨nc, hnc⟩ : ∃ n, n = c.length := ⟨_, rfl⟩
      by_cases hRe : R = nr
      · by_cases hCe : C = nc
        · have hRI : (R : Int) = nr := by omega
          have hCI : (C : Int) = nc := by omega
          have HE := hide (chg_yes hI hf hok (hRe.trans hnr) (hCe.trans hnc))
          rw [HE.out]
          have HBD := chg_bound (f := f) hf (hRe.trans hnr) (hCe.trans hnc)
          obtain ⟨hr1, hr2⟩ := chg_ranges (f := f) hf (hRe.trans hnr) (hCe.trans hnc)
          have hb1 := gapL_range hr1 R
          have hb2 := gapL_range hr2 C
          have HG1 := hide fun (v : Value) (w' : World) (hb' : Below w.heap.size w w') (hv : InRow w' v (rowsL R C f)) => l13Gap_any (.slice aa r.length ca) v r (rowsL R C f) w' (inRow_below HA.out hb') hv (by unfold rowsL; rw [rowF_len, hRe, hnr]) (by omega) hr1
          have HG2 := hide fun (v : Value) (w' : World) (hb' : Below w.heap.size w w') (hv : InRow w' v (rowsL C R (trM f))) => l13Gap_any (.slice ab c.length cb) v c (rowsL C R (trM f)) w' (inRow_below HB.out hb') hv (by unfold rowsL; rw [rowF_len, hCe, hnc]) (by omega) hr2
          have HR1 := hide fun (w' : World) (hb' : Below w.heap.size w w') => specRowSums_yes (.slice (some ⟨gm, om, none⟩) R cm) R C f w' (inMat_below HM.out hb') hI
          have HR2 := hide fun (w' : World) (hb' : Below w.heap.size w w') => specColSums_yes (.slice (some ⟨gm, om, none⟩) R cm) R C f w' (inMat_below HM.out hb') hI
          have hD : chgF r c R C f = gapL r (rowsL R C f) R + gapL c (rowsL C R (trM f)) C := rfl
          have e1 : r.length = R := by omega
          have e2 : c.length = C := by omega
          rw [e1] at HG1 HFT ⊢
          rw [e2] at HG2 HFT ⊢
          obtain ⟨G1, hG1⟩ : ∃ G, G = gapL r (rowsL R C f) R := ⟨_, rfl⟩
          obtain ⟨G2, hG2⟩ : ∃ G, G = gapL c (rowsL C R (trM f)) C := ⟨_, rfl⟩
          rw [← hG1] at hb1 HG1 hD
          rw [← hG2] at hb2 HG2 hD
          rw [hD] at HBD ⊢
          obtain ⟨rr, hrr⟩ : ∃ rr, rr = rowsL R C f := ⟨_, rfl⟩
          obtain ⟨kk, hkk⟩ : ∃ kk, kk = rowsL C R (trM f) := ⟨_, rfl⟩
          rw [← hrr] at HG1 HR1
          rw [← hkk] at HG2 HR2
          clear HE hI hok hf hw hra hrr hkk hG1 hG2 hD hr1 hr2 hRe hCe hnr hnc hRI hCI e1 e2 HA HB HM
          go_enter Try.func11, Try.ntmps11
          go_wp2_with (first | (go_at_call 6; refine HFT.out.mono ?_; rintro e w1 ⟨rfl, rfl⟩) | (go_at_call 21; refine HOK.out.mono ?_; rintro e w1 ⟨rfl, rfl⟩) | ((with_reducible refine (HR1.out _ (Below.refl _ _)).mono ?_); rintro e w2 ⟨u2, rfl, ho, hb2'⟩; have HU2 := hide (inRow_own ho); have B2 := hide hb2'; clear ho hb2') | ((with_reducible refine (HG1.out _ _ B2.out HU2.out).mono ?_); rintro e w3 ⟨rfl, hb3'⟩; have B3 := hide (B2.out.trans (hb3'.mono B2.out.size)); clear hb3') | ((with_reducible refine (HR2.out _ B3.out).mono ?_); rintro e w4 ⟨u4, rfl, ho, hb4'⟩; have HU4 := hide (inRow_own ho); have B4 := hide (B3.out.trans (hb4'.mono B3.out.size)); clear ho hb4') | ((with_reducible refine (HG2.out _ _ B4.out HU4.out).mono ?_); rintro e w5 ⟨rfl, hb5'⟩; have B5 := hide (B4.out.trans (hb5'.mono B4.out.size)); clear hb5'))
          go_ret
          exact ⟨rfl, B5.out⟩
        · have HE : Hid (chgOf r c (mkM R C f) = -1) := hide (by unfold chgOf chgB; rw [hw, decide_eq_false (show ¬ C = c.length by omega), Bool.and_false]; rfl)
          have hRI : (R : Int) = nr := by omega
          have hCI : ¬ (C : Int) = nc := by omega
          rw [HE.out]
          rw [← hnr, ← hnc] at HFT ⊢
          subst hRe
          clear HE hI hok hf hw hra hnr hnc HA HB HM hRI
          go_enter Try.func11, Try.ntmps11
          go_wp2_with (first | (go_at_call 6; refine HFT.out.mono ?_; rintro e w1 ⟨rfl, rfl⟩) | (go_at_call 21; refine HOK.out.mono ?_; rintro e w1 ⟨rfl, rfl⟩))
          go_ret
          exact ⟨rfl, Below.refl _ _⟩
      · have HE : Hid (chgOf r c (mkM R C f) = -1) := hide (by unfold chgOf chgB; rw [mkM_len, decide_eq_false (show ¬ R = r.length by omega), Bool.and_false, Bool.false_and]; rfl)
        have hRI : ¬ (R : Int) = nr := by omega
        rw [HE.out]
        rw [← hnr, ← hnc] at HFT ⊢
        clear HE hI hok hf hw hra hnr hnc HA HB HM hRe
        go_enter Try.func11, Try.ntmps11
        go_wp2_with (first | (go_at_call 6; refine HFT.out.mono ?_; rintro e w1 ⟨rfl, rfl⟩) | (go_at_call 21; refine HOK.out.mono ?_; rintro e w1 ⟨rfl, rfl⟩))
        go_ret
        exact ⟨rfl, Below.refl _ _⟩
def parOf (r c : List Int) : Int := if fitB r c = true then (r.sum + c.sum) % 2 else -1
theorem fit_small {r c : List Int} (h : fitB r c = true) : SmallL r ∧ SmallL c := by
  obtain ⟨h1, h2, h3, h4⟩ := fit_yes h
  exact ⟨⟨by omega, fun i hi => by have := h3 _ (List.getElem_mem hi); omega⟩, ⟨by omega, fun i hi => by have := h4 _ (List.getElem_mem hi); omega⟩⟩
theorem small_sum13 {r : List Int} (h : SmallL r) : 0 ≤ r.sum ∧ r.sum ≤ 25 := by
  have := sum_small h r.length (Nat.le_refl _)
  rw [List.take_length] at this
  have := h.1
  omega
set_option maxHeartbeats 1000000 in
theorem specParityOf_any (va vb : Value) (r c : List Int) (w : World) (ha : InRow w va r) (hb : InRow w vb c) :
    Calls Try.prog 15 #[va, vb] w fun e w' => e = .returned (.int .i64 (parOf r c)) ∧ w = w' := by
  have HFT := hide (specSumsFit_any va vb r c w ha hb)
  cases hf : fitB r c with
  | false =>
    rw [hf] at HFT
    have HE : Hid (parOf r c = -1) := hide (by unfold parOf; rw [hf]; rfl)
    rw [HE.out]
    obtain ⟨aa, ca, rfl, -, -⟩ := ha
    obtain ⟨ab, cb, rfl, -, -⟩ := hb
    generalize r.length = nr at *
    generalize c.length = nc at *
    clear hf HE
    go_enter Try.func15, Try.ntmps15
    go_wp2_with (go_at_call 6; refine HFT.out.mono ?_; rintro e w1 ⟨rfl, rfl⟩)
    go_ret
    exact ⟨rfl, rfl⟩
  | true =>
    rw [hf] at HFT
    obtain ⟨s1, s2⟩ := fit_small hf
    have HT1 := hide (l03Total_any va r w ha s1)
    have HT2 := hide (l03Total_any vb c w hb s2)
    have hb1 := small_sum13 s1
    have hb2 := small_sum13 s2
    have HE : Hid (parOf r c = (r.sum + c.sum) % 2) := hide (by unfold parOf; rw [if_pos hf])
    rw [HE.out]
    obtain ⟨S, hS⟩ : ∃ S, S = r.sum := ⟨_, rfl⟩
    obtain ⟨T, hT⟩ : ∃ T, T = c.sum := ⟨_, rfl⟩
    rw [← hS] at HT1 hb1 ⊢
    rw [← hT] at HT2 hb2 ⊢
    obtain ⟨aa, ca, rfl, -, -⟩ := ha
    obtain ⟨ab, cb, rfl, -, -⟩ := hb
    generalize r.length = nr at *
    generalize c.length = nc at *
    clear hf HE s1 s2 hS hT
    go_enter Try.func15, Try.ntmps15
    go_wp2_with (first | (go_at_call 6; refine HFT.out.mono ?_; rintro e w1 ⟨rfl, rfl⟩) | ((with_reducible refine HT1.out.mono ?_); rintro e w1 ⟨rfl, rfl⟩) | ((with_reducible refine HT2.out.mono ?_); rintro e w1 ⟨rfl, rfl⟩))
    go_ret
    exact ⟨rfl, rfl⟩
end Go.Proofs.Ytinhdcchfeokpaa
