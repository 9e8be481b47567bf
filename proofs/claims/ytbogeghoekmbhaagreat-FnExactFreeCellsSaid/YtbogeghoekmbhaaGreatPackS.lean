/-
  Texts of this claim, one behind the other: Arr3, Arr4, Impl, SpecI, SwV, SwL, SwH, ReachS, SpecT, ColS, Eq, Same, Put, Dist, SpecD, SameS, SameB, Fix.
-/
import Derived.Test.YtbogeghoekmbhaaGreatPackR
import Derived.Test.YtbogeghoekmbhaaGreatPackG
import Derived.Test.YtbogeghoekmbhaaGreatPackF
import Derived.Test.YtbogeghoekmbhaaGreatPackJ
import Derived.Test.YtbogeghoekmbhaaGreatPackC
import Derived.Test.YtbogeghoekmbhaaGreatPackA
import Derived.Test.YtbogeghoekmbhaaGreatPackE
import Derived.Test.YtbogeghoekmbhaaGreatPackH
import Derived.Test.YtbogeghoekmbhaaGreatPackB
import Derived.Test.YtbogeghoekmbhaaGreatPackL
import Derived.Test.YtbogeghoekmbhaaGreatPackI
import Derived.Test.YtbogeghoekmbhaaGreatPackN
/-
  The program's images: inverted, distance, mirrored.
-/
namespace Go.Proofs.YtbogeghoekmbhaaGreat
open Go.RowKit

def invN (v : Int) : Int := if v = -1 then -1 else 1 - v
def upI (F : Nat → Int) (k : Nat) (i : Nat) : Int := if i < k then invN (F i) else F i
theorem upI_zero (F : Nat → Int) : upI F 0 = F := by funext i; simp [upI]
theorem upI_set (F : Nat → Int) (k : Nat) (v : Int) (h : invN (F k) = v) : (fun j => if j = k then v else upI F k j) = upI F (k + 1) := by
  funext j
  simp only [upI]
  by_cases e : j = k
  · subst e; simp [h]
  · rw [if_neg e]
    by_cases hl : j < k
    · rw [if_pos hl, if_pos (by omega)]
    · rw [if_neg hl, if_neg (by omega)]
theorem upI_skip (F : Nat → Int) (k : Nat) (h : F k = -1) : upI F k = upI F (k + 1) := by
  funext j
  simp only [upI]
  by_cases hl : j < k
  · rw [if_pos hl, if_pos (by omega)]
  · by_cases e : j = k
    · subst e; simp [h, invN]
    · rw [if_neg hl, if_neg (by omega)]
theorem upI_all (F : Nat → Int) : ∀ i, i < 25 → upI F (5 * 5) i = invN (F i) := fun i hi => by rw [upI, if_pos (by omega)]

/-- What distance answers: the number, and whether the sizes are the same. -/
def DistRes (b : Bool) (n : Nat) (w : World) (e : Ending) (w' : World) : Prop := e = .returned (.tuple #[.int .i64 (if b then n else 0 : Nat), .bool b]) ∧ Below w.heap.size w w'
theorem dist_no {b : Bool} {n : Nat} {w : World} {w' : World} (hb : b = false) (h : Below w.heap.size w w') : DistRes b n w (.returned (.tuple #[.int .i64 0, .bool false])) w' := by subst hb; exact ⟨rfl, h⟩
/-- Numbers put over others, from place o on. -/
def overF (F : Nat → Int) (o : Nat) (r : List Int) (j : Nat) : Int := if o ≤ j ∧ j < o + r.length then r.getD (j - o) 0 else F j
theorem blk_setCells {g n : Nat} {T : TypeId} : ∀ (r : List Int) (o : Nat) (w : World) (F : Nat → Int), Blk w g T n F → Blk (w.setCells g o (ints r)) g T n (overF F o r) ∧ w.grownBy (w.setCells g o (ints r)) (some g) ∧ (w.setCells g o (ints r)).heap.size = w.heap.size
  | [], o, w, F, h => ⟨blk_congr h fun i _ => by simp only [overF, List.length_nil]; rw [if_neg (by omega)], ⟨rfl, rfl, rfl, Nat.le_refl _, fun _ _ _ => rfl⟩, rfl⟩
  | x :: r, o, w, F, h => by
    have h1 := blk_set h o x
    obtain ⟨h2, h3, h4⟩ := blk_setCells r (o + 1) _ _ h1
    refine ⟨blk_congr h2 fun i _ => ?_, ?_, ?_⟩
    · simp only [overF, List.length_cons]
      by_cases e : i = o
      · subst e; rw [if_neg (by omega), if_pos rfl, if_pos (by omega), Nat.sub_self]; rfl
      · by_cases hl : o + 1 ≤ i ∧ i < o + 1 + r.length
        · rw [if_pos hl, if_pos (by omega), show i - o = (i - (o + 1)) + 1 by omega]; rfl
        · rw [if_neg hl, if_neg e, if_neg (by omega)]
    · refine grown_trans (b := w.setCell ⟨g, o, none⟩ (.int .i64 x)) ⟨rfl, rfl, rfl, by simp [World.setCell], fun k _ hr => heap_setCell_other w _ k _ fun e => hr (by rw [e])⟩ h3
    · show ((w.setCell ⟨g, o, none⟩ (.int .i64 x)).setCells g (o + 1) (ints r)).heap.size = w.heap.size
      rw [h4]; simp [World.setCell]
theorem vec_ints (n : Nat) (F : Nat → Int) : vecL n F = ints (rowF n F) := by simp [vecL, ints, rowF]

/-- A row goes into the middle of a variable. -/
theorem wpList_storeMid {P : Program} {ops : Array Oper} {rest : List Oper} {o : Oper} {a : Act} {Q : Exit → Act → World → Prop} {W : World} {g b n s : Nat} {T T' : TypeId} {F G : Nat → Int} (hb : Blk W g T n F)
    (hgd : o.guard = none) (x y : Operand) (ho : o.op = .store T' x y) (hx : a.eval x = .pointer (some ⟨g, b, none⟩)) (hy : a.eval y = .agg (vec s G)) (hi : (P.info? T').map (·.size) = some s) (hn : b + s ≤ n)
    (h : ∀ w', Blk w' g T n (fun j => if b ≤ j ∧ j < b + s then G (j - b) else F j) → W.grownBy w' (some g) → w'.heap.size = W.heap.size → wpList P ops Q rest (a.put o.dst undef) w') : wpList P ops Q (o :: rest) a W := by
  refine wpList_store_mid hgd T' x y ho g b (vec s G) hx hy (fun j hj => ?_) (by rw [hi, vec_size]) (vec_one s G) ?_
  · rw [vec_size] at hj
    exact ⟨by rw [blk_cell hb (b + j) (by omega)]; rfl, blk_frozen hb _⟩
  · have e : (vec s G).toList = ints (rowF s G) := by rw [← vec_ints]; rfl
    obtain ⟨h1, h2, h3⟩ := blk_setCells (rowF s G) b W F hb
    rw [e]
    refine h _ (blk_congr h1 fun i _ => ?_) h2 h3
    simp only [overF, rowF_len]
    by_cases hl : b ≤ i ∧ i < b + s
    · rw [if_pos hl, if_pos hl, List.getD_eq_getElem?_getD, List.getElem?_eq_getElem (by rw [rowF_len]; omega), Option.getD_some, rowF_at]
    · rw [if_neg hl, if_neg hl]

def mirR (n : Nat) (G : Nat → Int) (j : Nat) : Int := if j < n then G (n - 1 - j) else G j
end Go.Proofs.YtbogeghoekmbhaaGreat
/-
  The program's images: mirrored; the exported functions.
-/
namespace Go.Proofs.YtbogeghoekmbhaaGreat
open Go.RowKit

def mirM (C : Nat) (f : Nat → Nat → Int) (y x : Nat) : Int := f y (C - 1 - x)
def upMir (R C : Nat) (f : Nat → Nat → Int) (y : Nat) (i : Nat) : Int := if i / 5 < y then imgF R C (mirM C f) i else imgF R C f i
theorem upMir_zero (R C : Nat) (f : Nat → Nat → Int) : upMir R C f 0 = imgF R C f := by funext i; simp [upMir]
theorem upMir_all (R C : Nat) (f : Nat → Nat → Int) : ∀ i, i < 25 → upMir R C f 5 i = imgF R C (mirM C f) i := fun i hi => by rw [upMir, if_pos (by omega)]
theorem upMir_step (R C : Nat) (f : Nat → Nat → Int) (y n : Nat) (hC : C ≤ 5) (hn : n = if y < R then C else 0) : ∀ i, i < 25 →
    (if 0 + y * 5 ≤ i ∧ i < 0 + y * 5 + 5 then mirR n (fun j => imgF R C f (y * 5 + j)) (i - (0 + y * 5)) else upMir R C f y i) = upMir R C f (y + 1) i := fun i hi => by
  by_cases hl : 0 + y * 5 ≤ i ∧ i < 0 + y * 5 + 5
  · rw [if_pos hl, upMir, if_pos (by omega)]
    simp only [mirR, imgF]
    have e1 : i / 5 = y := by omega
    have e2 : i - (0 + y * 5) = i % 5 := by omega
    rw [e1, e2]
    by_cases hy : y < R
    · rw [if_pos hy] at hn
      subst hn
      by_cases hx : i % 5 < n
      · rw [if_pos hx, if_pos (by omega), if_pos ⟨hy, hx⟩, mirM, show (y * 5 + (n - 1 - i % 5)) / 5 = y by omega, show (y * 5 + (n - 1 - i % 5)) % 5 = n - 1 - i % 5 by omega]
      · rw [if_neg hx, if_neg (by omega), if_neg (by omega)]
    · rw [if_neg hy] at hn
      subst hn
      rw [if_neg (by omega), if_neg (by omega), if_neg (by omega)]
  · rw [if_neg hl, upMir, upMir]
    by_cases h2 : i / 5 < y
    · rw [if_pos h2, if_pos (by omega)]
    · rw [if_neg h2, if_neg (by omega)]

end Go.Proofs.YtbogeghoekmbhaaGreat
/-
  The program's exported functions on images.
-/
namespace Go.Proofs.YtbogeghoekmbhaaGreat
open Go.RowKit

def trM (f : Nat → Nat → Int) (y x : Nat) : Int := f x y
def invM (f : Nat → Nat → Int) (y x : Nat) : Int := 1 - f y x
theorem img_tr {R C : Nat} {f : Nat → Nat → Int} (h : Img R C f) : Img C R (trM f) := ⟨h.c1, h.c2, h.r1, h.r2, fun y x hy hx => h.cell x y hx hy⟩
theorem img_mir {R C : Nat} {f : Nat → Nat → Int} (h : Img R C f) : Img R C (mirM C f) := ⟨h.r1, h.r2, h.c1, h.c2, fun y x hy hx => h.cell y (C - 1 - x) hy (by omega)⟩
theorem img_inv {R C : Nat} {f : Nat → Nat → Int} (h : Img R C f) : Img R C (invM f) := ⟨h.r1, h.r2, h.c1, h.c2, fun y x hy hx => by rcases h.cell y x hy hx with e | e <;> simp [invM, e]⟩
theorem transposed_img (R C : Nat) (f : Nat → Nat → Int) (w : World) (_hI : Img R C f) :
    Calls Tryz.prog 71 #[.agg (vec 25 (imgF R C f))] w fun e w' => e = .returned (.agg (vec 25 (imgF C R (trM f)))) ∧ Below w.heap.size w w' := by
  rw [← vec_congr (n := 25) (F := fun i => imgF R C f (5 * (i % 5) + i / 5)) (G := imgF C R (trM f)) fun i hi => ?_]
  · exact transposed_any _ _
  · simp only [imgF, trM, show (5 * (i % 5) + i / 5) / 5 = i % 5 by omega, show (5 * (i % 5) + i / 5) % 5 = i / 5 by omega]
    by_cases h : i % 5 < R ∧ i / 5 < C
    · rw [if_pos h, if_pos ⟨h.2, h.1⟩]
    · rw [if_neg h, if_neg fun e => h ⟨e.2, e.1⟩]
set_option maxHeartbeats 400000 in
theorem implTransposeOf_no (v : Value) (m : List (List Int)) (w : World) (hin : InMat w v m) (h : okB m = false) :
    Calls Tryz.prog 47 #[v] w (MatRes [] w) := by
  have HI := hide hin; have H := hide h
  clear hin h
  go_enter Tryz.func47, Tryz.ntmps47
  go_wp2_with fail
  refine (imageOf_no v m _ HI.out H.out).mono ?_
  rintro e w1 ⟨rfl, b1⟩
  have B1 := hide b1
  clear b1
  go_wp2_with (first | (with_reducible refine wpList_allocVec 25 3 rfl rfl rfl Tryz.zeroImg ?_; intro wa ha ba sa) | (with_reducible refine wpList_storeVec ha rfl (.tmp 3) (.tmp 8) rfl rfl rfl Tryz.sizeImg ?_; intro wb hb gb sb) | (with_reducible refine wpList_loadVec hb 12 rfl rfl _ rfl rfl Tryz.underlying77 Tryz.sizeImg ?_))
  go_ret
  exact matRes_nil (B1.out.trans ((ba.mono B1.out.size).trans (grown_below gb (fun k hk => by cases hk; exact B1.out.size) (by have := B1.out.size; omega))))
set_option maxHeartbeats 400000 in
theorem implTransposeOf_yes (v : Value) (R C : Nat) (f : Nat → Nat → Int) (w : World) (hin : InMat w v (mkM R C f)) (hI : Img R C f) :
    Calls Tryz.prog 47 #[v] w (MatRes (mkM C R (trM f)) w) := by
  have HI := hide hin; have H := hide hI
  clear hin hI
  go_enter Tryz.func47, Tryz.ntmps47
  go_wp2_with fail
  refine (imageOf_yes v R C f _ HI.out H.out).mono ?_
  rintro e w1 ⟨rfl, b1⟩
  have B1 := hide b1
  clear b1
  go_wp2_with (first | (with_reducible refine wpList_allocVec 25 3 rfl rfl rfl Tryz.zeroImg ?_; intro wa ha ba sa) | (with_reducible refine wpList_storeVec ha rfl (.tmp 3) (.tmp 8) rfl rfl rfl Tryz.sizeImg ?_; intro wb hb gb sb) | (with_reducible refine wpList_loadVec hb 12 rfl rfl _ rfl rfl Tryz.underlying77 Tryz.sizeImg ?_))
  have B2 := hide (B1.out.trans ((ba.mono B1.out.size).trans (grown_below gb (fun k hk => by cases hk; exact B1.out.size) (by have := B1.out.size; omega))))
  clear ha ba sa hb gb sb
  refine (transposed_img R C f _ H.out).mono ?_
  rintro e w3 ⟨rfl, b3⟩
  have B3 := hide (B2.out.trans (b3.mono B2.out.size))
  clear b3
  go_wp2_with fail
  refine (lists_any C R (trM f) _ (img_tr H.out)).mono ?_
  rintro e w4 ⟨v4, rfl, o4, b4⟩
  have O4 := hide (ownMat_mono o4 B3.out.size (Nat.le_refl _)); have B4 := hide (B3.out.trans (b4.mono B3.out.size))
  clear o4 b4
  go_wp2
  go_ret
  exact ⟨_, rfl, O4.out, B4.out⟩

/-- The cell of a valid image, or -1. -/
def atM (R C : Nat) (f : Nat → Nat → Int) (y x : Int) : Int := if 0 ≤ y ∧ y < R ∧ 0 ≤ x ∧ x < C then f y.toNat x.toNat else -1
theorem img_zero {R C : Nat} (hR : 1 ≤ R ∧ R ≤ 5) (hC : 1 ≤ C ∧ C ≤ 5) : Img R C zeroM := ⟨hR.1, hR.2, hC.1, hC.2, fun _ _ _ _ => .inl rfl⟩
theorem whiteImage_img (R C : Nat) (w : World) :
    Calls Tryz.prog 95 #[.int .i64 R, .int .i64 C] w fun e w' => e = .returned (.agg (vec 25 (imgF R C zeroM))) ∧ Below w.heap.size w w' := by
  rw [← vec_congr (n := 25) (F := whiteF R C) (G := imgF R C zeroM) fun i hi => ?_]
  · exact whiteImage_any _ _ _
  · simp only [whiteF, imgF, zeroM]
    by_cases h : i / 5 < R ∧ i % 5 < C
    · rw [if_pos h, if_neg (by omega)]
    · rw [if_neg h, if_pos (by omega)]
end Go.Proofs.YtbogeghoekmbhaaGreat
/-
  The model's functions on images.
-/
namespace Go.Proofs.YtbogeghoekmbhaaGreat
open Go.RowKit

def inM (m : List (List Int)) (y x : Int) : Bool := okB m && decide (0 ≤ y ∧ y < m.length) && decide (0 ≤ x ∧ x < widthM m)
set_option maxHeartbeats 400000 in
theorem l02In_no (v : Value) (m : List (List Int)) (y x : Int) (w : World) (hin : InMat w v m) (h : okB m = false) :
    Calls Tryz.prog 36 #[v, .int .i64 y, .int .i64 x] w fun e w' => e = .returned (.bool false) ∧ w = w' := by
  have HI := hide hin; have H := hide h
  clear hin h
  go_enter Tryz.func36, Tryz.ntmps36
  go_wp2_with (with_reducible refine (specImageOk_any v m _ HI.out).mono ?_; rw [H.out]; rintro e w' ⟨rfl, rfl⟩)
  go_ret
  exact ⟨rfl, rfl⟩
set_option maxHeartbeats 400000 in
theorem l02In_img (v : Value) (R C : Nat) (f : Nat → Nat → Int) (y x : Int) (w : World) (hin : InMat w v (mkM R C f)) (hI : Img R C f) (b : Bool) (hb : b = true ↔ (0 ≤ y ∧ y < R ∧ 0 ≤ x ∧ x < C)) :
    Calls Tryz.prog 36 #[v, .int .i64 y, .int .i64 x] w fun e w' => e = .returned (.bool b) ∧ w = w' := by
  have HI := hide hin; have H := hide (img_ok hI)
  have hR := hI.r2; have hR1 := hI.r1; have hC := hI.c2; have hC1 := hI.c1
  obtain ⟨g, o, c, rfl, hg, hcell⟩ := inMat_img hin (by omega) (by omega)
  obtain ⟨g0, o0, c0, hx0, -⟩ := hcell 0 (by omega)
  rw [Nat.add_zero] at hx0
  have HB := hide hb
  clear hin hI hcell hb
  by_cases h1 : 0 ≤ y ∧ y ≤ (R : Int) - 1
  · have H1 := hide (decide_eq_true h1)
    by_cases h2 : 0 ≤ x ∧ x ≤ (C : Int) - 1
    · have H2 := hide (decide_eq_true h2)
      have HT : Hid (b = true) := hide (HB.out.2 (by omega))
      clear h1 h2
      go_enter Tryz.func36, Tryz.ntmps36
      go_wp2_with (first | (with_reducible refine (specImageOk_any _ _ _ HI.out).mono ?_; rw [H.out]; rintro e w' ⟨rfl, rfl⟩) | (with_reducible refine (l01In_any y 0 ((R : Int) - 1) _).mono ?_; rw [H1.out]; rintro e w' ⟨rfl, rfl⟩) | (with_reducible refine (l01In_any x 0 ((C : Int) - 1) _).mono ?_; rw [H2.out]; rintro e w' ⟨rfl, rfl⟩))
      go_ret
      exact ⟨ret_bool HT.out.symm, rfl⟩
    · have H2 := hide (decide_eq_false h2)
      have HT : Hid (b = false) := hide (by rw [Bool.eq_false_iff]; intro e; have := HB.out.1 e; omega)
      clear h1 h2
      go_enter Tryz.func36, Tryz.ntmps36
      go_wp2_with (first | (with_reducible refine (specImageOk_any _ _ _ HI.out).mono ?_; rw [H.out]; rintro e w' ⟨rfl, rfl⟩) | (with_reducible refine (l01In_any y 0 ((R : Int) - 1) _).mono ?_; rw [H1.out]; rintro e w' ⟨rfl, rfl⟩) | (with_reducible refine (l01In_any x 0 ((C : Int) - 1) _).mono ?_; rw [H2.out]; rintro e w' ⟨rfl, rfl⟩))
      go_ret
      exact ⟨ret_bool HT.out.symm, rfl⟩
  · have H1 := hide (decide_eq_false h1)
    have HT : Hid (b = false) := hide (by rw [Bool.eq_false_iff]; intro e; have := HB.out.1 e; omega)
    clear h1
    go_enter Tryz.func36, Tryz.ntmps36
    go_wp2_with (first | (with_reducible refine (specImageOk_any _ _ _ HI.out).mono ?_; rw [H.out]; rintro e w' ⟨rfl, rfl⟩) | (with_reducible refine (l01In_any y 0 ((R : Int) - 1) _).mono ?_; rw [H1.out]; rintro e w' ⟨rfl, rfl⟩))
    go_ret
    exact ⟨ret_bool HT.out.symm, rfl⟩

theorem cnt_row {R C : Nat} {f : Nat → Nat → Int} (p : Nat → Bool) (hp : ∀ i, imgF R C f i = -1 → p i = false) (y : Nat) (hC : C ≤ 5) : cnt p (5 * (y + 1)) = cnt p (5 * y + C) :=
  cnt_skip (by omega) fun i h1 h2 => hp i (by rw [imgF, if_neg (by omega)])
theorem cnt_end {R C : Nat} {f : Nat → Nat → Int} (p : Nat → Bool) (hp : ∀ i, imgF R C f i = -1 → p i = false) (hR : R ≤ 5) : cnt p 25 = cnt p (5 * R) :=
  cnt_skip (by omega) fun i h1 h2 => hp i (by rw [imgF, if_neg (by omega)])
end Go.Proofs.YtbogeghoekmbhaaGreat
/-
  Switches as values and in variables; a cell of an image; whether a switch is one of an image.
-/
namespace Go.Proofs.YtbogeghoekmbhaaGreat
open Go.RowKit

def swA (s : Sw) : Array Value := #[.int .i64 s.y1, .int .i64 s.y2, .int .i64 s.x1, .int .i64 s.x2]
def swV (s : Sw) : Value := .agg (swA s)
theorem swA_size (s : Sw) : (swA s).size = 4 := rfl
theorem swA_one (s : Sw) : (swA s).all (·.oneCell') = true := by simp [swA, Value.oneCell']
/-- The cell of five rows of five, -1 outside. -/
def cellF (F : Nat → Int) (y x : Int) : Int := if 0 ≤ y ∧ y < 5 ∧ 0 ≤ x ∧ x < 5 then F (5 * y.toNat + x.toNat) else -1
/-- Whether the switch is one of the image. -/
def hasF (F : Nat → Int) (s : Sw) : Bool :=
  decide (s.y1 < s.y2) && decide (s.x1 < s.x2) && decide (cellF F s.y1 s.x1 ≠ cellF F s.y1 s.x2) && decide (cellF F s.y2 s.x1 = cellF F s.y1 s.x2) && decide (cellF F s.y2 s.x2 = cellF F s.y1 s.x1)
theorem cellF_img {R C : Nat} {f : Nat → Nat → Int} (h : Img R C f) (y x : Int) : cellF (imgF R C f) y x = if 0 ≤ y ∧ y < R ∧ 0 ≤ x ∧ x < C then f y.toNat x.toNat else -1 := by
  have hR := h.r2; have hC := h.c2
  unfold cellF
  by_cases h0 : 0 ≤ y ∧ y < 5 ∧ 0 ≤ x ∧ x < 5
  · rw [if_pos h0, imgF_at _ _ _ _ _ (by omega)]
    by_cases h1 : 0 ≤ y ∧ y < R ∧ 0 ≤ x ∧ x < C
    · rw [if_pos (by omega), if_pos h1]
    · rw [if_neg (by omega), if_neg h1]
  · rw [if_neg h0, if_neg (by omega)]
theorem hasF_img {R C : Nat} {f : Nat → Nat → Int} (h : Img R C f) (s : Sw) : hasF (imgF R C f) s = swF R C f s := by
  have hR := h.r2; have hC := h.c2
  obtain ⟨y1, y2, x1, x2⟩ := s
  rw [Bool.eq_iff_iff]
  simp only [hasF, cellF_img h, swF, four, Bool.and_eq_true, decide_eq_true_eq]
  by_cases hh : (0 ≤ y1 ∧ 0 ≤ x1) ∧ y1 < y2 ∧ x1 < x2
  · obtain ⟨⟨h1, h2⟩, h3, h4⟩ := hh
    obtain ⟨a, rfl⟩ : ∃ a : Nat, y1 = a := ⟨y1.toNat, by omega⟩
    obtain ⟨b, rfl⟩ : ∃ b : Nat, y2 = b := ⟨y2.toNat, by omega⟩
    obtain ⟨c, rfl⟩ : ∃ c : Nat, x1 = c := ⟨x1.toNat, by omega⟩
    obtain ⟨d, rfl⟩ : ∃ d : Nat, x2 = d := ⟨x2.toNat, by omega⟩
    simp only [Int.toNat_natCast]
    by_cases hb : b < R ∧ d < C
    · obtain ⟨hb, hd⟩ := hb
      have e1 := h.cell a c (by omega) (by omega); have e2 := h.cell a d (by omega) (by omega); have e3 := h.cell b c (by omega) (by omega); have e4 := h.cell b d (by omega) (by omega)
      rw [if_pos (by omega), if_pos (by omega), if_pos (by omega), if_pos (by omega)]
      omega
    · constructor
      · intro hx
        exfalso
        obtain ⟨⟨⟨⟨-, -⟩, g1⟩, g2⟩, g3⟩ := hx
        rw [if_neg (show ¬ (0 ≤ (b : Int) ∧ (b : Int) < R ∧ 0 ≤ (d : Int) ∧ (d : Int) < C) by omega)] at g3
        by_cases hc : a < R ∧ c < C
        · have := h.cell a c hc.1 hc.2
          rw [if_pos (by omega)] at g3
          omega
        · rw [if_neg (show ¬ (0 ≤ (a : Int) ∧ (a : Int) < R ∧ 0 ≤ (c : Int) ∧ (c : Int) < C) by omega)] at g1
          rw [if_neg (by omega)] at g1
          exact g1 rfl
      · rintro ⟨-, h5⟩; omega
  · constructor
    · intro hx
      exfalso
      obtain ⟨⟨⟨⟨k1, k2⟩, g1⟩, g2⟩, g3⟩ := hx
      have hn : ¬ (0 ≤ y1 ∧ 0 ≤ x1) := fun e => hh ⟨e, k1, k2⟩
      rw [if_neg (show ¬ (0 ≤ y1 ∧ y1 < R ∧ 0 ≤ x1 ∧ x1 < C) by omega)] at g1 g3
      split at g1 <;> split at g3 <;> split at g2 <;> first | omega | skip
      all_goals first | (exact g1 rfl) | skip
      all_goals (rename_i q1 q2 q3; omega)
    · rintro ⟨⟨⟨⟨k1, k2⟩, k3⟩, k4⟩, -⟩
      exact absurd ⟨⟨k1, k2⟩, k3, k4⟩ hh
end Go.Proofs.YtbogeghoekmbhaaGreat
/-
  Lists of switches in memory.
-/
namespace Go.Proofs.YtbogeghoekmbhaaGreat
open Go.RowKit

def cellsS (l : List Sw) : List Value := l.flatMap fun s => [.int .i64 s.y1, .int .i64 s.y2, .int .i64 s.x1, .int .i64 s.x2]
theorem cellsS_len (l : List Sw) : (cellsS l).length = l.length * 4 := by
  induction l with
  | nil => rfl
  | cons s l ih =>
    simp only [cellsS, List.flatMap_cons, List.length_append, List.length_cons, List.length_nil] at ih ⊢
    omega
theorem cellsS_snoc (l : List Sw) (s : Sw) : cellsS (l ++ [s]) = cellsS l ++ (swA s).toList := by
  simp [cellsS, swA]
theorem cellsS_at : ∀ (l : List Sw) (i : Nat) (h : i < l.length), (cellsS l)[i * 4]? = some (.int .i64 l[i].y1) ∧ (cellsS l)[i * 4 + 1]? = some (.int .i64 l[i].y2) ∧ (cellsS l)[i * 4 + 2]? = some (.int .i64 l[i].x1) ∧ (cellsS l)[i * 4 + 3]? = some (.int .i64 l[i].x2)
  | [], i, h => absurd h (Nat.not_lt_zero _)
  | s :: l, 0, _ => ⟨rfl, rfl, rfl, rfl⟩
  | s :: l, i + 1, h => by
    have := cellsS_at l i (by simpa using h)
    have e : cellsS (s :: l) = [.int .i64 s.y1, .int .i64 s.y2, .int .i64 s.x1, .int .i64 s.x2] ++ cellsS l := by simp [cellsS]
    rw [e]
    simp only [List.getElem_cons_succ]
    refine ⟨?_, ?_, ?_, ?_⟩
    · rw [List.getElem?_append_right (by simp; omega)]
      simpa [show (i + 1) * 4 - 4 = i * 4 by omega] using this.1
    · rw [List.getElem?_append_right (by simp; omega)]
      simpa [show (i + 1) * 4 + 1 - 4 = i * 4 + 1 by omega] using this.2.1
    · rw [List.getElem?_append_right (by simp; omega)]
      simpa [show (i + 1) * 4 + 2 - 4 = i * 4 + 2 by omega] using this.2.2.1
    · rw [List.getElem?_append_right (by simp; omega)]
      simpa [show (i + 1) * 4 + 3 - 4 = i * 4 + 3 by omega] using this.2.2.2
/-- The four cells of a switch. -/
def SwC (w : World) (g k : Nat) (s : Sw) : Prop := w.cell? ⟨g, k, none⟩ = some (.int .i64 s.y1) ∧ w.cell? ⟨g, k + 1, none⟩ = some (.int .i64 s.y2) ∧ w.cell? ⟨g, k + 2, none⟩ = some (.int .i64 s.x1) ∧ w.cell? ⟨g, k + 3, none⟩ = some (.int .i64 s.x2)
theorem swC_below {w w' : World} {g k : Nat} {s : Sw} (h : SwC w g k s) (hb : Below w.heap.size w w') (hg : g < w.heap.size) : SwC w' g k s :=
  ⟨below_cell hb hg h.1, below_cell hb hg h.2.1, below_cell hb hg h.2.2.1, below_cell hb hg h.2.2.2⟩
/-- The slice v reads as the switches l. -/
def InSws (w : World) (v : Value) (l : List Sw) : Prop :=
  ∃ a c, v = .slice a l.length c ∧ l.length ≤ maxLen ∧ (l.length = 0 ∨ ∃ g o, a = some ⟨g, o, none⟩ ∧ g < w.heap.size ∧ ∀ i, (h : i < l.length) → SwC w g (o + i * 4) l[i])
theorem inSws_below {w w' : World} {v : Value} {l : List Sw} (h : InSws w v l) (hb : Below w.heap.size w w') : InSws w' v l := by
  obtain ⟨a, c, hv, hm, hp⟩ := h
  refine ⟨a, c, hv, hm, ?_⟩
  rcases hp with h0 | ⟨g, o, ha, hg, hc⟩
  · exact .inl h0
  · exact .inr ⟨g, o, ha, Nat.lt_of_lt_of_le hg hb.size, fun i hi => swC_below (hc i hi) hb hg⟩
theorem inSws_nil (w : World) : InSws w (.slice none 0 0) [] := ⟨none, 0, rfl, Nat.zero_le _, .inl rfl⟩
end Go.Proofs.YtbogeghoekmbhaaGreat
/-
  The exact laws' helpers at switches: toSwitch, toSwitchS, szSwitchS, markSwitchS, heldSwitchS.
-/
namespace Go.Proofs.YtbogeghoekmbhaaGreat
open Go.RowKit

def set4 (xs : List Value) (k : Nat) (s : Sw) : List Value := (((xs.set k (.int .i64 s.y1)).set (k + 1) (.int .i64 s.y2)).set (k + 2) (.int .i64 s.x1)).set (k + 3) (.int .i64 s.x2)
theorem set4_len (xs : List Value) (k : Nat) (s : Sw) : (set4 xs k s).length = xs.length := by simp [set4]
theorem set4_fill {l : List Sw} {xs : List Value} {k : Nat} (h : xs.length = l.length * 4) (hk : k < l.length) : set4 (cellsS (l.take k) ++ xs.drop (k * 4)) (k * 4) l[k] = cellsS (l.take (k + 1)) ++ xs.drop ((k + 1) * 4) := by
  have hl : (cellsS (l.take k)).length = k * 4 := by rw [cellsS_len, List.length_take]; omega
  obtain ⟨a, b, c, d, r, hr⟩ : ∃ a b c d r, xs.drop (k * 4) = a :: b :: c :: d :: r := by
    have : 4 ≤ (xs.drop (k * 4)).length := by rw [List.length_drop]; omega
    match hx : xs.drop (k * 4), this with
    | a :: b :: c :: d :: r, _ => exact ⟨a, b, c, d, r, rfl⟩
  have hd : xs.drop ((k + 1) * 4) = r := by
    rw [show (k + 1) * 4 = k * 4 + 4 by omega, ← List.drop_drop, hr]; rfl
  rw [hd, hr, List.take_succ_eq_append_getElem hk, cellsS_snoc]
  unfold set4
  rw [List.set_append_right _ _ (by omega), List.set_append_right _ _ (by omega), List.set_append_right _ _ (by omega), List.set_append_right _ _ (by omega), hl]
  rw [show k * 4 - k * 4 = 0 by omega, show k * 4 + 1 - k * 4 = 1 by omega, show k * 4 + 2 - k * 4 = 2 by omega, show k * 4 + 3 - k * 4 = 3 by omega]
  simp [swA]
def SizeS (n left : Nat) (w : World) (e : Ending) (w' : World) : Prop := ∃ r : Int, e = .returned (.int .i64 r) ∧ ((r = -1) ∨ (n ≤ left ∧ r = (left - n : Nat))) ∧ w = w'
/-- The cells are marked one after the other. -/
theorem mark_cell (q j m : Nat) (xs : List Value) (hl : xs.length = m) (hj : j < m) : (ints (markR j q) ++ xs.drop j).set j (.int .i64 ((q + j : Nat) : Int)) = ints (markR (j + 1) q) ++ xs.drop (j + 1) := markR_set m q j xs hl hj
/-- A slice of n elements of four cells, each one greater than the one before. -/
def HeldC (w : World) (v : Value) (n q : Nat) : Prop := ∃ a c, v = .slice a n c ∧ n ≤ maxLen ∧ (n = 0 ∨ ∃ g o, a = some ⟨g, o, none⟩ ∧ g < w.heap.size ∧ ∀ j, j < n * 4 → w.cell? ⟨g, o + j, none⟩ = some (.int .i64 ((q + j : Nat) : Int)))
theorem heldC_below {w w' : World} {v : Value} {n q : Nat} (h : HeldC w v n q) (hb : Below w.heap.size w w') : HeldC w' v n q := by
  obtain ⟨a, c, hv, hm, hp⟩ := h
  refine ⟨a, c, hv, hm, ?_⟩
  rcases hp with h0 | ⟨g, o, ha, hg, hc⟩
  · exact .inl h0
  · exact .inr ⟨g, o, ha, Nat.lt_of_lt_of_le hg hb.size, fun j hj => below_cell hb hg (hc j hj)⟩
theorem heldC_own {w : World} {base e n q : Nat} {v : Value} (h : w.ownsRow base e 4 v n (ints (markR (n * 4) q))) : HeldC w v n q := by
  rcases h.2 with ⟨rfl, h0⟩ | ⟨g, cap, cur, rfl, hbg, hg, hc, hm, _⟩
  · exact ⟨none, 0, by rw [h0], by omega, .inl h0⟩
  · refine ⟨_, _, rfl, by omega, .inr ⟨g, 0, rfl, (Array.getElem?_eq_some_iff.1 hg).1, fun j hj => ?_⟩⟩
    rw [Nat.zero_add, h.cellAt j hj, ints_at _ j (by rw [markR_len]; exact hj), markR_at]
end Go.Proofs.YtbogeghoekmbhaaGreat
/-
  l07Reach of the model: a search in the alternating graph.
-/
namespace Go.Proofs.YtbogeghoekmbhaaGreat
open Go.RowKit
set_option maxRecDepth 100000

theorem Tryz.infoBool : (Tryz.prog.info? 4).map (fun i => (i.zero, i.size, i.bytes)) = some (some (.bool false), 1, 1) := by kernel_rfl
/-- Bools by number. -/
def bools (n : Nat) (b : Nat → Bool) : List Value := (List.range n).map fun i => .bool (b i)
theorem bools_len (n : Nat) (b : Nat → Bool) : (bools n b).length = n := by simp [bools]
theorem bools_at {n : Nat} {b : Nat → Bool} {i : Nat} (h : i < n) : (bools n b)[i]? = some (.bool (b i)) := by simp [bools, h]
theorem bools_none (n : Nat) : List.replicate n (Value.bool false) = bools n fun _ => false := by
  refine List.ext_getElem? fun i => ?_
  by_cases h : i < n
  · rw [bools_at h]; simp [h]
  · simp [bools, h]
theorem bools_set {n : Nat} (b : Nat → Bool) (k : Nat) (z : Bool) : (bools n b).set k (.bool z) = bools n fun i => if i = k then z else b i := by
  refine List.ext_getElem? fun i => ?_
  rw [List.getElem?_set]
  by_cases h : i < n
  · rw [bools_at (b := fun i => if i = k then z else b i) h, bools_len]
    by_cases e : k = i
    · subst e; simp [h]
    · rw [if_neg e, bools_at h, if_neg (Ne.symm e)]
  · have h1 : (bools n fun i => if i = k then z else b i)[i]? = none := by simp [bools, h]
    have h2 : (bools n b)[i]? = none := by simp [bools, h]
    rw [h1, h2, bools_len]
    by_cases e : k = i
    · subst e; simp [h]
    · rw [if_neg e]
/-- Marks of the call's own. -/
def Marks (w : World) (lo g n : Nat) (b : Nat → Bool) : Prop := w.ownsRow lo 4 1 (.slice (some ⟨g, 0, none⟩) n n) n (bools n b)
theorem marks_below {w w' : World} {lo g n : Nat} {b : Nat → Bool} (h : Marks w lo g n b) (hb : Below w.heap.size w w') : Marks w' lo g n b := own_below h hb
theorem marks_cell {w : World} {lo g n : Nat} {b : Nat → Bool} (h : Marks w lo g n b) {i : Nat} (hi : i < n) : w.cell? ⟨g, i, none⟩ = some (.bool (b i)) ∧ w.frozen? ⟨g, i, none⟩ = false := by
  refine ⟨?_, h.frozenAt i⟩
  rw [World.ownsRow.cellAt h i (by omega)]; exact bools_at hi
theorem marks_lt {w : World} {lo g n : Nat} {b : Nat → Bool} (h : Marks w lo g n b) : lo ≤ g ∧ g < w.heap.size := h.lt g rfl
theorem marks_set {w : World} {lo g n : Nat} {b : Nat → Bool} (h : Marks w lo g n b) (k : Nat) : Marks (w.setCell ⟨g, k, none⟩ (.bool true)) lo g n (fun i => if i = k then true else b i) ∧ w.grownBy (w.setCell ⟨g, k, none⟩ (.bool true)) (some g) := by
  obtain ⟨h1, h2⟩ := h.stored k (.bool true)
  rw [bools_set] at h1
  exact ⟨h1, h2⟩
/-- What stands through the search. -/
def RSt (w : World) (R C N : Nat) (f : Nat → Nat → Int) (s g : Nat) (q : List Nat) (a k : Nat) (qv : Value) (w' : World) : Prop :=
  Rb R C f s q a k ∧ Marks w' w.heap.size g N (fun v => decide (v ∈ q)) ∧ w'.ownsRow w.heap.size 3 1 qv q.length (ints (q.map fun v : Nat => (v : Int))) ∧ Below w.heap.size w w'
/-- What it answers. -/
def ReachRes (R C : Nat) (f : Nat → Nat → Int) (s : Nat) (w : World) (e : Ending) (w' : World) : Prop :=
  ∃ g b, e = .returned (.slice (some ⟨g, 0, none⟩) (R + C) (R + C)) ∧ Marks w' w.heap.size g (R + C) b ∧ Below w.heap.size w w' ∧ ∀ v, v < R + C → (b v = true ↔ Rch R C f s v)
theorem que_at {q : List Nat} {a : Nat} (h : a < q.length) : (ints (q.map fun v : Nat => (v : Int)))[a]? = some (.int .i64 ((q.getD a 0 : Nat) : Int)) := by
  simp [ints, h, List.getD_eq_getElem?_getD]
theorem mem_snoc (q : List Nat) (k : Nat) : (fun i => if i = k then true else decide (i ∈ q)) = fun v => decide (v ∈ q ++ [k]) := by
  funext i
  by_cases e : i = k
  · subst e; simp
  · simp [e]
set_option maxHeartbeats 8000000 in
theorem l07Reach_any (v : Value) (R C : Nat) (f : Nat → Nat → Int) (s : Nat) (w : World) (hin : InMat w v (mkM R C f)) (hI : Img R C f) (hs : s < R + C) :
    Calls Tryz.prog 37 #[v, .int .i64 s] w (ReachRes R C f s w) := by
  have hR := hI.r2; have hC := hI.c2; have hR1 := hI.r1; have hC1 := hI.c1
  have H := hide hI
  obtain ⟨g0, o0, c0, rfl, hg0, hcell⟩ := inMat_img hin (by omega) (by omega)
  have HC := hide hcell
  obtain ⟨g1, o1, k1, hr0, -, -⟩ := hcell 0 (by omega)
  rw [Nat.add_zero] at hr0
  have hlen := fun q a k (h : Rb R C f s q a k) => rb_len h
  have HLEN := hide hlen
  have HRB := hide (rb_start (f := f) hs)
  obtain ⟨N, hN⟩ : ∃ N, N = R + C := ⟨_, rfl⟩
  have HN := hide hN
  have hNI : (R : Int) + (C : Int) = (N : Int) := by omega
  have hsN : s < N := by omega
  have hsI : (s : Int) < (N : Int) := by omega
  have hN10 : N ≤ 10 := by omega
  clear hin hcell hI hlen hs hN
  go_enter Tryz.func37, Tryz.ntmps37
  go_wp2_with (at_make; refine wpList_new w.heap.size N (.bool false) rfl _ _ rfl Tryz.underlying47 Tryz.infoBool rfl (by decide) rfl rfl (by omega) (Nat.le_refl _) ?_; intro w1 ho1 hb1 hg1; rw [bools_none] at ho1; have hz1 := hb1.size; have hm1 : Marks (w1.alloc (.cells #[.int .i64 (s : Int)] 3)) w.heap.size w.heap.size N (fun _ => false) := own_below ho1 ((Below.refl _ _).alloc (Nat.le_refl _) _); obtain ⟨hc1, hf1⟩ := marks_cell hm1 hsN)
  obtain ⟨w2, hw2⟩ : ∃ w2, w2 = w1.alloc (.cells #[.int .i64 (s : Int)] 3) := ⟨_, rfl⟩
  have hq2 : w2.ownsRow w.heap.size 3 1 (.slice (some ⟨w1.heap.size, 0, none⟩) 1 1) 1 [.int .i64 (s : Int)] := by rw [hw2]; exact World.ownsRow_lit w1 #[.int .i64 (s : Int)] 1 hz1 (by decide) rfl
  have hb2 : Below w.heap.size w w2 := by rw [hw2]; exact hb1.alloc hz1 _
  rw [← hw2] at hm1 ⊢
  obtain ⟨hm3, hg3⟩ := marks_set hm1 s
  have HST : Hid (RSt w R C N f s w.heap.size [s] 0 0 (.slice (some ⟨w1.heap.size, 0, none⟩) 1 1) (w2.setCell ⟨w.heap.size, s, none⟩ (.bool true))) := hide ⟨HRB.out, by
    rw [show (fun v => decide (v ∈ [s])) = fun i => if i = s then true else false by funext i; by_cases e : i = s <;> simp [e]]; exact hm3, hq2.kept hg3 (own_types hq2 hm1 (by decide)), hb2.setCell (Nat.le_refl _) _⟩
  clear ho1 hb1 hg1 hm1 hc1 hf1 hw2 hq2 hb2 hm3 hg3 HRB hz1 hr0
  go_loopw [7, 8] (fun qv t w' => ∃ (q : List Nat) (a : Nat) (u : Value), t = .int .i64 a ∧ u = qv ∧ RSt w R C N f s w.heap.size q a 0 u w') (fun _ t _ => 10 - (intOf t).toNat)
  case atStart => exact ⟨[s], 0, _, rfl, rfl, HST.out⟩
  case round =>
    clear HST
    obtain ⟨q, a, qv, rfl, rfl, hst⟩ := hrel
    have HST := hide hst
    have hql := HLEN.out q a 0 hst.1
    have hal := hst.1.le
    obtain ⟨qa, qc, rfl⟩ := own_slice hst.2.2.1
    by_cases hlt : a < q.length
    · obtain ⟨gq, gc, e, -, hgq, -, -, hqc, -⟩ := ownA_some hst.2.2.1 (show 0 < q.length by omega)
      injection e with e1 e2 e3
      subst e1
      clear e2 e3
      have hqa := hqc a (by omega)
      rw [que_at hlt] at hqa
      have huN := rb_at hst.1 hlt
      obtain ⟨u, hu⟩ : ∃ u, u = q.getD a 0 := ⟨_, rfl⟩
      rw [← hu] at hqa huN
      have HU := hide hu
      rw [← HN.out] at huN
      obtain ⟨n, hn⟩ : ∃ n, n = q.length := ⟨_, rfl⟩
      have HNQ := hide hn
      rw [← hn] at HST hlt ⊢
      have hltI : (a : Int) < (n : Int) := by omega
      have ha10 : a < 10 := by omega
      clear hst hqc hu hn hql hal
      go_wp2
      go_loopw [7, 38] (fun qv t w' => ∃ (q : List Nat) (k : Nat) (y : Value), k ≤ N ∧ t = .int .i64 k ∧ y = qv ∧ a < q.length ∧ u = q.getD a 0 ∧ RSt w R C N f s w.heap.size q a k y w') (fun _ t _ => N - (intOf t).toNat)
      case atStart => exact ⟨q, 0, _, Nat.zero_le _, rfl, rfl, by rw [← HNQ.out]; exact hlt, HU.out, HST.out⟩
      case round =>
        clear HST HU HNQ hlt hltI hqa hgq
        obtain ⟨q1, k, y, hk, rfl, rfl, hlt, hu, hst⟩ := hrel
        have HST := hide hst; have HU := hide hu; have HLT := hide hlt
        have hql := HLEN.out q1 a k hst.1
        obtain ⟨qa, qc2, rfl⟩ := own_slice hst.2.2.1
        by_cases hkN : k < N
        · have hkI : (k : Int) < (N : Int) := by omega
          obtain ⟨hmc, hmf⟩ := marks_cell hst.2.1 hkN
          have hB := hst.2.2.2
          obtain ⟨nq, hnq⟩ : ∃ nq, nq = q1.length := ⟨_, rfl⟩
          have HNQ := hide hnq
          rw [← hnq] at HST hql ⊢
          clear hu hst hlt hnq
          by_cases hu2 : u < R
          · have hu2I : (u : Int) < (R : Int) := by omega
            by_cases hk2 : k < R
            · have hk2I : (k : Int) < (R : Int) := by omega
              have HE : Hid (edge R f u k = false) := hide (by unfold edge; simp only [Bool.or_eq_false_iff, Bool.and_eq_false_iff, decide_eq_false_iff_not]; omega)
              have HSK := hide (rb_skip HST.out.1 (by rw [← HU.out, HE.out]; exact (fun h => by cases h)))
              go_wp2
              go_roundw
              case rel => exact ⟨q1, k + 1, _, by omega, by go_num, rfl, HLT.out, HU.out, HSK.out, HST.out.2⟩
              case measure => simp [intOf]; omega
            · have hk2I : (R : Int) ≤ (k : Int) := by omega
              obtain ⟨x, hx⟩ : ∃ x, k = R + x := ⟨k - R, by omega⟩
              have hxC : x < C := by omega
              have hsub2 : (k : Int) - (R : Int) = (x : Int) := by omega
              have HE : Hid (edge R f u k = (f u x == 1)) := hide (by rw [hx]; exact edge_rc hu2)
              obtain ⟨gr, or', kr, hrow, hgr, hcl⟩ := HC.out u hu2
              have hz := below_cell hB hgr (hcl x hxC)
              have hrow' := below_cell hB hg0 hrow
              have HCL := hide (H.out.cell u x hu2 hxC)
              have hxI : (x : Int) < (C : Int) := by omega
              obtain ⟨z, hzz⟩ : ∃ z, z = f u x := ⟨_, rfl⟩
              rw [← hzz] at hz HCL HE
              clear hrow hcl hzz hx
              rcases HCL.out with rfl | rfl
              · have HSK := hide (rb_skip HST.out.1 (by rw [← HU.out, HE.out]; exact (fun h => by cases h)))
                go_wp2
                go_roundw
                case rel => exact ⟨q1, k + 1, _, by omega, by go_num, rfl, HLT.out, HU.out, HSK.out, HST.out.2⟩
                case measure => simp [intOf]; omega
              · by_cases hin : k ∈ q1
                · rw [decide_eq_true hin] at hmc
                  have HSK := hide (rb_skip HST.out.1 (by rw [← HU.out, HE.out]; exact (fun _ => hin)))
                  go_wp2
                  go_roundw
                  case rel => exact ⟨q1, k + 1, _, by omega, by go_num, rfl, HLT.out, HU.out, HSK.out, HST.out.2⟩
                  case measure => simp [intOf]; omega
                · rw [decide_eq_false hin] at hmc
                  have HPU := hide (rb_push HST.out.1 HLT.out (by rw [← HN.out]; exact hkN) (by rw [← HU.out, HE.out]; rfl) hin)
                  have HMS := hide (marks_set HST.out.2.1 k)
                  rw [mem_snoc] at HMS
                  have HQS := hide (HST.out.2.2.1.kept HMS.out.2 (own_types HST.out.2.2.1 HST.out.2.1 (by decide)))
                  have HBS := hide (HST.out.2.2.2.setCell (p := ⟨w.heap.size, k, none⟩) (Nat.le_refl _) (.bool true))
                  have HZ := hide hB.size
                  clear hB
                  go_wp2_with (at_builtin; refine wpList_push (base := w.heap.size) HQS.out (.int .i64 (k : Int)) (.int .i64 0) rfl (.tmp 88) (.tmp 90) rfl Tryz.underlying28 Tryz.infoInt rfl (by decide) rfl (by rw [show (wr.setCell ⟨w.heap.size, k, none⟩ (.bool true)).heap.size = wr.heap.size from by simp [World.setCell]]; rfl) rfl (by have := HNQ.out; omega) (by have := HZ.out; simp [World.setCell]; omega) ?_; intro v91 w9 ho9 hb9 hg9)
                  have HQ9 := hide ho9; have HM9 := hide (HMS.out.1.kept hg9 (own_types HMS.out.1 HQS.out (by decide))); have HB9 := hide (HBS.out.trans hb9)
                  obtain ⟨a91, c91, rfl⟩ := own_slice ho9
                  clear ho9 hb9 hg9
                  go_wp2
                  go_roundw
                  case rel => exact ⟨q1 ++ [k], k + 1, _, by omega, by go_num, rfl, by have := HLT.out; simp; omega, by rw [getD_snoc_lt _ _ _ HLT.out]; exact HU.out, HPU.out, HM9.out, by simpa [ints] using HQ9.out, HB9.out⟩
                  case measure => simp [intOf]; omega
          · have hu2I : (R : Int) ≤ (u : Int) := by omega
            by_cases hk2 : k < R
            · have hk2I : (k : Int) < (R : Int) := by omega
              obtain ⟨x, hx⟩ : ∃ x, u = R + x := ⟨u - R, by omega⟩
              have hxC : x < C := by omega
              have hsub2 : (u : Int) - (R : Int) = (x : Int) := by omega
              have HE : Hid (edge R f u k = (f k x == 0)) := hide (by rw [hx]; exact edge_cr hk2)
              obtain ⟨gr, or', kr, hrow, hgr, hcl⟩ := HC.out k hk2
              have hz := below_cell hB hgr (hcl x hxC)
              have hrow' := below_cell hB hg0 hrow
              have HCL := hide (H.out.cell k x hk2 hxC)
              have hxI : (x : Int) < (C : Int) := by omega
              obtain ⟨z, hzz⟩ : ∃ z, z = f k x := ⟨_, rfl⟩
              rw [← hzz] at hz HCL HE
              clear hrow hcl hzz hx
              rcases HCL.out with rfl | rfl
              · by_cases hin : k ∈ q1
                · rw [decide_eq_true hin] at hmc
                  have HSK := hide (rb_skip HST.out.1 (by rw [← HU.out, HE.out]; exact (fun _ => hin)))
                  go_wp2
                  go_roundw
                  case rel => exact ⟨q1, k + 1, _, by omega, by go_num, rfl, HLT.out, HU.out, HSK.out, HST.out.2⟩
                  case measure => simp [intOf]; omega
                · rw [decide_eq_false hin] at hmc
                  have HPU := hide (rb_push HST.out.1 HLT.out (by rw [← HN.out]; exact hkN) (by rw [← HU.out, HE.out]; rfl) hin)
                  have HMS := hide (marks_set HST.out.2.1 k)
                  rw [mem_snoc] at HMS
                  have HQS := hide (HST.out.2.2.1.kept HMS.out.2 (own_types HST.out.2.2.1 HST.out.2.1 (by decide)))
                  have HBS := hide (HST.out.2.2.2.setCell (p := ⟨w.heap.size, k, none⟩) (Nat.le_refl _) (.bool true))
                  have HZ := hide hB.size
                  clear hB
                  go_wp2_with (at_builtin; refine wpList_push (base := w.heap.size) HQS.out (.int .i64 (k : Int)) (.int .i64 0) rfl (.tmp 88) (.tmp 90) rfl Tryz.underlying28 Tryz.infoInt rfl (by decide) rfl (by rw [show (wr.setCell ⟨w.heap.size, k, none⟩ (.bool true)).heap.size = wr.heap.size from by simp [World.setCell]]; rfl) rfl (by have := HNQ.out; omega) (by have := HZ.out; simp [World.setCell]; omega) ?_; intro v91 w9 ho9 hb9 hg9)
                  have HQ9 := hide ho9; have HM9 := hide (HMS.out.1.kept hg9 (own_types HMS.out.1 HQS.out (by decide))); have HB9 := hide (HBS.out.trans hb9)
                  obtain ⟨a91, c91, rfl⟩ := own_slice ho9
                  clear ho9 hb9 hg9
                  go_wp2
                  go_roundw
                  case rel => exact ⟨q1 ++ [k], k + 1, _, by omega, by go_num, rfl, by have := HLT.out; simp; omega, by rw [getD_snoc_lt _ _ _ HLT.out]; exact HU.out, HPU.out, HM9.out, by simpa [ints] using HQ9.out, HB9.out⟩
                  case measure => simp [intOf]; omega
              · have HSK := hide (rb_skip HST.out.1 (by rw [← HU.out, HE.out]; exact (fun h => by cases h)))
                go_wp2
                go_roundw
                case rel => exact ⟨q1, k + 1, _, by omega, by go_num, rfl, HLT.out, HU.out, HSK.out, HST.out.2⟩
                case measure => simp [intOf]; omega
            · have hk2I : (R : Int) ≤ (k : Int) := by omega
              have HE : Hid (edge R f u k = false) := hide (by unfold edge; simp only [Bool.or_eq_false_iff, Bool.and_eq_false_iff, decide_eq_false_iff_not]; omega)
              have HSK := hide (rb_skip HST.out.1 (by rw [← HU.out, HE.out]; exact (fun h => by cases h)))
              go_wp2
              go_roundw
              case rel => exact ⟨q1, k + 1, _, by omega, by go_num, rfl, HLT.out, HU.out, HSK.out, HST.out.2⟩
              case measure => simp [intOf]; omega
        · obtain rfl : k = N := by omega
          have HNX := hide (rb_next (by have := hst.1; rw [HN.out] at this; exact this) hlt)
          clear hu hst
          go_wp2
          go_roundw
          case rel => exact ⟨q1, a + 1, _, by go_num, rfl, HNX.out, HST.out.2⟩
          case measure => simp [intOf]; omega
    · obtain rfl : a = q.length := by omega
      obtain ⟨n, hn⟩ : ∃ n, n = q.length := ⟨_, rfl⟩
      have HNQ := hide hn
      rw [← hn] at HST ⊢
      clear hst hn hql hal hlt
      go_wp2
      go_ret
      exact ⟨w.heap.size, fun v => decide (v ∈ q), by rw [HN.out]; rfl, by rw [← HN.out]; exact HST.out.2.1, HST.out.2.2.2, fun v hv => by
        rw [decide_eq_true_eq, rb_end (by have := HST.out.1; rw [HNQ.out] at this; exact this)]
        exact ⟨fun h => h.2, fun h => ⟨hv, h⟩⟩⟩

end Go.Proofs.YtbogeghoekmbhaaGreat
/-
  TransposeOf, MirrorOf, InvertOf of the model.
-/
namespace Go.Proofs.YtbogeghoekmbhaaGreat
open Go.RowKit
set_option linter.unusedVariables false

def upTr (C : Nat) (f : Nat → Nat → Int) (y x a b : Nat) : Int := if b < y ∨ (b = y ∧ a < x) then f b a else 0
theorem upTr_zero (R C : Nat) (f : Nat → Nat → Int) : mkM C R zeroM = mkM C R (upTr C f 0 0) := mkM_congr fun a b ha hb => by rw [upTr, if_neg (by omega)]; rfl
theorem upTr_set (R C : Nat) (f : Nat → Nat → Int) (y x : Nat) (hy : y < R) (hx : x < C) (z : Int) (hz : f y x = z) :
    mkM C R (fun a b => if a = x ∧ b = y then z else upTr C f y x a b) = mkM C R (upTr C f y (x + 1)) := mkM_congr fun a b ha hb => by
  simp only [upTr]
  by_cases e : a = x ∧ b = y
  · obtain ⟨rfl, rfl⟩ := e
    rw [if_pos ⟨rfl, rfl⟩, if_pos (by omega), ← hz]
  · rw [if_neg e]
    by_cases hl : b < y ∨ (b = y ∧ a < x)
    · rw [if_pos hl, if_pos (by omega)]
    · rw [if_neg hl, if_neg (by omega)]
theorem upTr_next (R C : Nat) (f : Nat → Nat → Int) (y : Nat) (hy : y < R) : mkM C R (upTr C f y C) = mkM C R (upTr C f (y + 1) 0) := mkM_congr fun a b ha hb => by
  simp only [upTr]
  by_cases hl : b < y + 1
  · rw [if_pos (by omega), if_pos (by omega)]
  · rw [if_neg (by omega), if_neg (by omega)]
theorem upTr_all (R C : Nat) (f : Nat → Nat → Int) : mkM C R (upTr C f R 0) = mkM C R (trM f) := mkM_congr fun a b ha hb => by
  rw [upTr, if_pos (by omega)]; rfl
def upMi (C : Nat) (f : Nat → Nat → Int) (y x a b : Nat) : Int := if a < y ∨ (a = y ∧ C - 1 - b < x) then f a (C - 1 - b) else 0
theorem upMi_zero (R C : Nat) (f : Nat → Nat → Int) : mkM R C zeroM = mkM R C (upMi C f 0 0) := mkM_congr fun a b ha hb => by rw [upMi, if_neg (by omega)]; rfl
theorem upMi_set (R C : Nat) (f : Nat → Nat → Int) (y x : Nat) (hy : y < R) (hx : x < C) (z : Int) (hz : f y x = z) :
    mkM R C (fun a b => if a = y ∧ b = C - 1 - x then z else upMi C f y x a b) = mkM R C (upMi C f y (x + 1)) := mkM_congr fun a b ha hb => by
  simp only [upMi]
  by_cases e : a = y ∧ b = C - 1 - x
  · obtain ⟨rfl, rfl⟩ := e
    rw [if_pos ⟨rfl, rfl⟩, if_pos (by omega), ← hz]; rw [show C - 1 - (C - 1 - x) = x by omega]
  · rw [if_neg e]
    by_cases hl : a < y ∨ (a = y ∧ C - 1 - b < x)
    · rw [if_pos hl, if_pos (by omega)]
    · rw [if_neg hl, if_neg (by omega)]
theorem upMi_next (R C : Nat) (f : Nat → Nat → Int) (y : Nat) (hy : y < R) : mkM R C (upMi C f y C) = mkM R C (upMi C f (y + 1) 0) := mkM_congr fun a b ha hb => by
  simp only [upMi]
  by_cases hl : a < y + 1
  · rw [if_pos (by omega), if_pos (by omega)]
  · rw [if_neg (by omega), if_neg (by omega)]
theorem upMi_all (R C : Nat) (f : Nat → Nat → Int) : mkM R C (upMi C f R 0) = mkM R C (mirM C f) := mkM_congr fun a b ha hb => by
  rw [upMi, if_pos (by omega)]; rfl
def upIn (C : Nat) (f : Nat → Nat → Int) (y x a b : Nat) : Int := if a < y ∨ (a = y ∧ b < x) then 1 - f a b else 0
theorem upIn_zero (R C : Nat) (f : Nat → Nat → Int) : mkM R C zeroM = mkM R C (upIn C f 0 0) := mkM_congr fun a b ha hb => by rw [upIn, if_neg (by omega)]; rfl
theorem upIn_set (R C : Nat) (f : Nat → Nat → Int) (y x : Nat) (hy : y < R) (hx : x < C) (z : Int) (hz : 1 - f y x = z) :
    mkM R C (fun a b => if a = y ∧ b = x then z else upIn C f y x a b) = mkM R C (upIn C f y (x + 1)) := mkM_congr fun a b ha hb => by
  simp only [upIn]
  by_cases e : a = y ∧ b = x
  · obtain ⟨rfl, rfl⟩ := e
    rw [if_pos ⟨rfl, rfl⟩, if_pos (by omega), ← hz]
  · rw [if_neg e]
    by_cases hl : a < y ∨ (a = y ∧ b < x)
    · rw [if_pos hl, if_pos (by omega)]
    · rw [if_neg hl, if_neg (by omega)]
theorem upIn_next (R C : Nat) (f : Nat → Nat → Int) (y : Nat) (hy : y < R) : mkM R C (upIn C f y C) = mkM R C (upIn C f (y + 1) 0) := mkM_congr fun a b ha hb => by
  simp only [upIn]
  by_cases hl : a < y + 1
  · rw [if_pos (by omega), if_pos (by omega)]
  · rw [if_neg (by omega), if_neg (by omega)]
theorem upIn_all (R C : Nat) (f : Nat → Nat → Int) : mkM R C (upIn C f R 0) = mkM R C (invM f) := mkM_congr fun a b ha hb => by
  rw [upIn, if_pos (by omega)]; rfl
end Go.Proofs.YtbogeghoekmbhaaGreat
/-
  ColSums of both.
-/
namespace Go.Proofs.YtbogeghoekmbhaaGreat
open Go.RowKit

theorem implColSums_no (v : Value) (m : List (List Int)) (w : World) (hin : InMat w v m) (h : okB m = false) :
    Calls Tryz.prog 27 #[v] w (IntsRes [] w) := by
  have HI := hide hin; have H := hide h
  clear hin h
  go_enter Tryz.func27, Tryz.ntmps27
  go_wp2_with fail
  refine (implTransposeOf_no v m _ HI.out H.out).mono ?_
  rintro e w1 ⟨u, rfl, ho, hb⟩
  have HM := hide (inMat_own ho); have HB := hide hb
  clear ho hb
  go_wp2_with fail
  refine (implRowSums_no u [] _ HM.out (by decide)).mono ?_
  rintro e w2 ⟨u2, rfl, ho, hb⟩
  have HO := hide (own_base ho HB.out.size); have HB2 := hide (HB.out.trans (hb.mono HB.out.size))
  clear ho hb
  go_wp2
  go_ret
  exact ⟨_, rfl, HO.out, HB2.out⟩
theorem implColSums_yes (v : Value) (R C : Nat) (f : Nat → Nat → Int) (w : World) (hin : InMat w v (mkM R C f)) (hI : Img R C f) :
    Calls Tryz.prog 27 #[v] w (IntsRes (rowsL C R (trM f)) w) := by
  have HI := hide hin; have H := hide hI
  clear hin hI
  go_enter Tryz.func27, Tryz.ntmps27
  go_wp2_with fail
  refine (implTransposeOf_yes v R C f _ HI.out H.out).mono ?_
  rintro e w1 ⟨u, rfl, ho, hb⟩
  have HM := hide (inMat_own ho); have HB := hide hb
  clear ho hb
  go_wp2_with fail
  refine (implRowSums_yes u C R (trM f) _ HM.out (img_tr H.out)).mono ?_
  rintro e w2 ⟨u2, rfl, ho, hb⟩
  have HO := hide (own_base ho HB.out.size); have HB2 := hide (HB.out.trans (hb.mono HB.out.size))
  clear ho hb
  go_wp2
  go_ret
  exact ⟨_, rfl, HO.out, HB2.out⟩

end Go.Proofs.YtbogeghoekmbhaaGreat
/-
  Lists of integers held against one another: slices.Equal.
-/
namespace Go.Proofs.YtbogeghoekmbhaaGreat
open Go.RowKit

theorem sameRow_no {r s : List Int} (h : r.length ≠ s.length) : (r == s) = false := by
  rw [beq_eq_false_iff_ne]; intro e; exact h (by rw [e])
theorem sameRow_no2 {r s : List Int} (k : Nat) (hr : k < r.length) (hs : k < s.length) (h : r[k] ≠ s[k]) : (r == s) = false := by
  rw [beq_eq_false_iff_ne]; intro e; subst e; exact h rfl
theorem sameRow_yes {r s : List Int} (h : r.length = s.length) (h2 : ∀ k, (hr : k < r.length) → (hs : k < s.length) → r[k] = s[k]) : (r == s) = true := by
  rw [beq_iff_eq]; exact List.ext_getElem h h2
theorem sameMat_no {r s : List (List Int)} (h : r.length ≠ s.length) : (r == s) = false := by
  rw [beq_eq_false_iff_ne]; intro e; exact h (by rw [e])
theorem sameMat_no2 {r s : List (List Int)} (k : Nat) (hr : k < r.length) (hs : k < s.length) (h : (r[k] == s[k]) = false) : (r == s) = false := by
  rw [beq_eq_false_iff_ne] at h ⊢; intro e; subst e; exact h rfl
theorem sameMat_yes {r s : List (List Int)} (h : r.length = s.length) (h2 : ∀ k, (hr : k < r.length) → (hs : k < s.length) → (r[k] == s[k]) = true) : (r == s) = true := by
  rw [beq_iff_eq]; exact List.ext_getElem h fun k h1 h2' => by simpa using h2 k h1 h2'

end Go.Proofs.YtbogeghoekmbhaaGreat
/-
  SameImage, of the model and of the program, and the exact law, walked.
-/
namespace Go.Proofs.YtbogeghoekmbhaaGreat
open Go.RowKit

end Go.Proofs.YtbogeghoekmbhaaGreat
/-
  PutCell and DistanceOf of the program.
-/
namespace Go.Proofs.YtbogeghoekmbhaaGreat
open Go.RowKit

/-- The whole variable is read, behind a guard that says yes. -/
theorem wpList_loadVecG {P : Program} {ops : Array Oper} {rest : List Oper} {o : Oper} {a : Act} {Q : Exit → Act → World → Prop} {W : World} {g n m : Nat} {T T' e : TypeId} {F : Nat → Int} (hb : Blk W g T n F) (d : Tmp) (_hd : o.dst = some d)
    (hw : Region.wanted o (yielded ops a.tmps) = true) (x : Operand) (ho : o.op = .load T' x) (hx : a.eval x = .pointer (some ⟨g, 0, none⟩)) (hu : P.underlying T' = some (.array m e)) (hi : (P.info? T').map (·.size) = some n)
    (h : wpList P ops Q rest (a.put o.dst (.agg (vec n F))) W) : wpList P ops Q (o :: rest) a W :=
  BigFrame.wpList_want hw fun K hK => wp_load_row T' x ho g hx T (vec n F) (0, 0) _ hb hu rfl (by rw [hi, vec_size]) (hK _ _ h)

/-- The image with another cell. -/
def putM (f : Nat → Nat → Int) (a b : Nat) (c : Int) (y x : Nat) : Int := if y = a ∧ x = b then c else f y x
theorem img_put {R C : Nat} {f : Nat → Nat → Int} (h : Img R C f) (a b : Nat) {c : Int} (hc : c = 0 ∨ c = 1) : Img R C (putM f a b c) := ⟨h.r1, h.r2, h.c1, h.c2, fun y x hy hx => by
  unfold putM; split
  · exact hc
  · exact h.cell y x hy hx⟩
theorem imgF_put (R C : Nat) (f : Nat → Nat → Int) (a b : Nat) (c : Int) (ha : a < R) (hb : b < C) (hC : C ≤ 5) : ∀ i, i < 25 → (if i = 5 * a + b then c else imgF R C f i) = imgF R C (putM f a b c) i := fun i hi => by
  simp only [imgF, putM]
  by_cases e : i = 5 * a + b
  · subst e
    rw [if_pos rfl, if_pos (by omega), if_pos (by omega)]
  · rw [if_neg e]
    by_cases h : i / 5 < R ∧ i % 5 < C
    · rw [if_pos h, if_pos h, if_neg (by omega)]
    · rw [if_neg h, if_neg h]

end Go.Proofs.YtbogeghoekmbhaaGreat
/-
  DistanceOf of the program.
-/
namespace Go.Proofs.YtbogeghoekmbhaaGreat
open Go.RowKit

theorem imageOf_any (v : Value) (m : List (List Int)) (w : World) (hin : InMat w v m) :
    Calls Tryz.prog 70 #[v] w fun e w' => (∃ F, e = .returned (.tuple #[.agg (vec 25 F), .bool (okB m)])) ∧ Below w.heap.size w w' := by
  cases h : okB m with
  | false =>
    refine (imageOf_no v m w hin h).mono ?_
    rintro e w' ⟨rfl, hb⟩
    exact ⟨⟨_, rfl⟩, hb⟩
  | true =>
    obtain ⟨R, C, f, rfl, hI⟩ := ok_img h
    refine (imageOf_yes v R C f w hin hI).mono ?_
    rintro e w' ⟨rfl, hb⟩
    exact ⟨⟨_, rfl⟩, hb⟩
theorem imgF_none {R C : Nat} {f : Nat → Nat → Int} (h : Img R C f) (i : Nat) : imgF R C f i = -1 ↔ ¬ (i / 5 < R ∧ i % 5 < C) := by
  unfold imgF
  by_cases hi : i / 5 < R ∧ i % 5 < C
  · rw [if_pos hi]
    constructor
    · intro e; rcases h.cell _ _ hi.1 hi.2 with e' | e' <;> rw [e'] at e <;> cases e
    · intro e; exact absurd hi e
  · rw [if_neg hi]; exact ⟨fun _ => hi, fun _ => rfl⟩
theorem same_sizes {R C R' C' : Nat} {f g : Nat → Nat → Int} (h : Img R C f) (h' : Img R' C' g) : decide (R = R' ∧ C = C') = true ↔ ∀ i, i < 25 → (imgF R C f i = -1 ↔ imgF R' C' g i = -1) := by
  have a1 := h.r1; have a2 := h.r2; have a3 := h.c1; have a4 := h.c2
  have b1 := h'.r1; have b2 := h'.r2; have b3 := h'.c1; have b4 := h'.c2
  rw [decide_eq_true_eq]
  constructor
  · rintro ⟨rfl, rfl⟩ i hi
    rw [imgF_none h, imgF_none h']
  · intro hall
    have hq : ∀ y x, y < 5 → x < 5 → ((y < R ∧ x < C) ↔ (y < R' ∧ x < C')) := fun y x hy hx => by
      have := hall (5 * y + x) (by omega)
      rw [imgF_none h, imgF_none h', show (5 * y + x) / 5 = y by omega, show (5 * y + x) % 5 = x by omega] at this
      exact ⟨fun h1 => Decidable.byContradiction fun n => (this.2 n) h1, fun h1 => Decidable.byContradiction fun n => (this.1 n) h1⟩
    constructor
    · by_cases l : R < R'
      · have := (hq R 0 (by omega) (by omega)).2 ⟨l, by omega⟩; omega
      · by_cases l2 : R' < R
        · have := (hq R' 0 (by omega) (by omega)).1 ⟨l2, by omega⟩; omega
        · omega
    · by_cases l : C < C'
      · have := (hq 0 C (by omega) (by omega)).2 ⟨by omega, l⟩; omega
      · by_cases l2 : C' < C
        · have := (hq 0 C' (by omega) (by omega)).1 ⟨by omega, l2⟩; omega
        · omega
end Go.Proofs.YtbogeghoekmbhaaGreat
/-
  DistanceOf of the model.
-/
namespace Go.Proofs.YtbogeghoekmbhaaGreat
open Go.RowKit

theorem ok_quiet (v : Value) (m : List (List Int)) (w : World) (n : Nat) (b : Bool) (hin : InMat w v m) (hb : okB m = b) :
    Calls Tryz.prog 21 #[v] (w.drewN n) fun e w'' => e = .returned (.bool b) ∧ ∃ k, w'' = w.drewN k := by
  refine Calls.quiet_of_same ((specImageOk_any v m (w.drewN n) hin).mono ?_)
  rintro e w' ⟨rfl, rfl⟩
  exact ⟨by rw [hb], rfl⟩

end Go.Proofs.YtbogeghoekmbhaaGreat
/-
  SameSums of both.
-/
namespace Go.Proofs.YtbogeghoekmbhaaGreat
open Go.RowKit Go.Maps

/-- The rows' and the columns' directions. -/
def rc : List (Int × Int) := [(1, 0), (0, 1)]
theorem lines_row (R C : Nat) (f : Nat → Nat → Int) (n : Int) : linesC C f (R * C) ⟨1, 0, n⟩ rc = if 0 ≤ n ∧ n < R then ((rs C f n.toNat : Nat) : Int) else 0 := by
  have h : lineC C f (1, 0) (R * C) ⟨1, 0, n⟩ = (cnt (onL C f (1, 0) n) (C * R) : Nat) := by rw [Nat.mul_comm R C]; exact if_pos ⟨rfl, rfl⟩
  have h2 : lineC C f (0, 1) (R * C) ⟨1, 0, n⟩ = 0 := if_neg (fun h => by cases h.1)
  rw [rc, linesC, linesC, linesC, h, h2, cnt_rows]
  split <;> simp
theorem lines_col (R C : Nat) (f : Nat → Nat → Int) (n : Int) : linesC C f (R * C) ⟨0, 1, n⟩ rc = if 0 ≤ n ∧ n < C then ((cs R f (C - 1 - n.toNat) : Nat) : Int) else 0 := by
  have h : lineC C f (0, 1) (R * C) ⟨0, 1, n⟩ = (cnt (onL C f (0, 1) n) (C * R) : Nat) := by rw [Nat.mul_comm R C]; exact if_pos ⟨rfl, rfl⟩
  have h2 : lineC C f (1, 0) (R * C) ⟨0, 1, n⟩ = 0 := if_neg (fun h => by cases h.1)
  rw [rc, linesC, linesC, linesC, h, h2, cnt_cols]
  split <;> simp
theorem lines_none (C : Nat) (f : Nat → Nat → Int) (N : Nat) (k : Key) (h1 : ¬ (k.x = 1 ∧ k.y = 0)) (h2 : ¬ (k.x = 0 ∧ k.y = 1)) : linesC C f N k rc = 0 := by
  simp only [rc, linesC, lineC]
  rw [if_neg h1, if_neg h2]; rfl
theorem rowsL_eq {R C : Nat} {f g : Nat → Nat → Int} : (rowsL R C f == rowsL R C g) = true ↔ ∀ y, y < R → rs C f y = rs C g y := by
  rw [beq_iff_eq]
  constructor
  · intro h y hy
    have h1 := congrArg (fun l => l[y]?) h
    simp only [rowsL, rowF, List.getElem?_map, List.getElem?_range hy, Option.map_some, Option.some.injEq] at h1
    omega
  · intro h
    exact rowF_congr fun y hy => by rw [h y hy]
def sameL (R C : Nat) (f g : Nat → Nat → Int) : Bool := (rowsL R C f == rowsL R C g) && (rowsL C R (trM f) == rowsL C R (trM g))
theorem same_lines {R C : Nat} {f g : Nat → Nat → Int} (hR : R ≤ 5) (hC : C ≤ 5) : (∀ k : Key, k.wf → thereK (fun k => linesC C f (R * C) k rc - linesC C g (R * C) k rc) k = false) ↔ sameL R C f g = true := by
  have hcs : ∀ (f : Nat → Nat → Int) x, rs R (trM f) x = cs R f x := fun _ _ => rfl
  unfold sameL
  rw [Bool.and_eq_true, rowsL_eq, rowsL_eq]
  constructor
  · intro h
    have h0 : ∀ k : Key, k.wf → linesC C f (R * C) k rc = linesC C g (R * C) k rc := fun k hk => by
      have := h k hk
      simp only [thereK, decide_eq_false_iff_not, ne_eq, Decidable.not_not] at this
      omega
    refine ⟨fun y hy => ?_, fun x hx => ?_⟩
    · have := h0 ⟨1, 0, y⟩ (key_wf (by decide) (by decide) (WalkArith.wf_i64 (by omega)))
      rw [lines_row, lines_row, if_pos (by omega), if_pos (by omega)] at this
      have e : ((y : Int)).toNat = y := by omega
      rw [e] at this; omega
    · rw [hcs, hcs]
      have := h0 ⟨0, 1, (C - 1 - x : Nat)⟩ (key_wf (by decide) (by decide) (WalkArith.wf_i64 (by omega)))
      rw [lines_col, lines_col, if_pos (by omega), if_pos (by omega)] at this
      have e : C - 1 - (((C - 1 - x : Nat) : Int)).toNat = x := by omega
      rw [e] at this; omega
  · rintro ⟨h1, h2⟩ k -
    simp only [thereK, decide_eq_false_iff_not, ne_eq, Decidable.not_not]
    obtain ⟨kx, ky, n⟩ := k
    by_cases e1 : kx = 1 ∧ ky = 0
    · obtain ⟨rfl, rfl⟩ := e1
      rw [lines_row, lines_row]
      split
      · rename_i hn; rw [h1 n.toNat (by omega)]; omega
      · rfl
    · by_cases e2 : kx = 0 ∧ ky = 1
      · obtain ⟨rfl, rfl⟩ := e2
        rw [lines_col, lines_col]
        split
        · rename_i hn
          have := h2 (C - 1 - n.toNat) (by omega)
          rw [hcs, hcs] at this
          rw [this]; omega
        · rfl
      · rw [lines_none C f (R * C) _ e1 e2, lines_none C g (R * C) _ e1 e2]; rfl

theorem iok_quiet (v : Value) (m : List (List Int)) (w : World) (n : Nat) (b : Bool) (hin : InMat w v m) (hb : okB m = b) :
    Calls Tryz.prog 23 #[v] (w.drewN n) fun e w'' => e = .returned (.bool b) ∧ ∃ k, w'' = w.drewN k := by
  refine Calls.quiet_of_same ((implImageOk_any v m (w.drewN n) hin).mono ?_)
  rintro e w' ⟨rfl, rfl⟩
  exact ⟨by rw [hb], rfl⟩
end Go.Proofs.YtbogeghoekmbhaaGreat
/-
  Whether two lists of lists are images with the same sums.
-/
namespace Go.Proofs.YtbogeghoekmbhaaGreat
open Go.RowKit

def sameB (m l : List (List Int)) : Bool := okB m && okB l && (decide (m.length = l.length) && decide (widthM m = widthM l) && sameL m.length (widthM m) (cellM m) (cellM l))
theorem rs_congr {C : Nat} {f g : Nat → Nat → Int} {y : Nat} (h : ∀ x, x < C → f y x = g y x) : rs C f y = rs C g y := cnt_congr fun x hx => by rw [h x hx]
theorem rowsL_congr {R C : Nat} {f g : Nat → Nat → Int} (h : ∀ y x, y < R → x < C → f y x = g y x) : rowsL R C f = rowsL R C g := rowF_congr fun y hy => by rw [rs_congr fun x hx => h y x hy hx]
theorem sameL_congr {R C : Nat} {f g f' g' : Nat → Nat → Int} (h : ∀ y x, y < R → x < C → f y x = f' y x) (h2 : ∀ y x, y < R → x < C → g y x = g' y x) : sameL R C f g = sameL R C f' g' := by
  unfold sameL
  rw [rowsL_congr h, rowsL_congr h2, rowsL_congr (f := trM f) (g := trM f') fun y x hy hx => h x y hx hy, rowsL_congr (f := trM g) (g := trM g') fun y x hy hx => h2 x y hx hy]
theorem width_mk {R C : Nat} {f : Nat → Nat → Int} (h : Img R C f) : widthM (mkM R C f) = C := by
  have := h.r1
  unfold widthM mkM
  obtain ⟨n, rfl⟩ : ∃ n, R = n + 1 := ⟨R - 1, by omega⟩
  simp [List.range_succ_eq_map, rowF]
theorem sameB_mk {R C R' C' : Nat} {f g : Nat → Nat → Int} (h : Img R C f) (h' : Img R' C' g) : sameB (mkM R C f) (mkM R' C' g) = if R = R' ∧ C = C' then sameL R C f g else false := by
  unfold sameB
  rw [img_ok h, img_ok h', width_mk h, width_mk h', mkM_len, mkM_len]
  by_cases e1 : R = R'
  · by_cases e2 : C = C'
    · subst e1; subst e2
      rw [if_pos ⟨rfl, rfl⟩, sameL_congr (fun y x hy hx => cell_mk R C f hy hx) (fun y x hy hx => cell_mk R C g hy hx)]
      simp
    · rw [if_neg fun e => e2 e.2]; simp [e2]
  · rw [if_neg fun e => e1 e.1]; simp [e1]
theorem rowF_inj {n : Nat} {f g : Nat → Int} (h : rowF n f = rowF n g) : ∀ i, i < n → f i = g i := fun i hi => by
  have h1 : (rowF n f)[i]? = (rowF n g)[i]? := by rw [h]
  simpa [rowF, hi] using h1
theorem sameB_yes {m l : List (List Int)} (h : sameB m l = true) : ∃ R C f g, m = mkM R C f ∧ l = mkM R C g ∧ Img R C f ∧ Img R C g ∧ SameF R C f g := by
  have h0 := h
  unfold sameB at h0
  simp only [Bool.and_eq_true] at h0
  obtain ⟨R, C, f, rfl, hI⟩ := ok_img h0.1.1
  obtain ⟨R', C', g, rfl, hJ⟩ := ok_img h0.1.2
  rw [sameB_mk hI hJ] at h
  by_cases e : R = R' ∧ C = C'
  · obtain ⟨rfl, rfl⟩ := e
    rw [if_pos ⟨rfl, rfl⟩] at h
    unfold sameL at h
    simp only [Bool.and_eq_true, beq_iff_eq] at h
    refine ⟨R, C, f, g, rfl, rfl, hI, hJ, fun y hy => ?_, fun x hx => ?_⟩
    · have := rowF_inj h.1 y hy; omega
    · have := rowF_inj h.2 x hx
      show rs R (trM f) x = rs R (trM g) x
      omega
  · rw [if_neg e] at h; cases h
end Go.Proofs.YtbogeghoekmbhaaGreat
/-
  IsFixed of both.
-/
namespace Go.Proofs.YtbogeghoekmbhaaGreat
open Go.RowKit
set_option maxRecDepth 100000

theorem S_cnt (g : Nat → Int) : ∀ n, (∀ i, i < n → g i = 0 ∨ g i = 1) → Mx.S n g = (cnt (fun i => g i == 1) n : Nat)
  | 0, _ => rfl
  | n + 1, h => by
    rw [Mx.S, S_cnt g n fun i hi => h i (Nat.lt_succ_of_lt hi), cnt]
    rcases h n (Nat.lt_succ_self n) with e | e <;> simp [e]
theorem rowF_getD {n : Nat} {g : Nat → Int} {i : Nat} (h : i < n) : (rowF n g).getD i 0 = g i := by simp [rowF, h]
section
variable {R C : Nat} {f : Nat → Nat → Int}
theorem rows_len (R C : Nat) (f : Nat → Nat → Int) : (rowsL R C f).length = R := rowF_len _ _
theorem rowsL_at (hI : Img R C f) {y : Nat} (hy : y < R) : (rowsL R C f).getD y 0 = Mx.S C (f y) := by
  unfold rowsL
  rw [rowF_getD hy, S_cnt _ _ fun x hx => hI.cell y x hy hx]; rfl
theorem colsL_at (hI : Img R C f) {x : Nat} (hx : x < C) : (rowsL C R (trM f)).getD x 0 = Mx.S R fun y => f y x := by
  unfold rowsL
  rw [rowF_getD hx, S_cnt _ _ fun y hy => hI.cell y x hy hx]; rfl
theorem imgF_iff (hI : Img R C f) (g : Nat → Nat → Int) : ImgF (rowsL R C f) (rowsL C R (trM f)) g ↔ (∀ y x, y < R → x < C → g y x = 0 ∨ g y x = 1) ∧ (∀ y, y < R → Mx.S C (g y) = Mx.S C (f y)) ∧ ∀ x, x < C → Mx.S R (fun y => g y x) = Mx.S R fun y => f y x := by
  constructor
  · rintro ⟨h1, h2, h3⟩
    rw [rows_len, rows_len] at h1
    refine ⟨h1, fun y hy => ?_, fun x hx => ?_⟩
    · have := h2 y (by rw [rows_len]; exact hy)
      rw [rows_len, rowsL_at hI hy] at this; exact this
    · have := h3 x (by rw [rows_len]; exact hx)
      rw [rows_len, colsL_at hI hx] at this; exact this
  · rintro ⟨h1, h2, h3⟩
    refine ⟨by rw [rows_len, rows_len]; exact h1, fun y hy => ?_, fun x hx => ?_⟩
    · rw [rows_len] at hy
      rw [rows_len, rowsL_at hI hy]; exact h2 y hy
    · rw [rows_len] at hx
      rw [rows_len, colsL_at hI hx]; exact h3 x hx
theorem imgF_self (hI : Img R C f) : ImgF (rowsL R C f) (rowsL C R (trM f)) f := (imgF_iff hI f).2 ⟨hI.cell, fun _ _ => rfl, fun _ _ => rfl⟩
end
theorem listF_at {n C : Nat} {m : Nat → Nat → Int} {y x : Nat} (hy : y < n) (hx : x < C) : ((listF n C m).getD y []).getD x 0 = m y x := by
  simp [listF, tabL, hy, hx]
theorem place_img {r c : List Int} {y x : Nat} (v : Int) (hr : 1 ≤ r.length ∧ r.length ≤ 5) (hc : 1 ≤ c.length ∧ c.length ≤ 5) (hy : y < r.length) (hx : x < c.length) (h : HasImg r c) : placeOf r c y x v = true ↔ ∃ g, ImgF r c g ∧ g y x = v := by
  unfold placeOf
  rw [exists_of_img hr hc h, decide_eq_true (show (0 : Int) ≤ y ∧ (y : Int) < r.length ∧ (0 : Int) ≤ x ∧ (x : Int) < c.length by omega), Int.toNat_natCast, Int.toNat_natCast, ← place_iff v hr.2 hc hy h, Bool.true_and, Bool.true_and, List.any_eq_true]
  constructor
  · rintro ⟨l, hl, e⟩
    exact ⟨_, (all_sound r c hr.2 hc h l hl).2.2, by simpa using e⟩
  · rintro ⟨g, hg, e⟩
    exact ⟨_, all_complete r c hr.2 hc g hg, by rw [listF_at hy hx, e]; simp⟩
theorem fix_rch {R C : Nat} {f : Nat → Nat → Int} (hI : Img R C f) {y x : Nat} (hy : y < R) (hx : x < C) : placeOf (rowsL R C f) (rowsL C R (trM f)) y x (1 - f y x) = true ↔ if f y x = 1 then Rch R C f (R + x) y else Rch R C f y (R + x) := by
  rw [place_img _ (by rw [rows_len]; exact ⟨hI.r1, hI.r2⟩) (by rw [rows_len]; exact ⟨hI.c1, hI.c2⟩) (by rw [rows_len]; exact hy) (by rw [rows_len]; exact hx) ⟨f, imgF_self hI⟩]
  constructor
  · rintro ⟨g, hg, e⟩
    obtain ⟨h1, h2, h3⟩ := (imgF_iff hI g).1 hg
    exact rch_of_free hI.cell hy hx h1 h2 h3 e
  · intro h
    obtain ⟨g, h1, h2, h3, h4⟩ := free_of_rch hI.cell hy hx h
    exact ⟨g, (imgF_iff hI g).2 ⟨h1, h2, h3⟩, h4⟩
/-- Whether a cell is fixed. -/
def fixB (R C : Nat) (f : Nat → Nat → Int) (y x : Int) : Bool := decide (0 ≤ y ∧ y < R ∧ 0 ≤ x ∧ x < C) && !placeOf (rowsL R C f) (rowsL C R (trM f)) y x (1 - atM R C f y x)
theorem fixB_in {R C : Nat} {f : Nat → Nat → Int} {y x : Nat} (hy : y < R) (hx : x < C) : fixB R C f y x = !placeOf (rowsL R C f) (rowsL C R (trM f)) y x (1 - f y x) := by
  unfold fixB atM
  have h : (0 : Int) ≤ y ∧ (y : Int) < R ∧ (0 : Int) ≤ x ∧ (x : Int) < C := by omega
  rw [decide_eq_true h, if_pos h, Int.toNat_natCast, Int.toNat_natCast, Bool.true_and]
set_option maxHeartbeats 1000000 in
theorem specIsFixed_no (v : Value) (m : List (List Int)) (y x : Int) (w : World) (hin : InMat w v m) (h : okB m = false) :
    Calls Tryz.prog 22 #[v, .int .i64 y, .int .i64 x] w fun e w' => e = .returned (.bool false) ∧ Below w.heap.size w w' := by
  have HI := hide hin; have H := hide h
  clear hin h
  go_enter Tryz.func22, Tryz.ntmps22
  go_wp2_with ((with_reducible refine (l02In_no v m y x _ HI.out H.out).mono ?_); rintro e w' ⟨rfl, rfl⟩)
  go_ret
  exact ⟨rfl, Below.refl _ _⟩
set_option maxHeartbeats 2000000 in
theorem specIsFixed_yes (v : Value) (R C : Nat) (f : Nat → Nat → Int) (y x : Int) (w : World) (hin : InMat w v (mkM R C f)) (hI : Img R C f) :
    Calls Tryz.prog 22 #[v, .int .i64 y, .int .i64 x] w fun e w' => e = .returned (.bool (fixB R C f y x)) ∧ Below w.heap.size w w' := by
  by_cases hb : 0 ≤ y ∧ y < R ∧ 0 ≤ x ∧ x < C
  · obtain ⟨y, rfl⟩ : ∃ k : Nat, y = k := ⟨y.toNat, by omega⟩
    obtain ⟨x, rfl⟩ : ∃ k : Nat, x = k := ⟨x.toNat, by omega⟩
    have hy : y < R := by omega
    have hx : x < C := by omega
    have hyI : (y : Int) < R := by omega
    have hxI : (x : Int) < C := by omega
    have H1 := hide (l02In_img v R C f y x w hin hI true ⟨fun _ => hb, fun _ => rfl⟩)
    have HR := hide (fun (s : Nat) (hs : s < R + C) => l07Reach_any v R C f s w hin hI hs)
    have HFR := hide (fix_rch hI hy hx)
    have HFB := hide (fixB_in (f := f) hy hx)
    have HCL := hide (hI.cell y x hy hx)
    obtain ⟨g0, o0, c0, rfl, hg0, hcell⟩ := inMat_img hin (by omega) (by omega)
    obtain ⟨g1, o1, k1, hr, hg1, hc⟩ := hcell y hy
    have hz := hc x hx
    obtain ⟨s, hs⟩ : ∃ s, s = R + x := ⟨_, rfl⟩
    have hsI : (R : Int) + (x : Int) = (s : Int) := by omega
    have hsn : s < R + C := by omega
    have hR5 := hI.r2; have hC5 := hI.c2
    obtain ⟨pl, hpl⟩ : ∃ pl, pl = placeOf (rowsL R C f) (rowsL C R (trM f)) y x (1 - f y x) := ⟨_, rfl⟩
    rw [← hpl] at HFR HFB
    rw [HFB.out]
    rw [← hs] at HFR
    obtain ⟨z, hzz⟩ : ∃ z, z = f y x := ⟨_, rfl⟩
    rw [← hzz] at hz HCL HFR
    obtain ⟨N, hN⟩ : ∃ N, N = R + C := ⟨_, rfl⟩
    have HN := hide hN
    have hsN : s < N := by omega
    have hsNI : (s : Int) < (N : Int) := by omega
    have hyN : y < N := by omega
    have hyNI : (y : Int) < (N : Int) := by omega
    clear hin hI hcell hc hpl hzz hs HFB hN
    rcases HCL.out with rfl | rfl
    · have hF := HFR.out
      rw [if_neg (by decide)] at hF
      have HF := hide hF
      clear HCL HFR hF
      go_enter Tryz.func22, Tryz.ntmps22
      go_wp2_with (first | ((with_reducible refine H1.out.mono ?_); rintro e w' ⟨rfl, rfl⟩) | ((with_reducible refine (HR.out y (by omega)).mono ?_); rintro e w3 ⟨g, b, rfl, hm, hb3, hbv⟩; rw [← HN.out] at hm; have hcm := (marks_cell hm hsN).1; have HBV := hide (hbv s hsn); have HB3 := hide hb3; rw [← HN.out]; obtain ⟨q, hq⟩ : ∃ q, q = b s := ⟨_, rfl⟩; rw [← hq] at hcm HBV; clear hm hbv hb3 hq))
      go_ret
      refine ⟨?_, HB3.out⟩
      have : pl = q := by rw [Bool.eq_iff_iff, HF.out, HBV.out]
      rw [this]; rfl
    · have hF := HFR.out
      rw [if_pos rfl] at hF
      have HF := hide hF
      clear HCL HFR hF
      go_enter Tryz.func22, Tryz.ntmps22
      go_wp2_with (first | ((with_reducible refine H1.out.mono ?_); rintro e w' ⟨rfl, rfl⟩) | ((with_reducible refine (HR.out s hsn).mono ?_); rintro e w3 ⟨g, b, rfl, hm, hb3, hbv⟩; rw [← HN.out] at hm; have hcm := (marks_cell hm hyN).1; have HBV := hide (hbv y (by omega)); have HB3 := hide hb3; rw [← HN.out]; obtain ⟨q, hq⟩ : ∃ q, q = b y := ⟨_, rfl⟩; rw [← hq] at hcm HBV; clear hm hbv hb3 hq))
      go_ret
      refine ⟨?_, HB3.out⟩
      have : pl = q := by rw [Bool.eq_iff_iff, HF.out, HBV.out]
      rw [this]; rfl
  · have H1 := hide (l02In_img v R C f y x w hin hI false ⟨fun h => (by cases h), fun h => absurd h hb⟩)
    have HF : Hid (fixB R C f y x = false) := hide (by unfold fixB; rw [decide_eq_false hb]; rfl)
    rw [HF.out]
    clear hin hI hb HF
    go_enter Tryz.func22, Tryz.ntmps22
    go_wp2_with ((with_reducible refine H1.out.mono ?_); rintro e w' ⟨rfl, rfl⟩)
    go_ret
    exact ⟨rfl, Below.refl _ _⟩
/-- Whether a cell is fixed, in any list of lists. -/
def fixM (m : List (List Int)) (y x : Int) : Bool := okB m && fixB m.length (widthM m) (cellM m) y x
theorem fixB_congr {R C : Nat} {f g : Nat → Nat → Int} (h : ∀ y x, y < R → x < C → f y x = g y x) (y x : Int) : fixB R C f y x = fixB R C g y x := by
  unfold fixB
  by_cases hb : 0 ≤ y ∧ y < R ∧ 0 ≤ x ∧ x < C
  · rw [rowsL_congr h, rowsL_congr (f := trM f) (g := trM g) fun y x hy hx => h x y hx hy]
    unfold atM
    rw [if_pos hb, if_pos hb, h _ _ (by omega) (by omega)]
  · rw [decide_eq_false hb]; rfl
theorem fixM_mk {R C : Nat} {f : Nat → Nat → Int} (hI : Img R C f) (y x : Int) : fixM (mkM R C f) y x = fixB R C f y x := by
  unfold fixM
  rw [img_ok hI, mkM_len, width_mk hI, Bool.true_and]
  exact fixB_congr (fun y x hy hx => cell_mk R C f hy hx) y x
theorem specIsFixed_any (v : Value) (m : List (List Int)) (y x : Int) (w : World) (hin : InMat w v m) :
    Calls Tryz.prog 22 #[v, .int .i64 y, .int .i64 x] w fun e w' => e = .returned (.bool (fixM m y x)) ∧ Below w.heap.size w w' := by
  cases h : okB m with
  | false => unfold fixM; rw [h]; exact specIsFixed_no v m y x w hin h
  | true =>
    obtain ⟨R, C, f, rfl, hI⟩ := ok_img h
    rw [fixM_mk hI]; exact specIsFixed_yes v R C f y x w hin hI
end Go.Proofs.YtbogeghoekmbhaaGreat
