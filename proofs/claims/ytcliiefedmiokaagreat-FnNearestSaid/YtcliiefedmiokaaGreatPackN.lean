/-
  Texts of this claim, one behind the other: PlaceI, LeastS, AllQ, HeavP, SameI, EachF, MskP.
-/
import Derived.Test.YtcliiefedmiokaaGreatPackM
import Derived.Test.YtcliiefedmiokaaGreatPackB
import Derived.Test.YtcliiefedmiokaaGreatPackL
import Derived.Test.YtcliiefedmiokaaGreatPackG
import Derived.Test.YtcliiefedmiokaaGreatPackK
import Derived.Test.YtcliiefedmiokaaGreatRows
import Derived.RangeFuncBox
import Derived.RangeFuncLeaves
import Derived.RangeFuncBound
import Derived.Shelf.Abstract
import Derived.OwnWalkIn
import Derived.TacticsInMore
import Derived.LoopNIn
import Derived.LoopIn
/-
  CanPlace of the program.
-/
namespace Go.Proofs.YtcliiefedmiokaaGreat
open Go.RowKit Go.Shelf Mx

set_option maxHeartbeats 400000 in
theorem placePred_any (u : Value) (row : List Int) (x : Nat) (v : Int) (qx qv : Nat) (w : World) (hvx : w.cell? ⟨qx, 0, none⟩ = some (.int .i64 x)) (hvv : w.cell? ⟨qv, 0, none⟩ = some (.int .i64 v)) (hU : InRow w u row) (hx : x < row.length) :
    Calls Tryz.prog 58 #[u, .pointer (some ⟨qx, 0, none⟩), .pointer (some ⟨qv, 0, none⟩)] w fun e w' => e = .returned (.bool (row.getD x 0 == v)) ∧ Below w.heap.size w w' := by
  have mixed : Tryz.prog.follows .mixedOrders = true := by kernel_rfl
  obtain ⟨a, c, rfl, hm, hp⟩ := hU
  obtain ⟨g, o, rfl, hg, hc⟩ := hp.resolve_left (by omega)
  have hcx := hc x hx
  have e1 : row.getD x 0 = row[x] := by rw [List.getD_eq_getElem?_getD, List.getElem?_eq_getElem hx]; rfl
  rw [e1]
  obtain ⟨z, hz⟩ : ∃ z, z = row[x] := ⟨_, rfl⟩
  rw [← hz] at hcx ⊢
  obtain ⟨n, hn⟩ : ∃ n, n = row.length := ⟨_, rfl⟩
  rw [← hn] at hx hm ⊢
  have hxI : (x : Int) < n := by omega
  clear hc hp e1 hz hn
  go_enter Tryz.func58, Tryz.ntmps58
  go_wp2
  go_quiet (fail)
  go_wp2
  go_ret
  exact ⟨rfl, below_draws (Below.refl _ _) _⟩
theorem place_out {r c : List Int} {y x v : Int} (h : ¬ (0 ≤ y ∧ y < r.length ∧ 0 ≤ x ∧ x < c.length)) : placeOf r c y x v = false := by
  unfold placeOf
  rw [decide_eq_false h]; simp
theorem place_no {r c : List Int} {y x v : Int} (h : existsOf r c = false) : placeOf r c y x v = false := by unfold placeOf; rw [h]; rfl
theorem place_in {r c : List Int} {y x : Nat} {v : Int} (h : existsOf r c = true) (hy : y < r.length) (hx : x < c.length) : placeOf r c y x v = (rowsAtL r c y).any fun row => row.getD x 0 == v := by
  unfold placeOf
  rw [h, decide_eq_true (by omega)]; simp
set_option maxHeartbeats 400000 in
theorem implPlace_no (va vb : Value) (r c : List Int) (y x v : Int) (w : World) (ha : InRow w va r) (hb : InRow w vb c) (h : existsOf r c = false) :
    Calls Tryz.prog 20 #[va, vb, .int .i64 y, .int .i64 x, .int .i64 v] w fun e w' => e = .returned (.bool (placeOf r c y x v)) ∧ Below w.heap.size w w' := by
  rw [place_no h]
  have HBX := hide (((Below.refl w.heap.size w).alloc (Nat.le_refl _) (.cells #[.int .i64 x] 3)).alloc (by simp) (.cells #[.int .i64 v] 3))
  have HE := hide (implExists_any va vb r c _ (inRow_below ha HBX.out) (inRow_below hb HBX.out))
  rw [h] at HE
  clear ha hb h
  go_enter Tryz.func20, Tryz.ntmps20
  go_wp2_with (go_at_call 46; refine HE.out.mono ?_; rintro e w1 ⟨rfl, b1⟩; have B1 := hide b1; clear b1)
  go_ret
  exact ⟨rfl, HBX.out.trans (B1.out.mono HBX.out.size)⟩
set_option maxHeartbeats 1000000 in
theorem implPlace_out (va vb : Value) (r c : List Int) (y x v : Int) (w : World) (ha : InRow w va r) (hb : InRow w vb c) (h : existsOf r c = true) (ho : ¬ (0 ≤ y ∧ y < r.length ∧ 0 ≤ x ∧ x < c.length)) :
    Calls Tryz.prog 20 #[va, vb, .int .i64 y, .int .i64 x, .int .i64 v] w fun e w' => e = .returned (.bool (placeOf r c y x v)) ∧ Below w.heap.size w w' := by
  rw [place_out ho]
  have HBX := hide (((Below.refl w.heap.size w).alloc (Nat.le_refl _) (.cells #[.int .i64 x] 3)).alloc (by simp) (.cells #[.int .i64 v] 3))
  have HX := hide (show ((w.alloc (.cells #[.int .i64 x] 3)).alloc (.cells #[.int .i64 v] 3)).cell? ⟨w.heap.size, 0, none⟩ = some (.int .i64 x) from below_cell ((Below.refl _ _).alloc (Nat.le_refl _) _) (by simp) (by simp [World.cell?_alloc_new]))
  have HS := hide (show w.heap.size < ((w.alloc (.cells #[.int .i64 x] 3)).alloc (.cells #[.int .i64 v] 3)).heap.size by simp; omega)
  have HE := hide (implExists_any va vb r c _ (inRow_below ha HBX.out) (inRow_below hb HBX.out))
  rw [h] at HE
  obtain ⟨xa, ca, rfl, hma, -⟩ := ha
  obtain ⟨xb, cb, rfl, hmb, -⟩ := hb
  unfold maxLen at hma hmb
  obtain ⟨R, hR⟩ : ∃ R, R = r.length := ⟨_, rfl⟩
  obtain ⟨C, hC⟩ : ∃ C, C = c.length := ⟨_, rfl⟩
  rw [← hR] at ho hma HE ⊢
  rw [← hC] at ho hmb HE ⊢
  clear h hR hC
  have hcases : y < 0 ∨ (0 ≤ y ∧ (R : Int) ≤ y) ∨ (0 ≤ y ∧ y < R ∧ x < 0) ∨ (0 ≤ y ∧ y < R ∧ 0 ≤ x ∧ (C : Int) ≤ x) := by omega
  clear ho
  rcases hcases with h1 | ⟨h1, h2⟩ | ⟨h1, h2, h3⟩ | ⟨h1, h2, h3, h4⟩
  all_goals
    go_enter Tryz.func20, Tryz.ntmps20
    go_wp2_with (go_at_call 46; refine HE.out.mono ?_; rintro e w1 ⟨rfl, b1⟩; have B1 := hide b1; have hx1 := below_cell b1 HS.out HX.out; clear b1)
    go_ret
    exact ⟨rfl, HBX.out.trans (B1.out.mono HBX.out.size)⟩
set_option maxHeartbeats 1000000 in
theorem implPlace_in (va vb : Value) (r c : List Int) (y x : Nat) (v : Int) (w : World) (ha : InRow w va r) (hb : InRow w vb c) (h : existsOf r c = true) (hy : y < r.length) (hx : x < c.length) :
    Calls Tryz.prog 20 #[va, vb, .int .i64 y, .int .i64 x, .int .i64 v] w fun e w' => e = .returned (.bool (placeOf r c y x v)) ∧ Below w.heap.size w w' := by
  rw [place_in h hy hx]
  have HBX := hide (((Below.refl w.heap.size w).alloc (Nat.le_refl _) (.cells #[.int .i64 x] 3)).alloc (by simp) (.cells #[.int .i64 v] 3))
  have HX := hide (show ((w.alloc (.cells #[.int .i64 x] 3)).alloc (.cells #[.int .i64 v] 3)).cell? ⟨w.heap.size, 0, none⟩ = some (.int .i64 x) from below_cell ((Below.refl _ _).alloc (Nat.le_refl _) _) (by simp) (by simp [World.cell?_alloc_new]))
  have HV := hide (show ((w.alloc (.cells #[.int .i64 x] 3)).alloc (.cells #[.int .i64 v] 3)).cell? ⟨w.heap.size + 1, 0, none⟩ = some (.int .i64 v) by
    have := World.cell?_alloc_new (w.alloc (.cells #[.int .i64 x] 3)) #[.int .i64 v] 3 0
    simp at this ⊢)
  have HS := hide (show w.heap.size + 1 < ((w.alloc (.cells #[.int .i64 x] 3)).alloc (.cells #[.int .i64 v] 3)).heap.size by simp)
  have HE := hide (implExists_any va vb r c _ (inRow_below ha HBX.out) (inRow_below hb HBX.out))
  rw [h] at HE
  obtain ⟨hr5, hc5, -, -, -⟩ := sumsOk_yes (existsOf_sums h)
  have hmid := mid_img hr5.2 hc5.2 (img_of_exists h)
  have HR := hide fun (w' : World) (hw : Below w.heap.size w w') => rowsAt_any va vb r c y w' (inRow_below ha hw) (inRow_below hb hw) hy hr5.2 hc5.1 hmid
  have HOK : Hid (∀ row ∈ rowsAtL r c y, row.length = c.length) := hide fun row hrow => ((mem_rowsL _ _ _).1 (List.mem_filter.1 hrow).1).1
  obtain ⟨xa, ca, rfl, hma, -⟩ := ha
  obtain ⟨xb, cb, rfl, hmb, -⟩ := hb
  unfold maxLen at hma hmb
  obtain ⟨R, hRR⟩ : ∃ R, R = r.length := ⟨_, rfl⟩
  obtain ⟨C, hCC⟩ : ∃ C, C = c.length := ⟨_, rfl⟩
  rw [← hRR] at hy hma HE HR ⊢
  rw [← hCC] at hx hmb HE HR HOK ⊢
  have hyI : (y : Int) < R := by omega
  have hxI : (x : Int) < C := by omega
  have HXC := hide hx
  clear h hRR hCC hmid hr5 hc5
  go_enter Tryz.func20, Tryz.ntmps20
  go_wp2_with (go_at_call 46; refine HE.out.mono ?_; rintro e w1 ⟨rfl, b1⟩; have B1 := hide (HBX.out.trans (b1.mono HBX.out.size)); have hx1 := below_cell b1 (Nat.lt_of_succ_lt HS.out) HX.out; have HX1 := hide hx1; have HV1 := hide (below_cell b1 HS.out HV.out); have HS1 := hide (Nat.lt_of_lt_of_le HS.out b1.size); clear b1)
  refine (HR.out _ B1.out).mono ?_
  rintro e w2 ⟨u, rfl, hm, hb⟩
  have HM := hide (inMat_matT hm); have HB2 := hide (B1.out.trans (hb.mono B1.out.size))
  have HX2 := hide (below_cell hb (Nat.lt_of_succ_lt HS1.out) HX1.out); have HV2 := hide (below_cell hb HS1.out HV1.out); have HS2 := hide (Nat.lt_of_lt_of_le HS1.out hb.size)
  clear hm hb
  have HCON := hide (containsRows_any u (rowsAtL r c y) 58 #[.pointer (some ⟨w.heap.size, 0, none⟩), .pointer (some ⟨w.heap.size + 1, 0, none⟩)] (fun row => row.length = C) (fun row => row.getD x 0 == v) w2 (enters_of Tryz.func58 (by kernel_rfl) rfl) HM.out HOK.out (fun row u w5 hr hw hu => placePred_any u row x v (w.heap.size) (w.heap.size + 1) w5 (below_cell hw (Nat.lt_of_succ_lt HS2.out) HX2.out) (below_cell hw HS2.out HV2.out) hu (by rw [hr]; exact HXC.out)))
  go_wp2_with (go_at_call 56; refine HCON.out.mono ?_; rintro e w3 ⟨rfl, b3⟩; have B3 := hide (HB2.out.trans (b3.mono HB2.out.size)); clear b3)
  go_ret
  exact ⟨rfl, B3.out⟩
theorem implPlace_any (va vb : Value) (r c : List Int) (y x v : Int) (w : World) (ha : InRow w va r) (hb : InRow w vb c) :
    Calls Tryz.prog 20 #[va, vb, .int .i64 y, .int .i64 x, .int .i64 v] w fun e w' => e = .returned (.bool (placeOf r c y x v)) ∧ Below w.heap.size w w' := by
  cases h : existsOf r c with
  | false => exact implPlace_no va vb r c y x v w ha hb h
  | true =>
    by_cases ho : 0 ≤ y ∧ y < r.length ∧ 0 ≤ x ∧ x < c.length
    · obtain ⟨h1, h2, h3, h4⟩ := ho
      obtain ⟨y', rfl⟩ : ∃ y' : Nat, y = y' := ⟨y.toNat, by omega⟩
      obtain ⟨x', rfl⟩ : ∃ x' : Nat, x = x' := ⟨x.toNat, by omega⟩
      exact implPlace_in va vb r c y' x' v w ha hb h (by omega) (by omega)
    · exact implPlace_out va vb r c y x v w ha hb h ho
end Go.Proofs.YtcliiefedmiokaaGreat
/-
  LeastImage and CanPlace of the model.
-/
namespace Go.Proofs.YtcliiefedmiokaaGreat
open Go.RowKit

theorem place_color {r c : List Int} {y x v : Int} (h : ¬ (0 ≤ v ∧ v ≤ 1)) : placeOf r c y x v = false := by
  unfold placeOf
  by_cases hr : 0 ≤ y ∧ y < r.length ∧ 0 ≤ x ∧ x < c.length
  · have : (rowsAtL r c y.toNat).any (fun row => row.getD x.toNat 0 == v) = false := by
      rw [List.any_eq_false]
      intro row hrow
      have h1 := (mem_rowsL _ _ _).1 (List.mem_filter.1 hrow).1
      have h2 := rowOf_cell h1 (x := x.toNat) (by omega)
      rw [beq_iff_eq]
      intro e
      omega
    rw [this, Bool.and_false]
  · rw [decide_eq_false hr]; simp
/-- What l01In answers here. -/
def inB (n lo hi : Int) : Bool := decide (lo ≤ n ∧ n ≤ hi)
end Go.Proofs.YtcliiefedmiokaaGreat
/-
  AllImages and CountImages of the model.
-/
namespace Go.Proofs.YtcliiefedmiokaaGreat
open Go.RowKit

/-- All images with given sums; none where the sums are refused. -/
def allIm (r c : List Int) : List (List (List Int)) := if existsOf r c = true then allL r c else []
def countIm (r c : List Int) : Int := if sumsOk r c = true then ((allIm r c).length : Int) else -1
theorem allL_none {r c : List Int} (h : sumsOk r c = true) (he : existsOf r c = false) : allL r c = [] := by
  obtain ⟨hr, hc, -⟩ := sumsOk_yes h
  cases r with
  | nil => simp at hr
  | cons a r =>
    rw [allL, List.flatMap_eq_nil_iff]
    intro row hrow
    cases hb : restB r (subL c row) with
    | false => simp
    | true =>
      exfalso
      have h1 := (restB_iff (by simp at hr; omega) (by rw [subL_len]; exact hc)).1 hb
      have h2 := exists_of_img hr hc ((hasImg_cons a r c).2 ⟨row, (mem_rowsL _ _ _).1 hrow, h1⟩)
      rw [he] at h2; cases h2
theorem allIm_sums {r c : List Int} (h : sumsOk r c = true) : allIm r c = allL r c := by
  unfold allIm
  cases he : existsOf r c with
  | true => simp
  | false => simp [allL_none h he]
theorem allIm_refused {r c : List Int} (h : sumsOk r c = false) : allIm r c = [] := by
  unfold allIm
  rw [if_neg]
  intro he
  rw [existsOf_sums he] at h; cases h
theorem allIm_len (r c : List Int) : (allIm r c).length ≤ 100000 := by
  unfold allIm
  split
  · rename_i h
    obtain ⟨hr, hc, -⟩ := sumsOk_yes (existsOf_sums h)
    refine Nat.le_trans (allL_len r c hc.2) ?_
    exact Nat.le_trans (Nat.pow_le_pow_right (by decide) hr.2) (by decide)
  · simp
/-- The call answers a list of lists of lists of its own, and a bool. -/
def ImgsRes2 (ms : List (List (List Int))) (b : Bool) (w : World) (e : Ending) (w' : World) : Prop := ∃ v, e = .returned (.tuple #[v, .bool b]) ∧ OwnImgs w' w.heap.size v ms ∧ Below w.heap.size w w'
theorem ownImgs_nil (w : World) (lo : Nat) : OwnImgs w lo (.slice none 0 0) [] := ⟨[], World.ownsRow_nil _ _ _ _, fun _ h => absurd h (Nat.not_lt_zero _)⟩

end Go.Proofs.YtcliiefedmiokaaGreat
/-
  The heaviest and the nearest image, pure; the model's search for the first of the greatest.
-/
namespace Go.Proofs.YtcliiefedmiokaaGreat
open Go.RowKit Go.Shelf

theorem allL_mk {r c : List Int} (h : existsOf r c = true) {m : List (List Int)} (hm : m ∈ allL r c) : m = mkM r.length c.length (cellM m) ∧ Img r.length c.length (cellM m) ∧ ImgF r c (cellM m) := by
  obtain ⟨hr5, hc5, -⟩ := sumsOk_yes (existsOf_sums h)
  obtain ⟨h1, h2, h3⟩ := all_sound r c hr5.2 hc5 (img_of_exists h) m hm
  refine ⟨?_, ⟨hr5.1, hr5.2, hc5.1, hc5.2, fun y x hy hx => h3.cell y x hy hx⟩, h3⟩
  refine List.ext_getElem (by rw [mkM_len, h1]) fun i hi1 hi2 => ?_
  rw [mkM_at]
  refine List.ext_getElem (by rw [rowF_len, h2 _ (List.getElem_mem hi1)]) fun j hj1 hj2 => ?_
  rw [rowF_at]
  simp [cellM, List.getD_eq_getElem?_getD, hi1, hj1]
theorem allL_ne {r c : List Int} (h : existsOf r c = true) : allL r c ≠ [] := by
  obtain ⟨hr5, hc5, -⟩ := sumsOk_yes (existsOf_sums h)
  obtain ⟨l, hl⟩ := all_first r c hr5.2 hc5 (img_of_exists h)
  rw [hl]; simp
/-- The first of the greatest value, and this value; nothing where the arguments are refused. -/
def pickP (vf : List (List Int) → Int) (r c : List Int) (ok : Bool) : List (List Int) × Int := if ok then (bestF vf (allL r c)).getD ([], 0) else ([], 0)
def heavB (r c : List Int) (k : List (List Int)) : Bool := existsOf r c && wtB k r.length c.length
def heavF (r c : List Int) (k m : List (List Int)) : Int := wtS r.length c.length (cellM k) (cellM m)
def heavP (r c : List Int) (k : List (List Int)) : List (List Int) × Int := pickP (heavF r c k) r c (heavB r c k)
theorem heavF_range {r c : List Int} {k : List (List Int)} (h : existsOf r c = true) (hw : Wt r.length c.length (cellM k)) {m : List (List Int)} (hm : m ∈ allL r c) : -2500 ≤ heavF r c k m ∧ heavF r c k m ≤ 2500 :=
  wt_all hw (allL_mk h hm).2.1 (Nat.le_refl _)
/-- While the model looks for it: the place of the best so far. -/
def PickSt (us : List Value) (L : List (List (List Int))) (vf : List (List Int) → Int) (k : Nat) (v : Value) (n : Int) : Prop :=
  ∃ j m, j < k ∧ bestF vf (L.take k) = some (m, n) ∧ L[j]? = some m ∧ v = us.getD j undef
theorem pick_first {us : List Value} {L : List (List (List Int))} {vf : List (List Int) → Int} (h : 0 < L.length) : PickSt us L vf 1 (us.getD 0 undef) (vf L[0]) := by
  refine ⟨0, L[0], by omega, ?_, List.getElem?_eq_getElem h, rfl⟩
  have : L.take 1 = [] ++ [L[0]] := by
    cases L with
    | nil => simp at h
    | cons a l => rfl
  rw [this, bestF_snoc]; rfl
theorem pick_more {us : List Value} {L : List (List (List Int))} {vf : List (List Int) → Int} {k : Nat} {v : Value} {n : Int} (h : PickSt us L vf k v n) (hk : k < L.length) (hv : n < vf L[k]) : PickSt us L vf (k + 1) (us.getD k undef) (vf L[k]) := by
  obtain ⟨j, m, h1, h2, h3, -⟩ := h
  refine ⟨k, L[k], by omega, ?_, List.getElem?_eq_getElem hk, rfl⟩
  rw [List.take_succ_eq_append_getElem hk, bestF_snoc, h2]
  exact bestS_more hv
theorem pick_less {us : List Value} {L : List (List (List Int))} {vf : List (List Int) → Int} {k : Nat} {v : Value} {n : Int} (h : PickSt us L vf k v n) (hk : k < L.length) (hv : ¬ n < vf L[k]) : PickSt us L vf (k + 1) v n := by
  obtain ⟨j, m, h1, h2, h3, h4⟩ := h
  refine ⟨j, m, by omega, ?_, h3, h4⟩
  rw [List.take_succ_eq_append_getElem hk, bestF_snoc, h2]
  exact bestS_less hv
theorem pick_end {us : List Value} {L : List (List (List Int))} {vf : List (List Int) → Int} {v : Value} {n : Int} (h : PickSt us L vf L.length v n) : ∃ j, ∃ hj : j < L.length, bestF vf L = some (L[j], n) ∧ v = us.getD j undef := by
  obtain ⟨j, m, h1, h2, h3, h4⟩ := h
  rw [List.take_length] at h2
  rw [List.getElem?_eq_getElem h1] at h3
  exact ⟨j, h1, by rw [Option.some.inj h3]; exact h2, h4⟩
end Go.Proofs.YtcliiefedmiokaaGreat
/-
  Images with the sums of one: what the lists of its sums say.
-/
namespace Go.Proofs.YtcliiefedmiokaaGreat
open Go.RowKit

theorem sameB_okI {R C : Nat} {f g : Nat → Nat → Int} (hI : Img R C f) (hJ : Img R C g) (hs : SameF R C f g) : sameB (mkM R C f) (mkM R C g) = true := by
  rw [sameB_mk hI hJ, if_pos ⟨rfl, rfl⟩]
  unfold sameL
  rw [Bool.and_eq_true, beq_iff_eq, beq_iff_eq]
  refine ⟨rowF_congr fun y hy => by rw [hs.1 y hy], rowF_congr fun x hx => ?_⟩
  have := hs.2 x hx
  show ((rs R (trM f) x : Nat) : Int) = rs R (trM g) x
  exact congrArg Int.ofNat this
theorem img_sameI {R C : Nat} {f g : Nat → Nat → Int} (hI : Img R C f) (hg : ImgF (rowsL R C f) (rowsL C R (trM f)) g) : Img R C g ∧ SameF R C g f := by
  obtain ⟨h1, h2, h3⟩ := (imgF_iff hI g).1 hg
  have hJ : Img R C g := ⟨hI.r1, hI.r2, hI.c1, hI.c2, h1⟩
  refine ⟨hJ, fun y hy => ?_, fun x hx => ?_⟩
  · have := h2 y hy
    rw [S_cnt _ _ fun x hx => h1 y x hy hx, S_cnt _ _ fun x hx => hI.cell y x hy hx] at this
    unfold rs; omega
  · have := h3 x hx
    rw [S_cnt _ _ fun y hy => h1 y x hy hx, S_cnt _ _ fun y hy => hI.cell y x hy hx] at this
    unfold cs; omega
theorem imgF_sameI {R C : Nat} {f g : Nat → Nat → Int} (hI : Img R C f) (hJ : Img R C g) (hs : SameF R C f g) : ImgF (rowsL R C f) (rowsL C R (trM f)) g := by
  refine (imgF_iff hI g).2 ⟨hJ.cell, fun y hy => ?_, fun x hx => ?_⟩
  · rw [S_cnt _ _ fun x hx => hJ.cell y x hy hx, S_cnt _ _ fun x hx => hI.cell y x hy hx]
    have := hs.1 y hy
    unfold rs at this; omega
  · rw [S_cnt _ _ fun y hy => hJ.cell y x hy hx, S_cnt _ _ fun y hy => hI.cell y x hy hx]
    have := hs.2 x hx
    unfold cs at this; omega
theorem same_okI (v u : Value) (m l : List (List Int)) (w : World) (hin : InMat w v m) (hin2 : InMat w u l) (h : sameB m l = true) :
    Calls Tryz.prog 17 #[v, u] w fun e w' => e = .returned (.bool true) ∧ Below w.heap.size w w' := by
  have := implSameB_any v u m l w hin hin2
  rw [h] at this; exact this
theorem inMat_sliceI {w : World} {v : Value} {R C : Nat} {f : Nat → Nat → Int} (h : InMat w v (mkM R C f)) : ∃ a c, v = .slice a R c := by
  obtain ⟨a, c, rfl, -⟩ := h
  rw [mkM_len]; exact ⟨a, c, rfl⟩
theorem exists_I {R C : Nat} {f : Nat → Nat → Int} (hI : Img R C f) : existsOf (rowsL R C f) (rowsL C R (trM f)) = true := by
  have h1 := hI.r1; have h2 := hI.r2; have h3 := hI.c1; have h4 := hI.c2
  exact exists_of_img (by rw [rows_len]; omega) (by rw [rows_len]; omega) ⟨f, imgF_self hI⟩
theorem mem_I {R C : Nat} {f g : Nat → Nat → Int} (hI : Img R C f) (hJ : Img R C g) (hs : SameF R C f g) : mkM R C g ∈ allL (rowsL R C f) (rowsL C R (trM f)) := by
  have h := all_complete (rowsL R C f) (rowsL C R (trM f)) (by rw [rows_len]; exact hI.r2) (by rw [rows_len]; exact ⟨hI.c1, hI.c2⟩) g (imgF_sameI hI hJ hs)
  rw [rows_len, rows_len] at h
  exact h
theorem allL_I {R C : Nat} {f : Nat → Nat → Int} (hI : Img R C f) {m : List (List Int)} (hm : m ∈ allL (rowsL R C f) (rowsL C R (trM f))) : m = mkM R C (cellM m) ∧ Img R C (cellM m) ∧ SameF R C (cellM m) f := by
  obtain ⟨h1, -, h3⟩ := allL_mk (exists_I hI) hm
  rw [rows_len, rows_len] at h1
  exact ⟨h1, (img_sameI hI h3).1, (img_sameI hI h3).2⟩
theorem sameF_refl (R C : Nat) (f : Nat → Nat → Int) : SameF R C f f := ⟨fun _ _ => rfl, fun _ _ => rfl⟩
end Go.Proofs.YtcliiefedmiokaaGreat
/-
  A range over a function whose iterator keeps memory of its own between the rounds and hands memory on: what either side may change is a set of blocks.
-/
namespace Go.Proofs.YtcliiefedmiokaaGreat
open Go.RowKit Go.Shelf

section
variable {P : Program}

/-- No block has turned but those of A. -/
structure ItOnly (A : Nat → Prop) (W W' : World) : Prop where
  os : W'.os = W.os
  tape : W'.tape = W.tape
  output : W'.output = W.output
  size : W.heap.size ≤ W'.heap.size
  block : ∀ k, k < W.heap.size → ¬ A k → W'.heap[k]? = W.heap[k]?
/-- .. and what is the caller's now was so before, or is new. -/
def ItStep (A A' : Nat → Prop) (W W' : World) : Prop := ItOnly A W W' ∧ ∀ k, A' k → A k ∨ W.heap.size ≤ k
theorem itStep_put {A B : Nat → Prop} {U W : World} {k : Nat} (h : ItStep A B U W) (hk : U.heap.size ≤ k) (o : Obj) : ItStep A B U (W.putObj k o) :=
  ⟨⟨h.1.os, h.1.tape, h.1.output, by simpa using h.1.size, fun i hi hn => by rw [World.putObj_heap_other (by omega)]; exact h.1.block i hi hn⟩, h.2⟩
/-- .. or has been handed over. -/
def ItGive (A A' G : Nat → Prop) (W W' : World) : Prop := ItOnly A W W' ∧ ∀ k, A' k → A k ∨ G k ∨ W.heap.size ≤ k
theorem itStep_refl (A : Nat → Prop) (W : World) : ItStep A A W W := ⟨⟨rfl, rfl, rfl, Nat.le_refl _, fun _ _ _ => rfl⟩, fun _ h => .inl h⟩
theorem itStep_trans {A B C : Nat → Prop} {U V W : World} (h : ItStep A B U V) (k : ItStep B C V W) : ItStep A C U W := by
  refine ⟨⟨k.1.os.trans h.1.os, k.1.tape.trans h.1.tape, k.1.output.trans h.1.output, Nat.le_trans h.1.size k.1.size, fun i hi hn => ?_⟩, fun i hi => ?_⟩
  · rw [k.1.block i (Nat.lt_of_lt_of_le hi h.1.size) (fun hb => (h.2 i hb).elim hn (fun h2 => by omega)), h.1.block i hi hn]
  · rcases k.2 i hi with h2 | h2
    · exact h.2 i h2
    · exact .inr (Nat.le_trans h.1.size h2)
theorem itGive_trans {A B C G : Nat → Prop} {U V W : World} (h : ItStep A B U V) (k : ItGive B C G V W) (hG : ∀ i, G i → U.heap.size ≤ i) : ItStep A C U W := by
  refine ⟨⟨k.1.os.trans h.1.os, k.1.tape.trans h.1.tape, k.1.output.trans h.1.output, Nat.le_trans h.1.size k.1.size, fun i hi hn => ?_⟩, fun i hi => ?_⟩
  · rw [k.1.block i (Nat.lt_of_lt_of_le hi h.1.size) (fun hb => (h.2 i hb).elim hn (fun h2 => by omega)), h.1.block i hi hn]
  · rcases k.2 i hi with h2 | h2 | h2
    · exact h.2 i h2
    · exact .inr (hG i h2)
    · exact .inr (Nat.le_trans h.1.size h2)
theorem itStep_below {A : Nat → Prop} {W W' : World} (h : Below W.heap.size W W') : ItStep A A W W' := ⟨⟨h.os, h.tape, h.output, h.size, fun k hk _ => h.block k hk⟩, fun _ h => .inl h⟩
/-- J speaks of the caller's blocks and of what lay below B alone. -/
def AbidF {β : Type} (B : Nat) (J : β → (Nat → Prop) → World → Prop) : Prop :=
  ∀ s A W W', J s A W → W'.os = W.os → W'.tape = W.tape → W'.output = W.output → W.heap.size ≤ W'.heap.size → (∀ k, k < W.heap.size → (k < B ∨ A k) → W'.heap[k]? = W.heap[k]?) → J s A W'
theorem abidF_mono {β : Type} {B B' : Nat} {J : β → (Nat → Prop) → World → Prop} (h : AbidF B J) (hB : B ≤ B') : AbidF B' J :=
  fun s A W W' h1 h2 h3 h4 h5 h6 => h s A W W' h1 h2 h3 h4 h5 fun k hk hc => h6 k hk (hc.imp (fun x => by omega) id)
theorem abidF_below {β : Type} {B : Nat} {J : β → (Nat → Prop) → World → Prop} (h : AbidF B J) {s : β} {A : Nat → Prop} {W W' : World} (hj : J s A W) (hb : Below W.heap.size W W') : J s A W' :=
  h s A W W' hj hb.os hb.tape hb.output hb.size fun k hk _ => hb.block k hk
theorem abidF_put {β : Type} {B : Nat} {J : β → (Nat → Prop) → World → Prop} (h : AbidF B J) {s : β} {A : Nat → Prop} {W : World} {l : Nat} (o : Obj) (hj : J s A W) (hB : B ≤ l) (hA : ¬ A l) : J s A (W.putObj l o) :=
  h s A W _ hj rfl rfl rfl (by simp) fun k hk hc => World.putObj_heap_other (fun e => by subst e; rcases hc with hc | hc; omega; exact hA hc)

theorem yieldAt_any {m m' : Nat} {l : Nat} {args : Array Value} {W : World} {R : Ending → World → Prop} (h : YieldAt Fence.wide m P l args W R) : YieldAt Fence.wide m' P l args W R := by
  obtain ⟨fn, tmps, assign, body, hy, hR⟩ := h
  exact ⟨fn, tmps, assign, body, hy, hR.1, fun c cs _ => hR.2 c cs (room_wide _)⟩

/-- An iterator's value hands on the elements of L, one by one, each with blocks of its own (G, from lo on). -/
def EachC {M : Type} (P : Program) (gf : Nat) (lb : Array Value) (L : List M) (Val : Value → M → Nat → (Nat → Prop) → World → Prop) (W : World) (A : Nat → Prop) : Prop :=
  ∀ (l : Nat) (J Jx : List M → (Nat → Prop) → World → Prop), AbidF W.heap.size J → AbidF W.heap.size Jx → (∀ pre A1 W1, J pre A1 W1 → ∀ k, A1 k → k < W1.heap.size) →
    (∀ pre A1 m v lo G W1, J pre A1 W1 → (pre ++ [m]) <+: L → ItStep A A1 W W1 → Val v m lo G W1 → W.heap.size ≤ lo → lo ≤ W1.heap.size → (∀ k, A1 k → k < lo) → (∀ k, G k → lo ≤ k ∧ k < W1.heap.size) → YieldAt Fence.wide 0 P l #[v] W1 fun e W2 =>
      (e = .returned (.bool true) ∧ ∃ A2, J (pre ++ [m]) A2 W2 ∧ ItGive A1 A2 G W1 W2) ∨
      (e = .returned (.bool false) ∧ ∃ A2, Jx (pre ++ [m]) A2 W2 ∧ (W1.heap.size ≤ W2.heap.size ∧ (∀ k, W.heap.size ≤ k → k < W1.heap.size → ¬ A1 k → W2.heap[k]? = W1.heap[k]?) ∧ ∀ k, A2 k → A1 k ∨ G k ∨ W1.heap.size ≤ k))) →
    J [] A W →
    Calls P gf (#[.func (.yield l) #[] #[]] ++ lb) W fun e W2 => (∃ v, e = .returned v) ∧ ∃ A2, (J L A2 W2 ∧ ItStep A A2 W W2) ∨ ∃ pre, pre <+: L ∧ Jx pre A2 W2

/-- How the body of a round may be left. -/
def eachPost {M : Type} (B : Nat) (I : List M → (Nat → Prop) → World → Prop) (Ix : Code → List M → (Nat → Prop) → World → Prop) (xs : List M) (A G : Nat → Prop) (W : World) : Exit → Act → World → Prop
  | .normal, _, W' => ∃ A', I xs A' W' ∧ ItGive A A' G W W'
  | .ret, _, W' => ∃ A', Ix .ret xs A' W' ∧ (W.heap.size ≤ W'.heap.size ∧ (∀ k, B ≤ k → k < W.heap.size → ¬ A k → W'.heap[k]? = W.heap[k]?) ∧ ∀ k, A' k → A k ∨ G k ∨ W.heap.size ≤ k)
  | .exit id, _, W' => ∃ A', Ix (.exit id) xs A' W' ∧ (W.heap.size ≤ W'.heap.size ∧ (∀ k, B ≤ k → k < W.heap.size → ¬ A k → W'.heap[k]? = W.heap[k]?) ∧ ∀ k, A' k → A k ∨ G k ∨ W.heap.size ≤ k)
  | _, _, _ => False

set_option maxHeartbeats 1000000 in
theorem wp_rangeEach {M : Type} {g : Operand} {ps : Array Tmp} {assign body : Code} {Q : Exit → Act → World → Prop} {a : Act} {w : World} {n gf : Nat} {lb : Array Value}
    (hg : a.eval g = .func (.func gf) #[] lb) (eg : ∀ args w, (callFunc gf args).run P w = .ok (.enter gf args) w)
    {L : List M} {Val : Value → M → Nat → (Nat → Prop) → World → Prop} (hVal : ∀ v m lo G W W', Val v m lo G W → W.heap.size ≤ W'.heap.size → (∀ k, G k → W'.heap[k]? = W.heap[k]?) → Val v m lo G W')
    (A0 : Nat → Prop) (hA0 : ∀ k, A0 k → k < w.heap.size) (hseq : ∀ W1 : World, Below w.heap.size w W1 → W1.heap.size = w.heap.size + 2 → EachC P gf lb L Val W1 A0) (hps : ps.size = 1)
    (I : List M → (Nat → Prop) → World → Prop) (Ix : Code → List M → (Nat → Prop) → World → Prop) (hI : AbidF w.heap.size I) (hIx : ∀ c, AbidF w.heap.size (Ix c)) (hIA : ∀ pre A1 W1, I pre A1 W1 → ∀ k, A1 k → k < W1.heap.size) (h0 : I [] A0 w) (a₁ : Value → Act)
    (hassign : ∀ (l : Nat) (v : Value) (m : M) (lo : Nat) (G : Nat → Prop) (W : World) (K : Act → World → Prop), Val v m lo G W → K (a₁ v) W → assign.wpIn (Fence.wide.inRound l) n P (Exit.then K (fun _ _ _ => False)) { tmps := (ps.zip #[v]).foldl (fun t (p, v) => t.setIfInBounds p v) a.tmps, defers := [] } W)
    (hbody : ∀ (l : Nat) (pre : List M) (A : Nat → Prop) (m : M) (v : Value) (lo : Nat) (G : Nat → Prop) (W : World), I pre A W → ItStep A0 A w W → (pre ++ [m]) <+: L → Val v m lo G W → w.heap.size + 2 ≤ lo → lo ≤ W.heap.size → (∀ k, A k → k < lo) → (∀ k, G k → lo ≤ k ∧ k < W.heap.size) → body.wpIn (Fence.wide.inRound l) n P (eachPost w.heap.size I Ix (pre ++ [m]) A G W) (a₁ v) W)
    (hdone : ∀ (A : Nat → Prop) (W : World), I L A W → ItStep A0 A w W → (∀ k, A k → A0 k ∨ w.heap.size + 2 ≤ k) → W.heap[w.heap.size]? = some (.deferred (some [])) → Q .normal { a with defers := { target := .collected w.heap.size, args := #[] } :: a.defers } W)
    (hstop : ∀ (c : Code) (pre : List M) (A : Nat → Prop) (W : World), pre <+: L → Ix c pre A W → (∀ k, A k → A0 k ∨ w.heap.size + 2 ≤ k) → W.heap[w.heap.size]? = some (.deferred (some [])) → c.wpIn Fence.wide n P Q { a with defers := { target := .collected w.heap.size, args := #[] } :: a.defers } W) :
    (Code.rangeFunc g ps assign body).wpIn Fence.wide n P Q a w := by
  refine wpIn_rangeFunc fun fn hfn => ?_
  let rec0 : LoopState → Option Code → Loop := fun st pe => { state := st, pending := pe, fn := fn, tmps := a.tmps, params := ps, assign := assign, body := body, defers := w.heap.size }
  obtain ⟨R, hR⟩ : ∃ R, R = rec0 := ⟨_, rfl⟩
  obtain ⟨U, hU⟩ : ∃ U, U = (w.alloc (.deferred (some []))).alloc (.loop (R .ready none)) := ⟨_, rfl⟩
  have hub : Below w.heap.size w U := by rw [hU]; exact ((Below.refl _ w).alloc (Nat.le_refl _) _).alloc (by simp) _
  have hus : U.heap.size = w.heap.size + 2 := by rw [hU]; simp
  have hul : U.heap[w.heap.size + 1]? = some (.loop (R .ready none)) := by
    rw [hU]; have := World.alloc_heap_new (w.alloc (.deferred (some []))) (.loop (R .ready none)); rwa [World.size_alloc] at this
  have hud : U.heap[w.heap.size]? = some (.deferred (some [])) := by
    rw [hU]; exact (Below.heap_alloc _ _ _ (by simp)).trans (World.alloc_heap_new w _)
  have hui : I [] A0 U := abidF_below hI h0 hub
  refine ⟨w.heap.size + 1, [{ target := .collected w.heap.size, args := #[] }], U, { target := .fn (.func gf) lb, args := #[.func (.yield (w.heap.size + 1)) #[] #[]] }, U, gf, #[.func (.yield (w.heap.size + 1)) #[] #[]] ++ lb, U, ?_, ?_, fun _ _ => trivial, ?_, fun h => (by simp [Fence.wide] at h), ?_⟩
  · rw [hU, hR]; exact run_enterLoop_outer _ _ _ _ _
  · simp only [resolve, hg]
    simp [go_sem]
  · simp [invoke, go_sem, eg]
  refine (callsIn_wide (n := n - 1)).2 ?_
  refine (hseq U hub hus (w.heap.size + 1) (fun pre A W => I pre A W ∧ ItStep A0 A U W ∧ W.heap[w.heap.size + 1]? = some (.loop (R .ready none)) ∧ W.heap[w.heap.size]? = some (.deferred (some [])))
    (fun pre A W => ((∃ c, Ix c pre A W ∧ W.heap[w.heap.size + 1]? = some (.loop (R .done (some c)))) ∧ W.heap[w.heap.size]? = some (.deferred (some []))) ∧ ∀ k, A k → A0 k ∨ U.heap.size ≤ k) ?_ ?_ (fun pre A1 W1 h => hIA pre A1 W1 h.1) ?_ ⟨hui, itStep_refl _ _, hul, hud⟩).mono ?_
  · intro s A W W' hj ho ht hp hs hk
    obtain ⟨h1, h2, h3, h4⟩ := hj
    have hlt := (Array.getElem?_eq_some_iff.1 h3).1
    refine ⟨hI s A W W' h1 ho ht hp hs fun k hk2 hc => hk k hk2 (hc.imp (fun x => by omega) id), ⟨⟨ho.trans h2.1.os, ht.trans h2.1.tape, hp.trans h2.1.output, Nat.le_trans h2.1.size hs, fun k hk2 hn => ?_⟩, h2.2⟩, ?_, ?_⟩
    · rw [hk k (Nat.lt_of_lt_of_le hk2 h2.1.size) (.inl hk2)]; exact h2.1.block k hk2 hn
    · rw [hk _ hlt (.inl (by omega))]; exact h3
    · rw [hk _ (by omega) (.inl (by omega))]; exact h4
  · intro s A W W' hj ho ht hp hs hk
    obtain ⟨⟨⟨c, h1, h3⟩, h4⟩, h5⟩ := hj
    have hlt := (Array.getElem?_eq_some_iff.1 h3).1
    refine ⟨⟨⟨c, hIx c s A W W' h1 ho ht hp hs fun k hk2 hc => hk k hk2 (hc.imp (fun x => by omega) id), ?_⟩, ?_⟩, h5⟩
    · rw [hk _ hlt (.inl (by omega))]; exact h3
    · rw [hk _ (by omega) (.inl (by omega))]; exact h4
  · rintro pre A1 m v lo G W1 ⟨hi, hst, hl, hd⟩ hpre - hv hlo hlo1 hAlo hG
    have hlo2 : w.heap.size + 2 ≤ lo := by omega
    have hlt : w.heap.size + 1 < W1.heap.size := (Array.getElem?_eq_some_iff.1 hl).1
    have hnA : ∀ k, w.heap.size ≤ k → k ≤ w.heap.size + 1 → ¬ A1 k := fun k h1 h2 hA => by
      rcases hst.2 k hA with h3 | h3
      · have := hA0 k h3; omega
      · omega
    have hy := run_yield (P := P) (args := #[v]) hl (by rw [hR]; exact hps.symm)
    rw [hR] at hy
    obtain ⟨V, hV⟩ : ∃ V, V = W1.putObj (w.heap.size + 1) (.loop { R .ready none with state := .busy }) := ⟨_, rfl⟩
    have hVl : V.heap[w.heap.size + 1]? = some (.loop { R .ready none with state := .busy }) := by rw [hV]; exact World.putObj_heap_same hlt
    have hVo : ∀ k, k ≠ w.heap.size + 1 → V.heap[k]? = W1.heap[k]? := fun k hk => by rw [hV]; exact World.putObj_heap_other hk
    have hVs : V.heap.size = W1.heap.size := by rw [hV]; simp
    have hVi : I pre A1 V := by rw [hV]; exact abidF_put hI _ hi (by omega) (hnA _ (by omega) (Nat.le_refl _))
    have hVv : Val v m lo G V := hVal _ _ _ _ W1 V hv (by omega) fun k hk => hVo k (by have := hG k hk; omega)
    have hVe : V.os = W1.os ∧ V.tape = W1.tape ∧ V.output = W1.output := by rw [hV]; exact ⟨rfl, rfl, rfl⟩
    have hVst : ItStep A0 A1 w V := by
      refine ⟨⟨hVe.1.trans (hst.1.os.trans hub.os), hVe.2.1.trans (hst.1.tape.trans hub.tape), hVe.2.2.trans (hst.1.output.trans hub.output), by omega, fun k hk hn => ?_⟩, fun k hA => ?_⟩
      · rw [hVo k (by omega), hst.1.block k (by omega) hn, hub.block k hk]
      · rcases hst.2 k hA with h3 | h3
        · exact .inl h3
        · exact .inr (by omega)
    refine ⟨fn, _, assign, body, hy, ?_⟩
    have hbusy : ∀ W3 : World, V.heap.size ≤ W3.heap.size → (∀ k, w.heap.size ≤ k → k < V.heap.size → ¬ A1 k → W3.heap[k]? = V.heap[k]?) → W3.heap[w.heap.size + 1]? = some (.loop { R .ready none with state := .busy }) ∧ W3.heap[w.heap.size]? = some (.deferred (some [])) ∧ w.heap.size + 1 < W3.heap.size := fun W3 h1 h2 => by
      refine ⟨?_, ?_, by omega⟩
      · rw [h2 _ (by omega) (by omega) (hnA _ (by omega) (Nat.le_refl _))]; exact hVl
      · rw [h2 _ (Nat.le_refl _) (by omega) (hnA _ (Nat.le_refl _) (by omega)), hVo _ (by omega)]; exact hd
    have hleave : ∀ (c : Code) (A' : Nat → Prop) (W3 : World), Ix c (pre ++ [m]) A' W3 → (V.heap.size ≤ W3.heap.size ∧ (∀ k, w.heap.size ≤ k → k < V.heap.size → ¬ A1 k → W3.heap[k]? = V.heap[k]?) ∧ ∀ k, A' k → A1 k ∨ G k ∨ V.heap.size ≤ k) →
        ∃ v' W4, (Instr.endRound (w.heap.size + 1) (some c)).run P W3 = .ok v' W4 ∧ (Ending.returned v' = .returned (.bool false) ∧ ∃ A2, (((∃ c, Ix c (pre ++ [m]) A2 W4 ∧ W4.heap[w.heap.size + 1]? = some (.loop (R .done (some c)))) ∧ W4.heap[w.heap.size]? = some (.deferred (some []))) ∧ ∀ k, A2 k → A0 k ∨ U.heap.size ≤ k) ∧ (W1.heap.size ≤ W4.heap.size ∧ (∀ k, U.heap.size ≤ k → k < W1.heap.size → ¬ A1 k → W4.heap[k]? = W1.heap[k]?) ∧ ∀ k, A2 k → A1 k ∨ G k ∨ W1.heap.size ≤ k)) := by
      rintro c A' W3 hi3 ⟨hs3, hk3, hA3⟩
      obtain ⟨h1, h2, h3⟩ := hbusy W3 hs3 hk3
      have hnA' : ¬ A' (w.heap.size + 1) := fun h => by
        rcases hA3 _ h with h4 | h4 | h4
        · exact hnA _ (by omega) (Nat.le_refl _) h4
        · have := hG _ h4; omega
        · omega
      refine ⟨_, _, run_endRound (P := P) (some c) h1, rfl, A', ⟨⟨⟨c, abidF_put (hIx c) _ hi3 (by omega) hnA', ?_⟩, ?_⟩, fun k hk => ?_⟩, ?_, fun k hk1 hk2 hn => ?_, fun k hk => ?_⟩
      · rw [World.putObj_heap_same h3, hR]; rfl
      · rw [World.putObj_heap_other (by omega)]; exact h2
      · rcases hA3 k hk with h4 | h4 | h4
        · exact hst.2 k h4
        · exact .inr (by have := hG _ h4; omega)
        · exact .inr (by have := hst.1.size; omega)
      · simp; omega
      · rw [World.putObj_heap_other (by omega), hk3 k (by omega) (by omega) hn, hVo k (by omega)]
      · rcases hA3 k hk with h4 | h4 | h4
        · exact .inl h4
        · exact .inr (.inl h4)
        · exact .inr (.inr (by omega))
    have key : RoundIn Fence.wide n P (w.heap.size + 1) fn ((ps.zip #[v]).foldl (fun t (p, v) => t.setIfInBounds p v) a.tmps) assign body W1 (fun e W2 => (e = .returned (.bool true) ∧ ∃ A2, (I (pre ++ [m]) A2 W2 ∧ ItStep A0 A2 U W2 ∧ W2.heap[w.heap.size + 1]? = some (.loop (R .ready none)) ∧ W2.heap[w.heap.size]? = some (.deferred (some []))) ∧ ItGive A1 A2 G W1 W2) ∨
        (e = .returned (.bool false) ∧ ∃ A2, (((∃ c, Ix c (pre ++ [m]) A2 W2 ∧ W2.heap[w.heap.size + 1]? = some (.loop (R .done (some c)))) ∧ W2.heap[w.heap.size]? = some (.deferred (some []))) ∧ ∀ k, A2 k → A0 k ∨ U.heap.size ≤ k) ∧ (W1.heap.size ≤ W2.heap.size ∧ (∀ k, U.heap.size ≤ k → k < W1.heap.size → ¬ A1 k → W2.heap[k]? = W1.heap[k]?) ∧ ∀ k, A2 k → A1 k ∨ G k ∨ W1.heap.size ≤ k))) := by
      refine roundIn_of_wpIn hfn (hassign _ v m lo G W1 _ hv ⟨V, ?_, wpIn_mono (hbody _ pre A1 m v lo G V hVi hVst hpre hVv hlo2 (by rw [hVs]; exact hlo1) hAlo (fun k hk => by rw [hVs]; exact hG k hk)) ?_⟩)
      · rw [hV]; exact run_beginRound hl (by rw [hR])
      · intro e a' W3 hp
        cases e with
        | normal =>
          obtain ⟨A', hi3, hst3⟩ := hp
          obtain ⟨h1, h2, h3⟩ := hbusy W3 hst3.1.size fun k _ hk2 hn => hst3.1.block k hk2 hn
          have hnA' : ¬ A' (w.heap.size + 1) := fun h => by
            rcases hst3.2 _ h with h4 | h4 | h4
            · exact hnA _ (by omega) (Nat.le_refl _) h4
            · have := hG _ h4; omega
            · omega
          have hstep : ItGive A1 A' G W1 (W3.putObj (w.heap.size + 1) (.loop { { R .ready none with state := .busy } with state := if (none : Option Code).isNone then .ready else .done, pending := none })) := by
            refine ⟨⟨hst3.1.os.trans hVe.1, hst3.1.tape.trans hVe.2.1, hst3.1.output.trans hVe.2.2, by have := hst3.1.size; simp; omega, fun k hk hn => ?_⟩, fun k hk => ?_⟩
            · by_cases e : k = w.heap.size + 1
              · subst e
                rw [World.putObj_heap_same h3, hl, hR]; rfl
              · rw [World.putObj_heap_other e, hst3.1.block k (by omega) hn, hVo k e]
            · rcases hst3.2 k hk with h4 | h4 | h4
              · exact .inl h4
              · exact .inr (.inl h4)
              · exact .inr (.inr (by omega))
          refine ⟨_, _, run_endRound (P := P) none h1, .inl ⟨rfl, A', ⟨abidF_put hI _ hi3 (by omega) hnA', itGive_trans hst hstep (fun i hi => by have := hG i hi; omega), ?_, ?_⟩, hstep⟩⟩
          · rw [World.putObj_heap_same h3, hR]; rfl
          · rw [World.putObj_heap_other (by omega)]; exact h2
        | ret =>
          obtain ⟨A', hi3, h3⟩ := hp
          obtain ⟨v', W4, h4, h5⟩ := hleave _ A' W3 hi3 h3
          exact ⟨v', W4, h4, .inr h5⟩
        | exit id =>
          obtain ⟨A', hi3, h3⟩ := hp
          obtain ⟨v', W4, h4, h5⟩ := hleave _ A' W3 hi3 h3
          exact ⟨v', W4, h4, .inr h5⟩
        | goto t => exact hp.elim
        | panic ch => exact hp.elim
        | outgrown => exact hp.elim
    exact ⟨key.1, fun c cs _ => key.2 c cs (room_wide _)⟩
  · rintro e W2 ⟨⟨v, rfl⟩, A2, hfin⟩
    rcases hfin with ⟨⟨hi, hst, hl, hd⟩, -⟩ | ⟨pre, hpre, ⟨⟨c, hi, hl⟩, hd⟩, hA2⟩
    · have hlt : w.heap.size + 1 < W2.heap.size := (Array.getElem?_eq_some_iff.1 hl).1
      have hnA : ∀ k, w.heap.size ≤ k → k ≤ w.heap.size + 1 → ¬ A2 k := fun k h1 h2 hA => by
        rcases hst.2 k hA with h3 | h3
        · have := hA0 k h3; omega
        · omega
      refine ⟨none, _, by have := run_endLoop (P := P) hl (by rw [hR]; simp [rec0]); rw [hR] at this; exact this, hdone A2 _ (abidF_put hI _ hi (by omega) (hnA _ (by omega) (Nat.le_refl _))) ?_ (fun k hk => by rw [← hus]; exact hst.2 k hk) ?_⟩
      · refine ⟨⟨hst.1.os.trans hub.os, hst.1.tape.trans hub.tape, hst.1.output.trans hub.output, by have := hst.1.size; simp; omega, fun k hk hn => ?_⟩, fun k hA => ?_⟩
        · rw [World.putObj_heap_other (by omega), hst.1.block k (by omega) hn, hub.block k hk]
        · rcases hst.2 k hA with h3 | h3
          · exact .inl h3
          · exact .inr (by omega)
      · rw [World.putObj_heap_other (by omega)]; exact hd
    · have hlt : w.heap.size + 1 < W2.heap.size := (Array.getElem?_eq_some_iff.1 hl).1
      have hnA : ¬ A2 (w.heap.size + 1) := fun hA => by
        rcases hA2 _ hA with h3 | h3
        · have := hA0 _ h3; omega
        · omega
      exact ⟨some c, _, by have := run_endLoop (P := P) hl (by rw [hR]; simp [rec0]); rw [hR] at this; exact this, hstop c pre A2 _ hpre (abidF_put (hIx c) _ hi (by omega) hnA) (fun k hk => by rw [← hus]; exact hA2 k hk) (by rw [World.putObj_heap_other (by omega)]; exact hd)⟩
end
end Go.Proofs.YtcliiefedmiokaaGreat
/-
  Masks: what meets them, all images that do, and when there is none.
-/
namespace Go.Proofs.YtcliiefedmiokaaGreat
open Go.RowKit Mx

/-- Two lists of one length whose elements fit, one by one. -/
def eqBy {α β : Type} (p : α → β → Bool) : List α → List β → Bool
  | [], [] => true
  | a :: l, b :: k => p a b && eqBy p l k
  | _, _ => false
theorem eqBy_len {α β : Type} {p : α → β → Bool} : ∀ {l : List α} {k : List β}, eqBy p l k = true → l.length = k.length
  | [], [], _ => rfl
  | a :: l, b :: k, h => by
    simp only [eqBy, Bool.and_eq_true] at h
    simp [eqBy_len h.2]
  | [], _ :: _, h => by simp [eqBy] at h
  | _ :: _, [], h => by simp [eqBy] at h
theorem eqBy_at {α β : Type} {p : α → β → Bool} : ∀ {l : List α} {k : List β} (i : Nat) (h1 : i < l.length) (h2 : i < k.length), eqBy p l k = true → p l[i] k[i] = true
  | a :: l, b :: k, 0, _, _, h => by simp only [eqBy, Bool.and_eq_true] at h; exact h.1
  | a :: l, b :: k, i + 1, h1, h2, h => by
    simp only [eqBy, Bool.and_eq_true] at h
    simpa using eqBy_at i (by simpa using h1) (by simpa using h2) h.2
theorem eqBy_yes {α β : Type} {p : α → β → Bool} : ∀ {l : List α} {k : List β}, l.length = k.length → (∀ i (h1 : i < l.length) (h2 : i < k.length), p l[i] k[i] = true) → eqBy p l k = true
  | [], [], _, _ => rfl
  | a :: l, b :: k, h, hp => by
    simp only [eqBy, Bool.and_eq_true]
    exact ⟨hp 0 (by simp) (by simp), eqBy_yes (by simpa using h) fun i h1 h2 => hp (i + 1) (by simpa using h1) (by simpa using h2)⟩
  | [], _ :: _, h, _ => by simp at h
  | _ :: _, [], h, _ => by simp at h
theorem eqBy_no1 {α β : Type} {p : α → β → Bool} {l : List α} {k : List β} (h : l.length ≠ k.length) : eqBy p l k = false := by
  cases e : eqBy p l k with
  | false => rfl
  | true => exact absurd (eqBy_len e) h
theorem eqBy_no2 {α β : Type} {p : α → β → Bool} {l : List α} {k : List β} (i : Nat) (h1 : i < l.length) (h2 : i < k.length) (h : p l[i] k[i] = false) : eqBy p l k = false := by
  cases e : eqBy p l k with
  | false => rfl
  | true => have := eqBy_at i h1 h2 e; rw [h] at this; cases this

/-- A cell meets an element of a mask. -/
def meetC (c k : Int) : Bool := k == -1 || k == c
def meetR : List Int → List Int → Bool := eqBy meetC
def meetM : List (List Int) → List (List Int) → Bool := eqBy meetR
def meetsB (m k : List (List Int)) : Bool := okB m && meetM m k
def maskRowB (C : Nat) (q : List Int) : Bool := q.length == C && q.all fun x => x == -1 || cellOk x
def maskB (k : List (List Int)) (r c : List Int) : Bool := sumsOk r c && k.length == r.length && k.all (maskRowB c.length)

/-- All images whose rows are chosen so, row by row: p says of a row, before these sums of the rows below, whether it may stand there. -/
def imL (p : List Int → List Int → Bool) : List Int → List Int → List (List (List Int))
  | [], _ => [[]]
  | a :: r, c => ((firstRows a r c).filter (p r)).flatMap fun row => (imL p r (subL c row)).map (row :: ·)
theorem imL_all : ∀ (r c : List Int), imL (fun _ _ => true) r c = allL r c
  | [], _ => rfl
  | a :: r, c => by
    rw [imL, allL, List.filter_eq_self.2 (fun _ _ => rfl), firstRows, flat_filterM]
    exact congrArg (List.flatMap · _) (funext fun row => by rw [imL_all r])
where
  flat_filterM {α β : Type} (p : α → Bool) (f : α → List β) : ∀ l : List α, (l.filter p).flatMap f = l.flatMap fun x => if p x then f x else []
  | [] => rfl
  | x :: l => by
    rw [List.flatMap_cons, List.filter_cons, ← flat_filterM p f l]
    cases p x <;> simp
theorem imL_sub (p : List Int → List Int → Bool) : ∀ (r c : List Int), ∀ {m : List (List Int)}, m ∈ imL p r c → m ∈ allL r c
  | [], _, _, h => h
  | a :: r, c, m, h => by
    rw [imL, List.mem_flatMap] at h
    obtain ⟨row, h1, h2⟩ := h
    obtain ⟨m', h3, rfl⟩ := List.mem_map.1 h2
    obtain ⟨h4, -⟩ := List.mem_filter.1 h1
    obtain ⟨h5, h6⟩ := List.mem_filter.1 h4
    rw [allL, List.mem_flatMap]
    exact ⟨row, h5, by rw [if_pos h6]; exact List.mem_map.2 ⟨m', imL_sub p r _ h3, rfl⟩⟩
/-- The row of a mask that stands before so many rows. -/
def maskP (k : List (List Int)) (r row : List Int) : Bool := meetR row (k.getD (k.length - (r.length + 1)) [])
theorem filter_map_cons {α : Type} (q : List α → Bool) (x : α) : ∀ l : List (List α), (l.map (x :: ·)).filter q = (l.filter fun m => q (x :: m)).map (x :: ·)
  | [] => rfl
  | m :: l => by
    rw [List.map_cons, List.filter_cons, List.filter_cons, filter_map_cons q x l]
    cases q (x :: m) <;> simp
theorem filter_flat {α β : Type} (q : β → Bool) (f : α → List β) : ∀ l : List α, (l.flatMap f).filter q = l.flatMap fun x => (f x).filter q
  | [] => rfl
  | x :: l => by rw [List.flatMap_cons, List.flatMap_cons, List.filter_append, filter_flat q f l]
theorem imL_mask : ∀ (r c : List Int) (k : List (List Int)), r.length ≤ k.length → imL (maskP k) r c = (allL r c).filter fun m => meetM m (k.drop (k.length - r.length))
  | [], c, k, _ => by
    rw [imL, allL, List.length_nil, Nat.sub_zero, List.drop_length]; rfl
  | a :: r, c, k, h => by
    rw [List.length_cons] at h
    have hd : k.drop (k.length - (r.length + 1)) = k.getD (k.length - (r.length + 1)) [] :: k.drop (k.length - r.length) := by
      rw [List.drop_eq_getElem_cons (by omega), List.getD_eq_getElem?_getD, List.getElem?_eq_getElem (by omega), Option.getD_some, show k.length - (r.length + 1) + 1 = k.length - r.length by omega]
    rw [imL, List.length_cons, hd, ← imL_all, imL, filter_flat, List.filter_eq_self.2 (fun _ _ => rfl), imL_all.flat_filterM]
    refine congrArg (List.flatMap · _) (funext fun row => ?_)
    rw [filter_map_cons, imL_all, imL_mask r (subL c row) k (by omega)]
    have hp : ∀ m, meetM (row :: m) (k.getD (k.length - (r.length + 1)) [] :: k.drop (k.length - r.length)) = (maskP k r row && meetM m (k.drop (k.length - r.length))) := fun m => rfl
    cases hc : maskP k r row with
    | false =>
      rw [if_neg (by simp), List.filter_eq_nil_iff.2 (fun m _ => by rw [hp, hc]; simp)]; rfl
    | true =>
      rw [if_pos rfl]
      exact congrArg _ (List.filter_congr fun m _ => by rw [hp, hc, Bool.true_and])
/-- The images that meet a mask. -/
def maskedL (k : List (List Int)) (r c : List Int) : List (List (List Int)) := (allIm r c).filter fun m => meetM m k
theorem maskedL_im {k : List (List Int)} {r c : List Int} (h : maskB k r c = true) : imL (maskP k) r c = maskedL k r c := by
  unfold maskB at h
  simp only [Bool.and_eq_true, beq_iff_eq] at h
  rw [imL_mask r c k (by omega), h.1.2, Nat.sub_self, List.drop_zero, maskedL, allIm_sums h.1.1]
def maskedImB (k : List (List Int)) (r c : List Int) : Bool := maskB k r c && !(maskedL k r c).isEmpty
def maskedIm (k : List (List Int)) (r c : List Int) : List (List Int) := if maskB k r c = true then (maskedL k r c).headD [] else []
def maskedCnt (k : List (List Int)) (r c : List Int) : Int := if maskB k r c = true then ((maskedL k r c).length : Int) else -1
end Go.Proofs.YtcliiefedmiokaaGreat
