/-
  Texts of this claim, one behind the other: PlaceI, LeastS, AllQ, HeavP, SameI, Flip, PrOk, PrF.
-/
import Derived.Test.YtcliiefedmiokaaGreatPackO
import Derived.Test.YtcliiefedmiokaaGreatPackB
import Derived.Test.YtcliiefedmiokaaGreatPackK
import Derived.Test.YtcliiefedmiokaaGreatPackG
import Derived.Test.YtcliiefedmiokaaGreatPackM
import Derived.Test.YtcliiefedmiokaaGreatPackN
/-
  CanPlace of the program.
-/
namespace Go.Proofs.YtcliiefedmiokaaGreat
open Go.RowKit Go.Shelf Mx

set_option maxHeartbeats 400000 in
theorem placePred_any (u : Value) (row : List Int) (x : Nat) (v : Int) (qx qv : Nat) (w : World) (hvx : w.cell? ⟨qx, 0, none⟩ = some (.int .i64 x)) (hvv : w.cell? ⟨qv, 0, none⟩ = some (.int .i64 v)) (hU : InRow w u row) (hx : x < row.length) :
    Calls Tryz.prog 58 #[u, .pointer (some ⟨qx, 0, none⟩), .pointer (some ⟨qv, 0, none⟩)] w fun e w' => e = .returned (.bool (row.getD x 0 == v)) ∧ Below w.heap.size w w' := by
  have mixed : Tryz.prog.follows .mixedOrders = true := by kernel_rfl
  obtain ⟨a, c, rfl, hm, hp⟩ := hU
  obtain ⟨g, o, rfl, hg, hc⟩ := hp.resolve_left (by omega)
  have hcx := hc x hx
  have e1 : row.getD x 0 = row[x] := by rw [List.getD_eq_getElem?_getD, List.getElem?_eq_getElem hx]; rfl
  rw [e1]
  obtain ⟨z, hz⟩ : ∃ z, z = row[x] := ⟨_, rfl⟩
  rw [← hz] at hcx ⊢
  obtain ⟨n, hn⟩ : ∃ n, n = row.length := ⟨_, rfl⟩
  rw [← hn] at hx hm ⊢
  have hxI : (x : Int) < n := by omega
  clear hc hp e1 hz hn
  go_enter Tryz.func58, Tryz.ntmps58
  go_wp2
  go_quiet (fail)
  go_wp2
  go_ret
  exact ⟨rfl, below_draws (Below.refl _ _) _⟩
theorem place_out {r c : List Int} {y x v : Int} (h : ¬ (0 ≤ y ∧ y < r.length ∧ 0 ≤ x ∧ x < c.length)) : placeOf r c y x v = false := by
  unfold placeOf
  rw [decide_eq_false h]; simp
theorem place_no {r c : List Int} {y x v : Int} (h : existsOf r c = false) : placeOf r c y x v = false := by unfold placeOf; rw [h]; rfl
theorem place_in {r c : List Int} {y x : Nat} {v : Int} (h : existsOf r c = true) (hy : y < r.length) (hx : x < c.length) : placeOf r c y x v = (rowsAtL r c y).any fun row => row.getD x 0 == v := by
  unfold placeOf
  rw [h, decide_eq_true (by omega)]; simp
set_option maxHeartbeats 400000 in
theorem implPlace_no (va vb : Value) (r c : List Int) (y x v : Int) (w : World) (ha : InRow w va r) (hb : InRow w vb c) (h : existsOf r c = false) :
    Calls Tryz.prog 20 #[va, vb, .int .i64 y, .int .i64 x, .int .i64 v] w fun e w' => e = .returned (.bool (placeOf r c y x v)) ∧ Below w.heap.size w w' := by
  rw [place_no h]
  have HBX := hide (((Below.refl w.heap.size w).alloc (Nat.le_refl _) (.cells #[.int .i64 x] 3)).alloc (by simp) (.cells #[.int .i64 v] 3))
  have HE := hide (implExists_any va vb r c _ (inRow_below ha HBX.out) (inRow_below hb HBX.out))
  rw [h] at HE
  clear ha hb h
  go_enter Tryz.func20, Tryz.ntmps20
  go_wp2_with (go_at_call 46; refine HE.out.mono ?_; rintro e w1 ⟨rfl, b1⟩; have B1 := hide b1; clear b1)
  go_ret
  exact ⟨rfl, HBX.out.trans (B1.out.mono HBX.out.size)⟩
set_option maxHeartbeats 1000000 in
theorem implPlace_out (va vb : Value) (r c : List Int) (y x v : Int) (w : World) (ha : InRow w va r) (hb : InRow w vb c) (h : existsOf r c = true) (ho : ¬ (0 ≤ y ∧ y < r.length ∧ 0 ≤ x ∧ x < c.length)) :
    Calls Tryz.prog 20 #[va, vb, .int .i64 y, .int .i64 x, .int .i64 v] w fun e w' => e = .returned (.bool (placeOf r c y x v)) ∧ Below w.heap.size w w' := by
  rw [place_out ho]
  have HBX := hide (((Below.refl w.heap.size w).alloc (Nat.le_refl _) (.cells #[.int .i64 x] 3)).alloc (by simp) (.cells #[.int .i64 v] 3))
  have HX := hide (show ((w.alloc (.cells #[.int .i64 x] 3)).alloc (.cells #[.int .i64 v] 3)).cell? ⟨w.heap.size, 0, none⟩ = some (.int .i64 x) from below_cell ((Below.refl _ _).alloc (Nat.le_refl _) _) (by simp) (by simp [World.cell?_alloc_new]))
  have HS := hide (show w.heap.size < ((w.alloc (.cells #[.int .i64 x] 3)).alloc (.cells #[.int .i64 v] 3)).heap.size by simp; omega)
  have HE := hide (implExists_any va vb r c _ (inRow_below ha HBX.out) (inRow_below hb HBX.out))
  rw [h] at HE
  obtain ⟨xa, ca, rfl, hma, -⟩ := ha
  obtain ⟨xb, cb, rfl, hmb, -⟩ := hb
  unfold maxLen at hma hmb
  obtain ⟨R, hR⟩ : ∃ R, R = r.length := ⟨_, rfl⟩
  obtain ⟨C, hC⟩ : ∃ C, C = c.length := ⟨_, rfl⟩
  rw [← hR] at ho hma HE ⊢
  rw [← hC] at ho hmb HE ⊢
  clear h hR hC
  have hcases : y < 0 ∨ (0 ≤ y ∧ (R : Int) ≤ y) ∨ (0 ≤ y ∧ y < R ∧ x < 0) ∨ (0 ≤ y ∧ y < R ∧ 0 ≤ x ∧ (C : Int) ≤ x) := by omega
  clear ho
  rcases hcases with h1 | ⟨h1, h2⟩ | ⟨h1, h2, h3⟩ | ⟨h1, h2, h3, h4⟩
  all_goals
    go_enter Tryz.func20, Tryz.ntmps20
    go_wp2_with (go_at_call 46; refine HE.out.mono ?_; rintro e w1 ⟨rfl, b1⟩; have B1 := hide b1; have hx1 := below_cell b1 HS.out HX.out; clear b1)
    go_ret
    exact ⟨rfl, HBX.out.trans (B1.out.mono HBX.out.size)⟩
set_option maxHeartbeats 1000000 in
theorem implPlace_in (va vb : Value) (r c : List Int) (y x : Nat) (v : Int) (w : World) (ha : InRow w va r) (hb : InRow w vb c) (h : existsOf r c = true) (hy : y < r.length) (hx : x < c.length) :
    Calls Tryz.prog 20 #[va, vb, .int .i64 y, .int .i64 x, .int .i64 v] w fun e w' => e = .returned (.bool (placeOf r c y x v)) ∧ Below w.heap.size w w' := by
  rw [place_in h hy hx]
  have HBX := hide (((Below.refl w.heap.size w).alloc (Nat.le_refl _) (.cells #[.int .i64 x] 3)).alloc (by simp) (.cells #[.int .i64 v] 3))
  have HX := hide (show ((w.alloc (.cells #[.int .i64 x] 3)).alloc (.cells #[.int .i64 v] 3)).cell? ⟨w.heap.size, 0, none⟩ = some (.int .i64 x) from below_cell ((Below.refl _ _).alloc (Nat.le_refl _) _) (by simp) (by simp [World.cell?_alloc_new]))
  have HV := hide (show ((w.alloc (.cells #[.int .i64 x] 3)).alloc (.cells #[.int .i64 v] 3)).cell? ⟨w.heap.size + 1, 0, none⟩ = some (.int .i64 v) by
    have := World.cell?_alloc_new (w.alloc (.cells #[.int .i64 x] 3)) #[.int .i64 v] 3 0
    simp at this ⊢)
  have HS := hide (show w.heap.size + 1 < ((w.alloc (.cells #[.int .i64 x] 3)).alloc (.cells #[.int .i64 v] 3)).heap.size by simp)
  have HE := hide (implExists_any va vb r c _ (inRow_below ha HBX.out) (inRow_below hb HBX.out))
  rw [h] at HE
  obtain ⟨hr5, hc5, -, -, -⟩ := sumsOk_yes (existsOf_sums h)
  have hmid := mid_img hr5.2 hc5.2 (img_of_exists h)
  have HR := hide fun (w' : World) (hw : Below w.heap.size w w') => rowsAt_any va vb r c y w' (inRow_below ha hw) (inRow_below hb hw) hy hr5.2 hc5.1 hmid
  have HOK : Hid (∀ row ∈ rowsAtL r c y, row.length = c.length) := hide fun row hrow => ((mem_rowsL _ _ _).1 (List.mem_filter.1 hrow).1).1
  obtain ⟨xa, ca, rfl, hma, -⟩ := ha
  obtain ⟨xb, cb, rfl, hmb, -⟩ := hb
  unfold maxLen at hma hmb
  obtain ⟨R, hRR⟩ : ∃ R, R = r.length := ⟨_, rfl⟩
  obtain ⟨C, hCC⟩ : ∃ C, C = c.length := ⟨_, rfl⟩
  rw [← hRR] at hy hma HE HR ⊢
  rw [← hCC] at hx hmb HE HR HOK ⊢
  have hyI : (y : Int) < R := by omega
  have hxI : (x : Int) < C := by omega
  have HXC := hide hx
  clear h hRR hCC hmid hr5 hc5
  go_enter Tryz.func20, Tryz.ntmps20
  go_wp2_with (go_at_call 46; refine HE.out.mono ?_; rintro e w1 ⟨rfl, b1⟩; have B1 := hide (HBX.out.trans (b1.mono HBX.out.size)); have hx1 := below_cell b1 (Nat.lt_of_succ_lt HS.out) HX.out; have HX1 := hide hx1; have HV1 := hide (below_cell b1 HS.out HV.out); have HS1 := hide (Nat.lt_of_lt_of_le HS.out b1.size); clear b1)
  refine (HR.out _ B1.out).mono ?_
  rintro e w2 ⟨u, rfl, hm, hb⟩
  have HM := hide (inMat_matT hm); have HB2 := hide (B1.out.trans (hb.mono B1.out.size))
  have HX2 := hide (below_cell hb (Nat.lt_of_succ_lt HS1.out) HX1.out); have HV2 := hide (below_cell hb HS1.out HV1.out); have HS2 := hide (Nat.lt_of_lt_of_le HS1.out hb.size)
  clear hm hb
  have HCON := hide (containsRows_any u (rowsAtL r c y) 58 #[.pointer (some ⟨w.heap.size, 0, none⟩), .pointer (some ⟨w.heap.size + 1, 0, none⟩)] (fun row => row.length = C) (fun row => row.getD x 0 == v) w2 (enters_of Tryz.func58 (by kernel_rfl) rfl) HM.out HOK.out (fun row u w5 hr hw hu => placePred_any u row x v (w.heap.size) (w.heap.size + 1) w5 (below_cell hw (Nat.lt_of_succ_lt HS2.out) HX2.out) (below_cell hw HS2.out HV2.out) hu (by rw [hr]; exact HXC.out)))
  go_wp2_with (go_at_call 56; refine HCON.out.mono ?_; rintro e w3 ⟨rfl, b3⟩; have B3 := hide (HB2.out.trans (b3.mono HB2.out.size)); clear b3)
  go_ret
  exact ⟨rfl, B3.out⟩
theorem implPlace_any (va vb : Value) (r c : List Int) (y x v : Int) (w : World) (ha : InRow w va r) (hb : InRow w vb c) :
    Calls Tryz.prog 20 #[va, vb, .int .i64 y, .int .i64 x, .int .i64 v] w fun e w' => e = .returned (.bool (placeOf r c y x v)) ∧ Below w.heap.size w w' := by
  cases h : existsOf r c with
  | false => exact implPlace_no va vb r c y x v w ha hb h
  | true =>
    by_cases ho : 0 ≤ y ∧ y < r.length ∧ 0 ≤ x ∧ x < c.length
    · obtain ⟨h1, h2, h3, h4⟩ := ho
      obtain ⟨y', rfl⟩ : ∃ y' : Nat, y = y' := ⟨y.toNat, by omega⟩
      obtain ⟨x', rfl⟩ : ∃ x' : Nat, x = x' := ⟨x.toNat, by omega⟩
      exact implPlace_in va vb r c y' x' v w ha hb h (by omega) (by omega)
    · exact implPlace_out va vb r c y x v w ha hb h ho
end Go.Proofs.YtcliiefedmiokaaGreat
/-
  LeastImage and CanPlace of the model.
-/
namespace Go.Proofs.YtcliiefedmiokaaGreat
open Go.RowKit

theorem place_color {r c : List Int} {y x v : Int} (h : ¬ (0 ≤ v ∧ v ≤ 1)) : placeOf r c y x v = false := by
  unfold placeOf
  by_cases hr : 0 ≤ y ∧ y < r.length ∧ 0 ≤ x ∧ x < c.length
  · have : (rowsAtL r c y.toNat).any (fun row => row.getD x.toNat 0 == v) = false := by
      rw [List.any_eq_false]
      intro row hrow
      have h1 := (mem_rowsL _ _ _).1 (List.mem_filter.1 hrow).1
      have h2 := rowOf_cell h1 (x := x.toNat) (by omega)
      rw [beq_iff_eq]
      intro e
      omega
    rw [this, Bool.and_false]
  · rw [decide_eq_false hr]; simp
/-- What l01In answers here. -/
def inB (n lo hi : Int) : Bool := decide (lo ≤ n ∧ n ≤ hi)
end Go.Proofs.YtcliiefedmiokaaGreat
/-
  AllImages and CountImages of the model.
-/
namespace Go.Proofs.YtcliiefedmiokaaGreat
open Go.RowKit

/-- All images with given sums; none where the sums are refused. -/
def allIm (r c : List Int) : List (List (List Int)) := if existsOf r c = true then allL r c else []
def countIm (r c : List Int) : Int := if sumsOk r c = true then ((allIm r c).length : Int) else -1
theorem allL_none {r c : List Int} (h : sumsOk r c = true) (he : existsOf r c = false) : allL r c = [] := by
  obtain ⟨hr, hc, -⟩ := sumsOk_yes h
  cases r with
  | nil => simp at hr
  | cons a r =>
    rw [allL, List.flatMap_eq_nil_iff]
    intro row hrow
    cases hb : restB r (subL c row) with
    | false => simp
    | true =>
      exfalso
      have h1 := (restB_iff (by simp at hr; omega) (by rw [subL_len]; exact hc)).1 hb
      have h2 := exists_of_img hr hc ((hasImg_cons a r c).2 ⟨row, (mem_rowsL _ _ _).1 hrow, h1⟩)
      rw [he] at h2; cases h2
theorem allIm_sums {r c : List Int} (h : sumsOk r c = true) : allIm r c = allL r c := by
  unfold allIm
  cases he : existsOf r c with
  | true => simp
  | false => simp [allL_none h he]
theorem allIm_refused {r c : List Int} (h : sumsOk r c = false) : allIm r c = [] := by
  unfold allIm
  rw [if_neg]
  intro he
  rw [existsOf_sums he] at h; cases h
theorem allIm_len (r c : List Int) : (allIm r c).length ≤ 100000 := by
  unfold allIm
  split
  · rename_i h
    obtain ⟨hr, hc, -⟩ := sumsOk_yes (existsOf_sums h)
    refine Nat.le_trans (allL_len r c hc.2) ?_
    exact Nat.le_trans (Nat.pow_le_pow_right (by decide) hr.2) (by decide)
  · simp
/-- The call answers a list of lists of lists of its own, and a bool. -/
def ImgsRes2 (ms : List (List (List Int))) (b : Bool) (w : World) (e : Ending) (w' : World) : Prop := ∃ v, e = .returned (.tuple #[v, .bool b]) ∧ OwnImgs w' w.heap.size v ms ∧ Below w.heap.size w w'
theorem ownImgs_nil (w : World) (lo : Nat) : OwnImgs w lo (.slice none 0 0) [] := ⟨[], World.ownsRow_nil _ _ _ _, fun _ h => absurd h (Nat.not_lt_zero _)⟩

end Go.Proofs.YtcliiefedmiokaaGreat
/-
  The heaviest and the nearest image, pure; the model's search for the first of the greatest.
-/
namespace Go.Proofs.YtcliiefedmiokaaGreat
open Go.RowKit Go.Shelf

theorem allL_mk {r c : List Int} (h : existsOf r c = true) {m : List (List Int)} (hm : m ∈ allL r c) : m = mkM r.length c.length (cellM m) ∧ Img r.length c.length (cellM m) ∧ ImgF r c (cellM m) := by
  obtain ⟨hr5, hc5, -⟩ := sumsOk_yes (existsOf_sums h)
  obtain ⟨h1, h2, h3⟩ := all_sound r c hr5.2 hc5 (img_of_exists h) m hm
  refine ⟨?_, ⟨hr5.1, hr5.2, hc5.1, hc5.2, fun y x hy hx => h3.cell y x hy hx⟩, h3⟩
  refine List.ext_getElem (by rw [mkM_len, h1]) fun i hi1 hi2 => ?_
  rw [mkM_at]
  refine List.ext_getElem (by rw [rowF_len, h2 _ (List.getElem_mem hi1)]) fun j hj1 hj2 => ?_
  rw [rowF_at]
  simp [cellM, List.getD_eq_getElem?_getD, hi1, hj1]
theorem allL_ne {r c : List Int} (h : existsOf r c = true) : allL r c ≠ [] := by
  obtain ⟨hr5, hc5, -⟩ := sumsOk_yes (existsOf_sums h)
  obtain ⟨l, hl⟩ := all_first r c hr5.2 hc5 (img_of_exists h)
  rw [hl]; simp
/-- The first of the greatest value, and this value; nothing where the arguments are refused. -/
def pickP (vf : List (List Int) → Int) (r c : List Int) (ok : Bool) : List (List Int) × Int := if ok then (bestF vf (allL r c)).getD ([], 0) else ([], 0)
def heavB (r c : List Int) (k : List (List Int)) : Bool := existsOf r c && wtB k r.length c.length
def heavF (r c : List Int) (k m : List (List Int)) : Int := wtS r.length c.length (cellM k) (cellM m)
def heavP (r c : List Int) (k : List (List Int)) : List (List Int) × Int := pickP (heavF r c k) r c (heavB r c k)
theorem heavF_range {r c : List Int} {k : List (List Int)} (h : existsOf r c = true) (hw : Wt r.length c.length (cellM k)) {m : List (List Int)} (hm : m ∈ allL r c) : -2500 ≤ heavF r c k m ∧ heavF r c k m ≤ 2500 :=
  wt_all hw (allL_mk h hm).2.1 (Nat.le_refl _)
/-- While the model looks for it: the place of the best so far. -/
def PickSt (us : List Value) (L : List (List (List Int))) (vf : List (List Int) → Int) (k : Nat) (v : Value) (n : Int) : Prop :=
  ∃ j m, j < k ∧ bestF vf (L.take k) = some (m, n) ∧ L[j]? = some m ∧ v = us.getD j undef
theorem pick_first {us : List Value} {L : List (List (List Int))} {vf : List (List Int) → Int} (h : 0 < L.length) : PickSt us L vf 1 (us.getD 0 undef) (vf L[0]) := by
  refine ⟨0, L[0], by omega, ?_, List.getElem?_eq_getElem h, rfl⟩
  have : L.take 1 = [] ++ [L[0]] := by
    cases L with
    | nil => simp at h
    | cons a l => rfl
  rw [this, bestF_snoc]; rfl
theorem pick_more {us : List Value} {L : List (List (List Int))} {vf : List (List Int) → Int} {k : Nat} {v : Value} {n : Int} (h : PickSt us L vf k v n) (hk : k < L.length) (hv : n < vf L[k]) : PickSt us L vf (k + 1) (us.getD k undef) (vf L[k]) := by
  obtain ⟨j, m, h1, h2, h3, -⟩ := h
  refine ⟨k, L[k], by omega, ?_, List.getElem?_eq_getElem hk, rfl⟩
  rw [List.take_succ_eq_append_getElem hk, bestF_snoc, h2]
  exact bestS_more hv
theorem pick_less {us : List Value} {L : List (List (List Int))} {vf : List (List Int) → Int} {k : Nat} {v : Value} {n : Int} (h : PickSt us L vf k v n) (hk : k < L.length) (hv : ¬ n < vf L[k]) : PickSt us L vf (k + 1) v n := by
  obtain ⟨j, m, h1, h2, h3, h4⟩ := h
  refine ⟨j, m, by omega, ?_, h3, h4⟩
  rw [List.take_succ_eq_append_getElem hk, bestF_snoc, h2]
  exact bestS_less hv
theorem pick_end {us : List Value} {L : List (List (List Int))} {vf : List (List Int) → Int} {v : Value} {n : Int} (h : PickSt us L vf L.length v n) : ∃ j, ∃ hj : j < L.length, bestF vf L = some (L[j], n) ∧ v = us.getD j undef := by
  obtain ⟨j, m, h1, h2, h3, h4⟩ := h
  rw [List.take_length] at h2
  rw [List.getElem?_eq_getElem h1] at h3
  exact ⟨j, h1, by rw [Option.some.inj h3]; exact h2, h4⟩
end Go.Proofs.YtcliiefedmiokaaGreat
/-
  Images with the sums of one: what the lists of its sums say.
-/
namespace Go.Proofs.YtcliiefedmiokaaGreat
open Go.RowKit

theorem sameB_okI {R C : Nat} {f g : Nat → Nat → Int} (hI : Img R C f) (hJ : Img R C g) (hs : SameF R C f g) : sameB (mkM R C f) (mkM R C g) = true := by
  rw [sameB_mk hI hJ, if_pos ⟨rfl, rfl⟩]
  unfold sameL
  rw [Bool.and_eq_true, beq_iff_eq, beq_iff_eq]
  refine ⟨rowF_congr fun y hy => by rw [hs.1 y hy], rowF_congr fun x hx => ?_⟩
  have := hs.2 x hx
  show ((rs R (trM f) x : Nat) : Int) = rs R (trM g) x
  exact congrArg Int.ofNat this
theorem img_sameI {R C : Nat} {f g : Nat → Nat → Int} (hI : Img R C f) (hg : ImgF (rowsL R C f) (rowsL C R (trM f)) g) : Img R C g ∧ SameF R C g f := by
  obtain ⟨h1, h2, h3⟩ := (imgF_iff hI g).1 hg
  have hJ : Img R C g := ⟨hI.r1, hI.r2, hI.c1, hI.c2, h1⟩
  refine ⟨hJ, fun y hy => ?_, fun x hx => ?_⟩
  · have := h2 y hy
    rw [S_cnt _ _ fun x hx => h1 y x hy hx, S_cnt _ _ fun x hx => hI.cell y x hy hx] at this
    unfold rs; omega
  · have := h3 x hx
    rw [S_cnt _ _ fun y hy => h1 y x hy hx, S_cnt _ _ fun y hy => hI.cell y x hy hx] at this
    unfold cs; omega
theorem imgF_sameI {R C : Nat} {f g : Nat → Nat → Int} (hI : Img R C f) (hJ : Img R C g) (hs : SameF R C f g) : ImgF (rowsL R C f) (rowsL C R (trM f)) g := by
  refine (imgF_iff hI g).2 ⟨hJ.cell, fun y hy => ?_, fun x hx => ?_⟩
  · rw [S_cnt _ _ fun x hx => hJ.cell y x hy hx, S_cnt _ _ fun x hx => hI.cell y x hy hx]
    have := hs.1 y hy
    unfold rs at this; omega
  · rw [S_cnt _ _ fun y hy => hJ.cell y x hy hx, S_cnt _ _ fun y hy => hI.cell y x hy hx]
    have := hs.2 x hx
    unfold cs at this; omega
theorem same_okI (v u : Value) (m l : List (List Int)) (w : World) (hin : InMat w v m) (hin2 : InMat w u l) (h : sameB m l = true) :
    Calls Tryz.prog 17 #[v, u] w fun e w' => e = .returned (.bool true) ∧ Below w.heap.size w w' := by
  have := implSameB_any v u m l w hin hin2
  rw [h] at this; exact this
theorem inMat_sliceI {w : World} {v : Value} {R C : Nat} {f : Nat → Nat → Int} (h : InMat w v (mkM R C f)) : ∃ a c, v = .slice a R c := by
  obtain ⟨a, c, rfl, -⟩ := h
  rw [mkM_len]; exact ⟨a, c, rfl⟩
theorem exists_I {R C : Nat} {f : Nat → Nat → Int} (hI : Img R C f) : existsOf (rowsL R C f) (rowsL C R (trM f)) = true := by
  have h1 := hI.r1; have h2 := hI.r2; have h3 := hI.c1; have h4 := hI.c2
  exact exists_of_img (by rw [rows_len]; omega) (by rw [rows_len]; omega) ⟨f, imgF_self hI⟩
theorem mem_I {R C : Nat} {f g : Nat → Nat → Int} (hI : Img R C f) (hJ : Img R C g) (hs : SameF R C f g) : mkM R C g ∈ allL (rowsL R C f) (rowsL C R (trM f)) := by
  have h := all_complete (rowsL R C f) (rowsL C R (trM f)) (by rw [rows_len]; exact hI.r2) (by rw [rows_len]; exact ⟨hI.c1, hI.c2⟩) g (imgF_sameI hI hJ hs)
  rw [rows_len, rows_len] at h
  exact h
theorem allL_I {R C : Nat} {f : Nat → Nat → Int} (hI : Img R C f) {m : List (List Int)} (hm : m ∈ allL (rowsL R C f) (rowsL C R (trM f))) : m = mkM R C (cellM m) ∧ Img R C (cellM m) ∧ SameF R C (cellM m) f := by
  obtain ⟨h1, -, h3⟩ := allL_mk (exists_I hI) hm
  rw [rows_len, rows_len] at h1
  exact ⟨h1, (img_sameI hI h3).1, (img_sameI hI h3).2⟩
theorem sameF_refl (R C : Nat) (f : Nat → Nat → Int) : SameF R C f f := ⟨fun _ _ => rfl, fun _ _ => rfl⟩
end Go.Proofs.YtcliiefedmiokaaGreat
/-
  Flipping the cells of a simple negative cycle: a heavier image with the same sums. Where an image is the heaviest, the rounds come to an end. Pure.
-/
namespace Go.Proofs.YtcliiefedmiokaaGreat
open Go.RowKit

theorem S_tel (T : Nat → Int) : ∀ n, (Mx.S n fun i => T (i + 1) - T i) = T n - T 0
  | 0 => by simp [Mx.S]
  | n + 1 => by
    show (Mx.S n fun i => T (i + 1) - T i) + (T (n + 1) - T n) = _
    rw [S_tel T n]; omega
def yE (R : Nat) (e : Edge) : Nat := if e.s < R then e.s else e.t
def xE (R : Nat) (e : Edge) : Nat := if e.s < R then e.t - R else e.s - R
theorem edge_parts {R C : Nat} {g f : Nat → Nat → Int} (hI : Img R C f) {e : Edge} (he : e ∈ allE R C g f R) :
    yE R e < R ∧ xE R e < C ∧ e = edgeAt R g f (yE R e) (xE R e) ∧ ((f (yE R e) (xE R e) = 1 ∧ e.s = yE R e ∧ e.t = R + xE R e ∧ e.l = g (yE R e) (xE R e)) ∨ (f (yE R e) (xE R e) = 0 ∧ e.s = R + xE R e ∧ e.t = yE R e ∧ e.l = -(g (yE R e) (xE R e)))) := by
  obtain ⟨y, x, hy, hx, rfl⟩ := mem_allE.1 he
  rcases hI.cell y x hy hx with h | h
  · have e1 : edgeAt R g f y x = ⟨R + x, y, -(g y x)⟩ := by unfold edgeAt; rw [h, if_neg (by decide)]
    have hY : yE R (edgeAt R g f y x) = y := by rw [e1]; exact if_neg (by show ¬ R + x < R; omega)
    have hX : xE R (edgeAt R g f y x) = x := by rw [e1]; unfold xE; rw [if_neg (by show ¬ R + x < R; omega)]; exact Nat.add_sub_cancel_left ..
    rw [hY, hX]
    exact ⟨hy, hx, rfl, .inr ⟨h, by rw [e1], by rw [e1], by rw [e1]⟩⟩
  · have e1 : edgeAt R g f y x = ⟨y, R + x, g y x⟩ := by unfold edgeAt; rw [if_pos h]
    have hY : yE R (edgeAt R g f y x) = y := by rw [e1]; exact if_pos hy
    have hX : xE R (edgeAt R g f y x) = x := by rw [e1]; unfold xE; rw [if_pos (show y < R from hy)]; exact Nat.add_sub_cancel_left ..
    rw [hY, hX]
    exact ⟨hy, hx, rfl, .inl ⟨h, by rw [e1], by rw [e1], by rw [e1]⟩⟩
/-- What a step turns in a cell. -/
def turnE (R : Nat) (f : Nat → Nat → Int) (e : Edge) (y x : Nat) : Int := if yE R e = y ∧ xE R e = x then 1 - 2 * f y x else 0
theorem turn_row {R C : Nat} {f : Nat → Nat → Int} {e : Edge} (hx : xE R e < C) (y : Nat) : (Mx.S C fun x => turnE R f e y x) = if yE R e = y then 1 - 2 * f (yE R e) (xE R e) else 0 := by
  by_cases h : yE R e = y
  · rw [if_pos h, Mx.S_one (k := xE R e) C hx fun i _ hne => by unfold turnE; rw [if_neg (fun h2 => hne h2.2.symm)]]
    unfold turnE
    rw [if_pos ⟨h, rfl⟩, h]
  · rw [if_neg h, Mx.S_congr (g := fun _ => 0) C fun i _ => by unfold turnE; rw [if_neg (fun h2 => h h2.1)], Mx.S_zero]
theorem turn_col {R : Nat} {f : Nat → Nat → Int} {e : Edge} (hy : yE R e < R) (x : Nat) : (Mx.S R fun y => turnE R f e y x) = if xE R e = x then 1 - 2 * f (yE R e) (xE R e) else 0 := by
  by_cases h : xE R e = x
  · rw [if_pos h, Mx.S_one (k := yE R e) R hy fun i _ hne => by unfold turnE; rw [if_neg (fun h2 => hne h2.1.symm)]]
    unfold turnE
    rw [if_pos ⟨rfl, h⟩, h]
  · rw [if_neg h, Mx.S_congr (g := fun _ => 0) R fun i _ => by unfold turnE; rw [if_neg (fun h2 => h h2.2)], Mx.S_zero]
theorem turn_all {R C : Nat} {f g : Nat → Nat → Int} {e : Edge} (hy : yE R e < R) (hx : xE R e < C) : (Mx.S R fun y => Mx.S C fun x => turnE R f e y x * g y x) = (1 - 2 * f (yE R e) (xE R e)) * g (yE R e) (xE R e) := by
  rw [Mx.S_one (k := yE R e) R hy fun i _ hne => by
    rw [Mx.S_congr (g := fun _ => 0) C fun j _ => by unfold turnE; rw [if_neg (fun h2 => hne h2.1.symm), Int.zero_mul], Mx.S_zero]]
  rw [Mx.S_one (k := xE R e) C hx fun i _ hne => by unfold turnE; rw [if_neg (fun h2 => hne h2.2.symm), Int.zero_mul]]
  unfold turnE
  rw [if_pos ⟨rfl, rfl⟩]
theorem flip_cycle {R C : Nat} {g f : Nat → Nat → Int} (hI : Img R C f) {l : Nat} {u : Nat → Nat} {c : Nat → Edge} (hw : Walk (allE R C g f R) l u c) (hcl : u l = u 0) (hinj : ∀ a b, a < l → b < l → u a = u b → a = b) (hneg : lenW l c < 0) :
    ∃ h, ImgF (rowsL R C f) (rowsL C R (trM f)) h ∧ wtS R C g f < wtS R C g h := by
  have hp := fun i (hi : i < l) => edge_parts hI (hw i hi).1
  refine ⟨fun y x => f y x + Mx.S l fun i => turnE R f (c i) y x, (imgF_iff hI _).2 ⟨fun y x hy hx => ?_, fun y hy => ?_, fun x hx => ?_⟩, ?_⟩
  · -- each cell is turned once at most
    by_cases hex : ∃ i, i < l ∧ yE R (c i) = y ∧ xE R (c i) = x
    · obtain ⟨i, hi, h1, h2⟩ := hex
      have : (Mx.S l fun i => turnE R f (c i) y x) = 1 - 2 * f y x := by
        rw [Mx.S_one (k := i) l hi fun j hj hne => by
          unfold turnE
          rw [if_neg]
          rintro ⟨g1, g2⟩
          have e1 : c j = c i := by rw [(hp j hj).2.2.1, (hp i hi).2.2.1, g1, g2, h1, h2]
          have e2 : u j = u i := by rw [← (hw j hj).2.1, ← (hw i hi).2.1, e1]
          exact hne (hinj j i hj hi e2)]
        unfold turnE
        rw [if_pos ⟨h1, h2⟩]
      show f y x + _ = 0 ∨ f y x + _ = 1
      rw [this]
      rcases hI.cell y x hy hx with h | h <;> rw [h] <;> simp
    · have : (Mx.S l fun i => turnE R f (c i) y x) = 0 := by
        rw [Mx.S_congr (g := fun _ => 0) l fun i hi => by unfold turnE; rw [if_neg (fun h => hex ⟨i, hi, h⟩)], Mx.S_zero]
      show f y x + _ = 0 ∨ f y x + _ = 1
      rw [this, Int.add_zero]
      exact hI.cell y x hy hx
  · show (Mx.S C fun x => f y x + Mx.S l fun i => turnE R f (c i) y x) = Mx.S C (f y)
    rw [Mx.S_add (f y) (fun x => Mx.S l fun i => turnE R f (c i) y x) C, Mx.S_swap (fun x i => turnE R f (c i) y x) l C]
    have : (Mx.S l fun i => Mx.S C fun x => turnE R f (c i) y x) = Mx.S l fun i => (if u (i + 1) = y then 1 else 0) - (if u i = y then (1 : Int) else 0) := Mx.S_congr l fun i hi => by
      obtain ⟨p1, p2, -, p4⟩ := hp i hi
      obtain ⟨-, w2, w3⟩ := hw i hi
      rw [turn_row p2]
      rcases p4 with ⟨q1, q2, q3, -⟩ | ⟨q1, q2, q3, -⟩
      · rw [q1, ← w2, ← w3, q2, q3, if_neg (show ¬ R + xE R (c i) = y by omega)]
        by_cases e : yE R (c i) = y
        · rw [if_pos e, if_pos e]; rfl
        · rw [if_neg e, if_neg e]; rfl
      · rw [q1, ← w2, ← w3, q2, q3, if_neg (show ¬ R + xE R (c i) = y by omega)]
        by_cases e : yE R (c i) = y
        · rw [if_pos e, if_pos e]; rfl
        · rw [if_neg e, if_neg e]; rfl
    rw [this, S_tel (fun j => if u j = y then 1 else 0) l, hcl]
    omega
  · show (Mx.S R fun y => f y x + Mx.S l fun i => turnE R f (c i) y x) = Mx.S R fun y => f y x
    rw [Mx.S_add (fun y => f y x) (fun y => Mx.S l fun i => turnE R f (c i) y x) R, Mx.S_swap (fun y i => turnE R f (c i) y x) l R]
    have : (Mx.S l fun i => Mx.S R fun y => turnE R f (c i) y x) = Mx.S l fun i => (if u (i + 1) = R + x then -1 else 0) - (if u i = R + x then (-1 : Int) else 0) := Mx.S_congr l fun i hi => by
      obtain ⟨p1, p2, -, p4⟩ := hp i hi
      obtain ⟨-, w2, w3⟩ := hw i hi
      rw [turn_col p1]
      rcases p4 with ⟨q1, q2, q3, -⟩ | ⟨q1, q2, q3, -⟩
      · rw [q1, ← w2, ← w3, q2, q3, if_neg (show ¬ yE R (c i) = R + x by omega)]
        by_cases e : xE R (c i) = x
        · rw [if_pos e, if_pos (by omega)]; rfl
        · rw [if_neg e, if_neg (by omega)]; rfl
      · rw [q1, ← w2, ← w3, q2, q3, if_neg (show ¬ yE R (c i) = R + x by omega)]
        by_cases e : xE R (c i) = x
        · rw [if_pos e, if_pos (by omega)]; rfl
        · rw [if_neg e, if_neg (by omega)]; rfl
    rw [this, S_tel (fun j => if u j = R + x then -1 else 0) l, hcl]
    omega
  · have e1 : wtS R C g (fun y x => f y x + Mx.S l fun i => turnE R f (c i) y x) = wtS R C g f + Mx.S l fun i => Mx.S R fun y => Mx.S C fun x => turnE R f (c i) y x * g y x := by
      unfold wtS
      have a1 : (Mx.S R fun y => Mx.S C fun x => (f y x + Mx.S l fun i => turnE R f (c i) y x) * g y x) = Mx.S R fun y => (Mx.S C fun x => f y x * g y x) + Mx.S l fun i => Mx.S C fun x => turnE R f (c i) y x * g y x := Mx.S_congr R fun y _ => by
        rw [← Mx.S_swap (fun x i => turnE R f (c i) y x * g y x) l C, ← Mx.S_add]
        refine Mx.S_congr C fun x _ => ?_
        rw [Int.add_mul, S_mulR]
      rw [a1, Mx.S_add, Mx.S_swap (fun y i => Mx.S C fun x => turnE R f (c i) y x * g y x) l R]
    have e2 : (Mx.S l fun i => Mx.S R fun y => Mx.S C fun x => turnE R f (c i) y x * g y x) = Mx.S l fun i => 0 - (c i).l := Mx.S_congr l fun i hi => by
      obtain ⟨p1, p2, -, p4⟩ := hp i hi
      rw [turn_all p1 p2]
      rcases p4 with ⟨q1, -, -, q4⟩ | ⟨q1, -, -, q4⟩
      · rw [q1, q4]; omega
      · rw [q1, q4]; omega
    have e3 : (Mx.S l fun i => 0 - (c i).l) = 0 - lenW l c := by rw [Mx.S_sub (fun _ => 0) (fun i => (c i).l) l, Mx.S_zero]; rfl
    rw [e1, e2, e3]
    omega
where
  S_mulR {n : Nat} {F : Nat → Int} {v : Int} : Mx.S n F * v = Mx.S n fun i => F i * v := by
    induction n with
    | zero => simp [Mx.S]
    | succ n ih => show (Mx.S n F + F n) * v = (Mx.S n fun i => F i * v) + F n * v; rw [Int.add_mul, ih]
/-- The heaviest image of its sums: the rounds come to an end. -/
theorem heavy_ends {R C : Nat} {g f : Nat → Nat → Int} (hI : Img R C f) (hW : Wt R C g) (hmax : ∀ h, ImgF (rowsL R C f) (rowsL C R (trM f)) h → wtS R C g h ≤ wtS R C g f) : ∃ D, bell (allE R C g f R) (R + C) (fun _ => 0) = some D := by
  have hR := hI.r1
  refine bell_noNeg (by omega) (fun e he => (allE_in hW e he).1) (fun e he => (allE_in hW e he).2) fun l u c hw hcl hinj => ?_
  by_cases hneg : lenW l c < 0
  · obtain ⟨h, h1, h2⟩ := flip_cycle hI hw hcl hinj hneg
    have := hmax h h1
    omega
  · omega
end Go.Proofs.YtcliiefedmiokaaGreat
/-
  PricesOk, of the program and of the model.
-/
namespace Go.Proofs.YtcliiefedmiokaaGreat
open Go.RowKit Go.Shelf

/-- A cell whose rest of the weight fits its colour. -/
def prC (c d : Int) : Bool := !((c == 1 && decide (d < 0)) || (c == 0 && decide (d > 0)))
def prB (R C : Nat) (g f : Nat → Nat → Int) (a b : Nat → Int) : Bool := (List.range R).all fun y => (List.range C).all fun x => prC (f y x) (g y x - a y - b x)
def prOkB (k m : List (List Int)) (a b : List Int) : Bool :=
  wtOfB k m && (a.length == m.length) && (b.length == widthM m) && within a 1000 && within b 1000 && prB m.length (widthM m) (cellM k) (cellM m) (fun y => a.getD y 0) (fun x => b.getD x 0)
theorem prB_no {R C : Nat} {g f : Nat → Nat → Int} {a b : Nat → Int} {y x : Nat} (hy : y < R) (hx : x < C) (h : prC (f y x) (g y x - a y - b x) = false) : prB R C g f a b = false := by
  unfold prB
  rw [List.all_eq_false]
  refine ⟨y, List.mem_range.2 hy, ?_⟩
  rw [Bool.not_eq_true, List.all_eq_false]
  exact ⟨x, List.mem_range.2 hx, by rw [h]; simp⟩
theorem prB_yes {R C : Nat} {g f : Nat → Nat → Int} {a b : Nat → Int} (h : ∀ y x, y < R → x < C → prC (f y x) (g y x - a y - b x) = true) : prB R C g f a b = true := by
  unfold prB
  rw [List.all_eq_true]
  intro y hy
  rw [List.all_eq_true]
  intro x hx
  exact h y x (List.mem_range.1 hy) (List.mem_range.1 hx)
theorem prB_congr {R C : Nat} {g g' f f' : Nat → Nat → Int} {a b : Nat → Int} (hg : ∀ y x, y < R → x < C → g y x = g' y x) (hf : ∀ y x, y < R → x < C → f y x = f' y x) : prB R C g f a b = prB R C g' f' a b := by
  cases h : prB R C g' f' a b with
  | true =>
    refine prB_yes fun y x hy hx => ?_
    rw [hg y x hy hx, hf y x hy hx]
    unfold prB at h
    rw [List.all_eq_true] at h
    have := h y (List.mem_range.2 hy)
    rw [List.all_eq_true] at this
    exact this x (List.mem_range.2 hx)
  | false =>
    unfold prB at h
    rw [List.all_eq_false] at h
    obtain ⟨y, hy, h⟩ := h
    rw [Bool.not_eq_true, List.all_eq_false] at h
    obtain ⟨x, hx, h⟩ := h
    rw [List.mem_range] at hy hx
    refine prB_no hy hx ?_
    rw [hg y x hy hx, hf y x hy hx]
    simpa using h
theorem within_at {r : List Int} {most : Int} (h : within r most = true) {i : Nat} (hi : i < r.length) : -most ≤ r.getD i 0 ∧ r.getD i 0 ≤ most := by
  unfold within at h
  have := List.all_eq_true.1 h _ (List.getElem_mem hi)
  rw [List.getD_eq_getElem?_getD, List.getElem?_eq_getElem hi, Option.getD_some]
  simpa using this
theorem getD_at {r : List Int} {i : Nat} (hi : i < r.length) : r[i] = r.getD i 0 := by
  rw [List.getD_eq_getElem?_getD, List.getElem?_eq_getElem hi, Option.getD_some]
set_option maxRecDepth 100000 in
set_option maxHeartbeats 2000000 in
theorem implPricesOk_any (vk vm va vb : Value) (k m : List (List Int)) (a b : List Int) (w : World) (hk : InMat w vk k) (hm : InMat w vm m) (ha : InRow w va a) (hb : InRow w vb b) :
    Calls Tryz.prog 32 #[vk, vm, va, vb] w fun e w' => e = .returned (.bool (prOkB k m a b)) ∧ Below w.heap.size w w' := by
  have HWO := hide (implWeightOf_any vk vm k m w hk hm)
  cases h : wtOfB k m with
  | false =>
    rw [h] at HWO
    have HF : Hid (prOkB k m a b = false) := hide (by simp only [prOkB, h, Bool.false_and])
    rw [HF.out]
    obtain ⟨x, hx⟩ : ∃ x, x = wtOf k m := ⟨_, rfl⟩
    rw [← hx] at HWO
    obtain ⟨ak, ck, rfl, -, -⟩ := hk
    obtain ⟨am, cm, rfl, -, -⟩ := hm
    obtain ⟨aa, ca, rfl, -, -⟩ := ha
    obtain ⟨ab, cb, rfl, -, -⟩ := hb
    generalize k.length = n1 at *
    generalize m.length = n2 at *
    generalize a.length = n3 at *
    generalize b.length = n4 at *
    clear hx h HF
    go_enter Tryz.func32, Tryz.ntmps32
    go_wp2_with (go_at_call 29; refine HWO.out.mono ?_; rintro e w1 ⟨rfl, b1⟩; have B1 := hide b1; clear b1)
    go_ret
    exact ⟨rfl, B1.out⟩
  | true =>
    rw [h] at HWO
    have hok : okB m = true := by unfold wtOfB at h; rw [Bool.and_eq_true] at h; exact h.1
    obtain ⟨R, C, f, rfl, hI⟩ := ok_img hok
    have hR1 := hI.r1; have hC1 := hI.c1; have hR := hI.r2; have hC := hI.c2
    have hsz : sizeB k R C (-100) 100 = true := by
      unfold wtOfB at h
      rw [Bool.and_eq_true, mkM_len, width_mkM hR1] at h
      exact wtB_nat h.2
    obtain ⟨hkm, hWt⟩ := sizeB_wt hsz
    have HP : Hid (prOkB k (mkM R C f) a b = ((a.length == R) && (b.length == C) && within a 1000 && within b 1000 && prB R C (cellM k) f (fun y => a.getD y 0) (fun x => b.getD x 0))) := hide (by
      rw [prOkB, h, Bool.true_and, mkM_len, width_mkM hR1, prB_congr (fun _ _ _ _ => rfl) fun y x hy hx => cell_mk R C f hy hx])
    rw [HP.out]
    obtain ⟨x, hx⟩ : ∃ x, x = wtOf k (mkM R C f) := ⟨_, rfl⟩
    rw [← hx] at HWO
    have hk2 := hk
    rw [hkm] at hk2
    obtain ⟨g, hg⟩ : ∃ g, g = cellM k := ⟨_, rfl⟩
    rw [← hg] at hk2 hWt ⊢
    obtain ⟨ga, oa, ca, hvk, hga, hca⟩ := inMat_img hk2 (by omega) (by omega)
    obtain ⟨gb, ob, cb, hvm, hgb, hcb⟩ := inMat_img hm (by omega) (by omega)
    subst hvk hvm
    obtain ⟨g0, o0, c0, hx0, hg0, -⟩ := hcb 0 (by omega)
    rw [Nat.add_zero] at hx0
    have HK := hide hca; have HM := hide hcb; have HI := hide hI; have HW := hide hWt
    have HX0 := hide hx0
    obtain ⟨aa, cca, rfl, hma, hpa⟩ := ha
    obtain ⟨ab, ccb, rfl, hmb, hpb⟩ := hb
    unfold maxLen at hma hmb
    have HNA := hide fun w1 (b1 : Below w.heap.size w w1) => numbersWithin_any (.slice aa a.length cca) a 1000 w1 (by omega) (inRow_below ⟨aa, cca, rfl, by unfold maxLen; exact hma, hpa⟩ b1)
    have HNB := hide fun w1 (b1 : Below w.heap.size w w1) => numbersWithin_any (.slice ab b.length ccb) b 1000 w1 (by omega) (inRow_below ⟨ab, ccb, rfl, by unfold maxLen; exact hmb, hpb⟩ b1)
    obtain ⟨la, hla⟩ : ∃ la, la = a.length := ⟨_, rfl⟩
    obtain ⟨lb, hlb⟩ : ∃ lb, lb = b.length := ⟨_, rfl⟩
    by_cases h1 : a.length = R
    · rw [show (a.length == R) = true from beq_iff_eq.2 h1, Bool.true_and]
      by_cases h2 : b.length = C
      · rw [show (b.length == C) = true from beq_iff_eq.2 h2, Bool.true_and]
        cases h3 : within a 1000 with
        | false =>
          rw [h3] at HNA
          rw [Bool.false_and, Bool.false_and]
          rw [h1] at HNA hma ⊢
          rw [h2] at HNB hmb ⊢
          clear hx hg h HP hk2 hkm hWt hI hm hk hca hcb hok hsz hx0
          go_enter Tryz.func32, Tryz.ntmps32
          go_wp2_with (first | (go_at_call 29; refine HWO.out.mono ?_; rintro e w1 ⟨rfl, b1⟩; have B1 := hide b1; have hx0 := below_cell b1 hgb HX0.out; clear b1) | (go_at_call 74; refine (HNA.out _ B1.out).mono ?_; rintro e w2 ⟨rfl, b2⟩; have B2 := hide b2; clear b2))
          go_ret
          exact ⟨rfl, B1.out.trans (B2.out.mono B1.out.size)⟩
        | true =>
          rw [h3] at HNA
          rw [Bool.true_and]
          cases h4 : within b 1000 with
          | false =>
            rw [h4] at HNB
            rw [Bool.false_and]
            rw [h1] at HNA hma ⊢
            rw [h2] at HNB hmb ⊢
            clear hx hg h HP hk2 hkm hWt hI hm hk hca hcb hok hsz hx0
            go_enter Tryz.func32, Tryz.ntmps32
            go_wp2_with (first | (go_at_call 29; refine HWO.out.mono ?_; rintro e w1 ⟨rfl, b1⟩; have B1 := hide b1; have hx0 := below_cell b1 hgb HX0.out; clear b1) | (go_at_call 74; refine (HNA.out _ B1.out).mono ?_; rintro e w2 ⟨rfl, b2⟩; have B2 := hide b2; clear b2) | (go_at_call 74; refine (HNB.out _ (B1.out.trans (B2.out.mono B1.out.size))).mono ?_; rintro e w3 ⟨rfl, b3⟩; have B3 := hide b3; clear b3))
            go_ret
            exact ⟨rfl, (B1.out.trans (B2.out.mono B1.out.size)).trans (B3.out.mono (B1.out.trans (B2.out.mono B1.out.size)).size)⟩
          | true =>
            rw [h4] at HNB
            rw [Bool.true_and]
            obtain ⟨gp, op, rfl, hgp, hcp⟩ := hpa.resolve_left (by omega)
            obtain ⟨gq, oq, rfl, hgq, hcq⟩ := hpb.resolve_left (by omega)
            have HPA : Hid (∀ y, y < R → w.cell? ⟨gp, op + y, none⟩ = some (.int .i64 (a.getD y 0))) := hide fun y hy => by
              rw [hcp y (by omega), getD_at]
            have HPB : Hid (∀ y, y < C → w.cell? ⟨gq, oq + y, none⟩ = some (.int .i64 (b.getD y 0))) := hide fun y hy => by
              rw [hcq y (by omega), getD_at]
            have HBA : Hid (∀ y, y < R → -1000 ≤ a.getD y 0 ∧ a.getD y 0 ≤ 1000) := hide fun y hy => within_at h3 (by omega)
            have HBB2 : Hid (∀ y, y < C → -1000 ≤ b.getD y 0 ∧ b.getD y 0 ≤ 1000) := hide fun y hy => within_at h4 (by omega)
            rw [h1] at HNA hma ⊢
            rw [h2] at HNB hmb ⊢
            obtain ⟨A, hA⟩ : ∃ A : Nat → Int, A = fun y => a.getD y 0 := ⟨_, rfl⟩
            obtain ⟨B, hB⟩ : ∃ B : Nat → Int, B = fun y => b.getD y 0 := ⟨_, rfl⟩
            replace HPA : Hid (∀ y, y < R → w.cell? ⟨gp, op + y, none⟩ = some (.int .i64 (A y))) := hide fun y hy => by rw [hA]; exact HPA.out y hy
            replace HPB : Hid (∀ y, y < C → w.cell? ⟨gq, oq + y, none⟩ = some (.int .i64 (B y))) := hide fun y hy => by rw [hB]; exact HPB.out y hy
            replace HBA : Hid (∀ y, y < R → -1000 ≤ A y ∧ A y ≤ 1000) := hide fun y hy => by rw [hA]; exact HBA.out y hy
            replace HBB2 : Hid (∀ y, y < C → -1000 ≤ B y ∧ B y ≤ 1000) := hide fun y hy => by rw [hB]; exact HBB2.out y hy
            rw [← hA, ← hB]
            clear h1 h2 h3 h4 hA hB hpa hpb hcp hcq hla hlb
            clear hx hg h HP hk2 hkm hWt hI hm hk hca hcb hok hsz hx0
            go_enter Tryz.func32, Tryz.ntmps32
            go_wp2_with (first | (go_at_call 29; refine HWO.out.mono ?_; rintro e w1 ⟨rfl, b1⟩; have B1 := hide b1; have hx0 := below_cell b1 hgb HX0.out; clear b1) | (go_at_call 74; refine (HNA.out _ B1.out).mono ?_; rintro e w2 ⟨rfl, b2⟩; have B2 := hide b2; clear b2) | (go_at_call 74; refine (HNB.out _ (B1.out.trans (B2.out.mono B1.out.size))).mono ?_; rintro e w3 ⟨rfl, b3⟩; have B3 := hide b3; clear b3))
            have HB0 : Hid (Below w.heap.size w w3) := hide ((B1.out.trans (B2.out.mono B1.out.size)).trans (B3.out.mono (B1.out.trans (B2.out.mono B1.out.size)).size))
            clear hx0
            go_loopw [52] (fun i w' => ∃ y : Nat, y ≤ R ∧ i = .int .i64 y ∧ (∀ t x, t < y → x < C → prC (f t x) (g t x - A t - B x) = true) ∧ Below w.heap.size w w') (fun i _ => R - (intOf i).toNat)
            case atStart => exact ⟨0, by omega, rfl, fun t x h => absurd h (Nat.not_lt_zero _), HB0.out⟩
            case round =>
              clear HB0
              obtain ⟨y, hy, rfl, hall, hb⟩ := hrel
              have HBB := hide hb; have HALL := hide hall
              clear hb hall
              by_cases hlt : y < R
              · have hyI : (y : Int) < R := by omega
                obtain ⟨g', o', c', hx, hg', hcc⟩ := HM.out y hlt
                have hx := below_cell HBB.out hgb hx
                have HCC := hide hcc
                clear hcc
                obtain ⟨wo, rfl⟩ : ∃ wo : World, wo = wr := ⟨_, rfl⟩
                go_wp2
                go_loopw [59] (fun i w' => ∃ x : Nat, x ≤ C ∧ i = .int .i64 x ∧ (∀ t, t < x → prC (f y t) (g y t - A y - B t) = true) ∧ Below w.heap.size w w') (fun i _ => C - (intOf i).toNat)
                case atStart => exact ⟨0, by omega, rfl, fun t h => absurd h (Nat.not_lt_zero _), HBB.out⟩
                case round =>
                  clear HBB hx
                  obtain ⟨x, hxx, rfl, hall, hb⟩ := hrel
                  have HBB := hide hb; have HIN := hide hall
                  clear hb hall
                  by_cases hlx : x < C
                  · have hxI : (x : Int) < C := by omega
                    have hz := below_cell HBB.out hg' (HCC.out x hlx)
                    obtain ⟨g2, o2, c2, hx2, hg2, hc2⟩ := HK.out y hlt
                    have hx2 := below_cell HBB.out hga hx2
                    have hz2 := below_cell HBB.out hg2 (hc2 x hlx)
                    have hza := below_cell HBB.out hgp (HPA.out y hlt)
                    have hzb := below_cell HBB.out hgq (HPB.out x hlx)
                    have b1 := HW.out.lo y x hlt hlx
                    have b2 := HW.out.hi y x hlt hlx
                    obtain ⟨b3, b4⟩ := HBA.out y hlt
                    obtain ⟨b5, b6⟩ := HBB2.out x hlx
                    have h01 := HI.out.cell y x hlt hlx
                    have HNO := hide (fun h => prB_no (g := g) (f := f) (a := A) (b := B) hlt hlx h)
                    obtain ⟨Z, hZ⟩ : ∃ Z : Prop, Z = ∀ t, t < x + 1 → prC (f y t) (g y t - A y - B t) = true := ⟨_, rfl⟩
                    have HZZ := hide hZ
                    have HST := hide (show prC (f y x) (g y x - A y - B x) = true → Z from fun h => by
                      rw [hZ]
                      intro t ht
                      by_cases e : t = x
                      · subst e; exact h
                      · exact HIN.out t (by omega))
                    clear hZ
                    clear hc2
                    obtain ⟨s, hs⟩ : ∃ s, s = f y x := ⟨_, rfl⟩
                    obtain ⟨t, ht⟩ : ∃ t, t = g y x := ⟨_, rfl⟩
                    obtain ⟨p, hp⟩ : ∃ p, p = A y := ⟨_, rfl⟩
                    obtain ⟨q, hq⟩ : ∃ q, q = B x := ⟨_, rfl⟩
                    rw [← hs, ← ht, ← hp, ← hq] at HNO HST
                    rw [← hs] at hz h01
                    rw [← ht] at hz2 b1 b2
                    rw [← hp] at hza b3 b4
                    rw [← hq] at hzb b5 b6
                    clear hs ht hp hq
                    rcases h01 with rfl | rfl
                    · by_cases hd : t - p - q > 0
                      · have HF := hide (HNO.out (by unfold prC; rw [decide_eq_true hd]; rfl))
                        clear HNO HST
                        go_wp2
                        go_quiet (fail)
                        go_wp2
                        go_ret
                        exact ⟨ret_bool HF.out.symm, below_draws HBB.out _⟩
                      · have HS2 := hide (HST.out (by unfold prC; rw [decide_eq_false hd]; rfl))
                        clear HNO HST
                        go_wp2
                        go_quiet (fail)
                        go_wp2
                        go_roundw
                        case rel => exact ⟨x + 1, by omega, by go_num, HZZ.out.mp HS2.out, below_draws HBB.out _⟩
                        case measure => simp [intOf]; omega
                    · by_cases hd : t - p - q < 0
                      · have HF := hide (HNO.out (by unfold prC; rw [decide_eq_true hd]; rfl))
                        clear HNO HST
                        go_wp2
                        go_quiet (fail)
                        go_wp2
                        go_ret
                        exact ⟨ret_bool HF.out.symm, below_draws HBB.out _⟩
                      · have HS2 := hide (HST.out (by unfold prC; rw [decide_eq_false hd]; rfl))
                        clear HNO HST
                        go_wp2
                        go_quiet (fail)
                        go_wp2
                        go_roundw
                        case rel => exact ⟨x + 1, by omega, by go_num, HZZ.out.mp HS2.out, below_draws HBB.out _⟩
                        case measure => simp [intOf]; omega
                  · obtain rfl : x = C := by omega
                    have HST := hide (show ∀ t z, t < y + 1 → z < x → prC (f t z) (g t z - A t - B z) = true from fun t z h1 h2 => by
                      by_cases e : t = y
                      · subst e; exact HIN.out z h2
                      · exact HALL.out t z (by omega) h2)
                    go_wp2
                    go_roundw
                    case rel => exact ⟨y + 1, by omega, by go_num, HST.out, HBB.out⟩
                    case measure => simp [intOf]; omega
              · obtain rfl : y = R := by omega
                have HF := hide (prB_yes (g := g) (f := f) (a := A) (b := B) fun t x h1 h2 => HALL.out t x h1 h2)
                go_wp2
                go_ret
                exact ⟨ret_bool HF.out.symm, HBB.out⟩
      · have hne : ((b.length : Int) != (C : Int)) = true := by simp; omega
        rw [show (b.length == C) = false from beq_eq_false_iff_ne.2 h2, Bool.false_and, Bool.false_and, Bool.false_and]
        rw [h1] at HNA hma ⊢
        rw [← hlb] at HNB hmb hne ⊢
        clear h2 hlb
        clear hx hg h HP hk2 hkm hWt hI hm hk hca hcb hok hsz hx0
        go_enter Tryz.func32, Tryz.ntmps32
        go_wp2_with (first | (go_at_call 29; refine HWO.out.mono ?_; rintro e w1 ⟨rfl, b1⟩; have B1 := hide b1; have hx0 := below_cell b1 hgb HX0.out; clear b1))
        go_ret
        exact ⟨rfl, B1.out⟩
    · have hne : ((a.length : Int) != (R : Int)) = true := by simp; omega
      rw [show (a.length == R) = false from beq_eq_false_iff_ne.2 h1, Bool.false_and, Bool.false_and, Bool.false_and, Bool.false_and]
      rw [← hla] at HNA hma hne ⊢
      rw [← hlb] at HNB hmb ⊢
      clear h1 hla hlb
      clear hx hg h HP hk2 hkm hWt hI hm hk hca hcb hok hsz hx0
      go_enter Tryz.func32, Tryz.ntmps32
      go_wp2_with (first | (go_at_call 29; refine HWO.out.mono ?_; rintro e w1 ⟨rfl, b1⟩; have B1 := hide b1; have hx0 := below_cell b1 hgb HX0.out; clear b1))
      go_ret
      exact ⟨rfl, B1.out⟩

end Go.Proofs.YtcliiefedmiokaaGreat
/-
  Prices prove the heaviest image, and no other: pure.
-/
namespace Go.Proofs.YtcliiefedmiokaaGreat
open Go.RowKit

theorem tree_low {n : Nat} {E : List Edge} {D : Nat → Int} {r : Nat → Nat} (h : TreeD n E D r) (hin : ∀ e ∈ E, e.s < n ∧ -100 ≤ e.l) : ∀ (m v : Nat), r v ≤ m → v < n → -(100 * (cnt (fun u => decide (r u < r v)) n : Int)) ≤ D v := by
  intro m
  induction m with
  | zero =>
    intro v hv _
    rcases h.tree v with g | ⟨e, -, -, -, g⟩
    · omega
    · omega
  | succ m ih =>
    intro v hv hn
    rcases h.tree v with g | ⟨e, he, -, g2, g3⟩
    · omega
    · have h1 := ih e.s (by omega) (hin e he).1
      have h2 := (hin e he).2
      have h3 := cnt_lt (p := fun u => decide (r u < r e.s)) (q := fun u => decide (r u < r v)) n (fun i _ hp => by
        have := of_decide_eq_true hp
        exact decide_eq_true (by omega)) ⟨e.s, (hin e he).1, decide_eq_false (Nat.lt_irrefl _), decide_eq_true g3⟩
      omega
theorem bell_low {R C : Nat} {g f : Nat → Nat → Int} {D : Nat → Int} (hR : R ≤ 5) (hC : C ≤ 5) (hW : Wt R C g) (h : bell (allE R C g f R) (R + C) (fun _ => 0) = some D) : (∀ v, D v ≤ 0) ∧ (∀ v, v < R + C → -1000 ≤ D v) ∧ ∀ e ∈ allE R C g f R, D e.t ≤ D e.s + e.l := by
  obtain ⟨m, r, ht⟩ := bell_tree (fun e he => (allE_in hW e he).2) _ _ _ _ (runD_start _) D h
  refine ⟨ht.zero, fun v hv => ?_, ht.fit⟩
  have h1 := tree_low (n := R + C) ⟨ht.zero, ht.fit, ht.tree⟩ (fun e he => ⟨(allE_in hW e he).1.1, (allE_in hW e he).1.2.2.1⟩) (r v) v (Nat.le_refl _) hv
  have h2 := cnt_le (fun u => decide (r u < r v)) (R + C)
  omega
theorem prC_iff (c d : Int) : prC c d = true ↔ (c = 1 → 0 ≤ d) ∧ (c = 0 → d ≤ 0) := by
  unfold prC
  constructor
  · intro h
    refine ⟨fun hc => ?_, fun hc => ?_⟩
    · subst hc
      by_cases hd : d < 0
      · rw [decide_eq_true hd] at h; cases h
      · omega
    · subst hc
      by_cases hd : d > 0
      · rw [decide_eq_true hd] at h; cases h
      · omega
  · rintro ⟨h1, h2⟩
    by_cases hc : c = 1
    · subst hc
      rw [decide_eq_false (by have := h1 rfl; omega)]; rfl
    · by_cases hc2 : c = 0
      · subst hc2
        rw [show decide (d > 0) = false from decide_eq_false (by have := h2 rfl; omega)]; rfl
      · rw [beq_eq_false_iff_ne.2 hc, beq_eq_false_iff_ne.2 hc2]; rfl
/-- Weights of a size, an image of it. -/
theorem wtOf_mk {R C : Nat} {kk : List (List Int)} {h : Nat → Nat → Int} (hk : sizeB kk R C (-100) 100 = true) (hI : Img R C h) : wtOfB kk (mkM R C h) = true ∧ wtOf kk (mkM R C h) = wtS R C (cellM kk) h := by
  have h1 := hI.r1; have h2 := hI.r2; have h3 := hI.c1; have h4 := hI.c2
  have e : wtOfB kk (mkM R C h) = true := by
    rw [wtOfB, img_ok hI, mkM_len, width_mkM h1, Bool.true_and, wtB, Int.toNat_natCast, Int.toNat_natCast, hk, sizeOk, decide_eq_true (by omega), decide_eq_true (by omega)]; rfl
  refine ⟨e, ?_⟩
  rw [wtOf, e, if_pos rfl, mkM_len, width_mkM h1]
  exact wtS_congr (fun _ _ _ _ => rfl) fun y x hy hx => cell_mk R C h hy hx
theorem prOk_iff {R C : Nat} {kk : List (List Int)} {h : Nat → Nat → Int} {a b : List Int} (hk : sizeB kk R C (-100) 100 = true) (hI : Img R C h) :
    prOkB kk (mkM R C h) a b = true ↔ (a.length = R ∧ b.length = C ∧ within a 1000 = true ∧ within b 1000 = true) ∧ ∀ y x, y < R → x < C → prC (h y x) (cellM kk y x - a.getD y 0 - b.getD x 0) = true := by
  rw [prOkB, (wtOf_mk hk hI).1, mkM_len, width_mkM hI.r1, prB_congr (fun _ _ _ _ => rfl) fun y x hy hx => cell_mk R C h hy hx]
  simp only [Bool.true_and, Bool.and_eq_true, beq_iff_eq]
  have hpr : prB R C (cellM kk) h (fun y => a.getD y 0) (fun x => b.getD x 0) = true ↔ ∀ y x, y < R → x < C → prC (h y x) (cellM kk y x - a.getD y 0 - b.getD x 0) = true := by
    constructor
    · intro hp y x hy hx
      cases e : prC (h y x) (cellM kk y x - a.getD y 0 - b.getD x 0) with
      | true => rfl
      | false =>
        have := prB_no (g := cellM kk) (f := h) (a := fun y => a.getD y 0) (b := fun x => b.getD x 0) hy hx e
        rw [this] at hp; cases hp
    · exact prB_yes
  rw [hpr]
  constructor
  · rintro ⟨⟨⟨⟨h1, h2⟩, h3⟩, h4⟩, h5⟩; exact ⟨⟨h1, h2, h3, h4⟩, h5⟩
  · rintro ⟨⟨h1, h2, h3, h4⟩, h5⟩; exact ⟨⟨⟨⟨h1, h2⟩, h3⟩, h4⟩, h5⟩
theorem S_mulL {n : Nat} {F : Nat → Int} {v : Int} : v * Mx.S n F = Mx.S n fun i => v * F i := by
  induction n with
  | zero => simp [Mx.S]
  | succ n ih => show v * (Mx.S n F + F n) = (Mx.S n fun i => v * F i) + v * F n; rw [Int.mul_add, ih]
/-- The weight, parted by prices. -/
theorem wt_split (R C : Nat) (k h : Nat → Nat → Int) (a b : Nat → Int) : wtS R C k h = (Mx.S R fun y => Mx.S C fun x => h y x * (k y x - a y - b x)) + (Mx.S R fun y => a y * Mx.S C (h y)) + Mx.S C fun x => b x * Mx.S R fun y => h y x := by
  have e1 : (Mx.S R fun y => Mx.S C fun x => h y x * k y x) = Mx.S R fun y => ((Mx.S C fun x => h y x * (k y x - a y - b x)) + a y * Mx.S C (h y)) + Mx.S C fun x => b x * h y x := Mx.S_congr R fun y _ => by
    rw [S_mulL, ← Mx.S_add, ← Mx.S_add]
    refine Mx.S_congr C fun x _ => ?_
    rw [Int.mul_sub, Int.mul_sub, Int.mul_comm (a y), Int.mul_comm (b x)]
    omega
  have e2 : (Mx.S R fun y => Mx.S C fun x => b x * h y x) = Mx.S C fun x => b x * Mx.S R fun y => h y x := by
    rw [Mx.S_swap (fun y x => b x * h y x) C R]
    exact Mx.S_congr C fun x _ => S_mulL.symm
  unfold wtS
  rw [e1, Mx.S_add, Mx.S_add, e2]
theorem S_all_eq {f g : Nat → Int} : ∀ n, (∀ i, i < n → f i ≤ g i) → Mx.S n f = Mx.S n g → ∀ i, i < n → f i = g i
  | 0, _, _, i, hi => by omega
  | n + 1, h, he, i, hi => by
    have h1 : Mx.S n f ≤ Mx.S n g := Mx.S_le n fun j hj => h j (by omega)
    have h2 := h n (by omega)
    have he' : Mx.S n f + f n = Mx.S n g + g n := he
    by_cases e : i = n
    · subst e; omega
    · exact S_all_eq n (fun j hj => h j (by omega)) (by omega) i (by omega)
/-- Two images of the same sums, prices that fit the first: the second is no heavier, and they fit it too where it is as heavy. -/
theorem prices_prove {R C : Nat} {k h h2 : Nat → Nat → Int} {a b : Nat → Int} (hI : Img R C h) (hJ : Img R C h2) (hs : SameF R C h h2) (hp : ∀ y x, y < R → x < C → prC (h y x) (k y x - a y - b x) = true) :
    wtS R C k h2 ≤ wtS R C k h ∧ (wtS R C k h2 = wtS R C k h → ∀ y x, y < R → x < C → prC (h2 y x) (k y x - a y - b x) = true) := by
  obtain ⟨-, s1, s2⟩ := (imgF_iff hI h2).1 (imgF_sameI hI hJ hs)
  have hle : ∀ y x, y < R → x < C → h2 y x * (k y x - a y - b x) ≤ h y x * (k y x - a y - b x) := fun y x hy hx => by
    have h3 := (prC_iff _ _).1 (hp y x hy hx)
    rcases hI.cell y x hy hx with e1 | e1 <;> rcases hJ.cell y x hy hx with e2 | e2 <;> rw [e1] at h3 <;> rw [e1, e2]
    · omega
    · have := h3.2 rfl; omega
    · have := h3.1 rfl; omega
    · omega
  have hrow : ∀ y, y < R → (Mx.S C fun x => h2 y x * (k y x - a y - b x)) ≤ Mx.S C fun x => h y x * (k y x - a y - b x) := fun y hy => Mx.S_le C fun x hx => hle y x hy hx
  have hall := Mx.S_le R hrow
  have e1 := wt_split R C k h a b
  have e2 := wt_split R C k h2 a b
  have e3 : (Mx.S R fun y => a y * Mx.S C (h2 y)) = Mx.S R fun y => a y * Mx.S C (h y) := Mx.S_congr R fun y hy => by rw [s1 y hy]
  have e4 : (Mx.S C fun x => b x * Mx.S R fun y => h2 y x) = Mx.S C fun x => b x * Mx.S R fun y => h y x := Mx.S_congr C fun x hx => by rw [s2 x hx]
  rw [e3, e4] at e2
  refine ⟨by omega, fun heq y x hy hx => ?_⟩
  have h5 := S_all_eq R hrow (by omega) y hy
  have h6 := S_all_eq C (fun x hx => hle y x hy hx) h5 x hx
  have h3 := (prC_iff _ _).1 (hp y x hy hx)
  rw [prC_iff]
  rcases hI.cell y x hy hx with e1 | e1 <;> rcases hJ.cell y x hy hx with e2 | e2 <;> rw [e1, e2] at h6 <;> rw [e1] at h3 <;> rw [e2]
  · exact h3
  · exact ⟨fun _ => by omega, fun h => by omega⟩
  · exact ⟨fun h => by omega, fun _ => by omega⟩
  · exact h3
theorem getD_rowF {n : Nat} {F : Nat → Int} {i : Nat} (h : i < n) : (rowF n F).getD i 0 = F i := by simp [rowF, h]
/-- What the search finds fits. -/
theorem find_fits {R C : Nat} {kk : List (List Int)} {h : Nat → Nat → Int} (hk : sizeB kk R C (-100) 100 = true) (hI : Img R C h) (hb : fpB kk (mkM R C h) = true) : prOkB kk (mkM R C h) (fpA kk (mkM R C h)) (fpC kk (mkM R C h)) = true := by
  have hW := (sizeB_wt hk).2
  unfold fpB at hb
  cases hD : fpP kk (mkM R C h) with
  | none => rw [hD] at hb; cases hb
  | some D =>
    have hbell := hD
    rw [fpP_mk (wtOf_mk hk hI).1 hI.r1] at hbell
    obtain ⟨h1, h2, h3⟩ := bell_low hI.r2 hI.c2 hW hbell
    have hA : fpA kk (mkM R C h) = rowF R fun y => -(D y) := by unfold fpA; rw [hD, mkM_len]
    have hC : fpC kk (mkM R C h) = rowF C fun x => D (R + x) := by unfold fpC; rw [hD, mkM_len, width_mkM hI.r1]
    rw [hA, hC]
    refine (prOk_iff hk hI).2 ⟨⟨rowF_len _ _, rowF_len _ _, ?_, ?_⟩, fun y x hy hx => ?_⟩
    · unfold within rowF
      rw [List.all_eq_true]
      intro z hz
      obtain ⟨i, hi, rfl⟩ := List.mem_map.1 hz
      rw [List.mem_range] at hi
      have := h1 i; have := h2 i (by omega)
      exact decide_eq_true (by omega)
    · unfold within rowF
      rw [List.all_eq_true]
      intro z hz
      obtain ⟨i, hi, rfl⟩ := List.mem_map.1 hz
      rw [List.mem_range] at hi
      have := h1 (R + i); have := h2 (R + i) (by omega)
      exact decide_eq_true (by omega)
    · rw [getD_rowF hy, getD_rowF hx, prC_iff]
      have h4 := h3 (edgeAt R (cellM kk) h y x) (mem_allE.2 ⟨y, x, hy, hx, rfl⟩)
      unfold edgeAt at h4
      refine ⟨fun hc => ?_, fun hc => ?_⟩
      · rw [if_pos hc] at h4
        simp only at h4; omega
      · rw [if_neg (by rw [hc]; decide)] at h4
        simp only at h4; omega
/-- What the law asks. -/
theorem price_facts {R C : Nat} {f g : Nat → Nat → Int} {kk : List (List Int)} (hI : Img R C f) (hJ : Img R C g) (hs : SameF R C f g) (hk : sizeB kk R C (-100) 100 = true) :
    ∃ q N, heavB (rowsL R C f) (rowsL C R (trM f)) kk = true ∧ heavP (rowsL R C f) (rowsL C R (trM f)) kk = (mkM R C q, N) ∧ Img R C q ∧ sameB (mkM R C q) (mkM R C f) = true ∧ wtOf kk (mkM R C q) = N ∧
      wtOf kk (mkM R C f) ≤ N ∧ wtOf kk (mkM R C g) ≤ N ∧ fpB kk (mkM R C q) = true ∧ fpB kk (mkM R C f) = decide (wtOf kk (mkM R C f) = N) ∧ prOkB kk (mkM R C f) (fpA kk (mkM R C q)) (fpC kk (mkM R C q)) = decide (wtOf kk (mkM R C f) = N) := by
  have hW := (sizeB_wt hk).2
  have hH : heavB (rowsL R C f) (rowsL C R (trM f)) kk = true := by
    have h1 := hI.r1; have h2 := hI.r2; have h3 := hI.c1; have h4 := hI.c2
    rw [heavB, exists_I hI, rows_len, rows_len, Bool.true_and, wtB, Int.toNat_natCast, Int.toNat_natCast, hk, sizeOk, decide_eq_true (by omega), decide_eq_true (by omega)]; rfl
  have hval : ∀ m, heavF (rowsL R C f) (rowsL C R (trM f)) kk m = wtS R C (cellM kk) (cellM m) := fun m => by unfold heavF; rw [rows_len, rows_len]
  have hmk : ∀ h : Nat → Nat → Int, wtS R C (cellM kk) (cellM (mkM R C h)) = wtS R C (cellM kk) h := fun h => wtS_congr (fun _ _ _ _ => rfl) fun y x hy hx => cell_mk R C h hy hx
  obtain ⟨z, hz, hz1, hz2, hz3⟩ := bestF_some (vf := heavF (rowsL R C f) (rowsL C R (trM f)) kk) (allL_ne (exists_I hI))
  obtain ⟨h1, h2, h3⟩ := allL_I hI hz1
  rw [hval] at hz2
  have hmax : ∀ h, Img R C h → SameF R C f h → wtS R C (cellM kk) h ≤ z.2 := fun h a1 a2 => by
    have := hz3 _ (mem_I hI a1 a2)
    rwa [hval, hmk] at this
  have hwq := (wtOf_mk hk h2).2
  have hwf := (wtOf_mk hk hI).2
  have hwg := (wtOf_mk hk hJ).2
  have hends : ∀ h, Img R C h → SameF R C f h → wtS R C (cellM kk) h = z.2 → fpB kk (mkM R C h) = true := fun h a1 a2 a3 => by
    obtain ⟨D, hD⟩ := heavy_ends (g := cellM kk) a1 hW fun h' hh' => by
      obtain ⟨b1, b2⟩ := img_sameI a1 hh'
      rw [a3]
      exact hmax h' b1 (sameF_trans a2 (sameF_symm b2))
    unfold fpB
    rw [fpP_mk (wtOf_mk hk a1).1 a1.r1, hD]; rfl
  have hq := hends (cellM z.1) h2 (sameF_symm h3) hz2.symm
  have hqp := (prOk_iff hk h2).1 (find_fits hk h2 hq)
  refine ⟨cellM z.1, z.2, hH, ?_, h2, sameB_okI h2 hI h3, by rw [hwq, hz2], by rw [hwf]; exact hmax f hI (sameF_refl R C f), by rw [hwg]; exact hmax g hJ hs, hq, ?_, ?_⟩
  · unfold heavP pickP
    rw [hH, if_pos rfl, hz, Option.getD_some, ← h1]
  · rw [hwf]
    by_cases e : wtS R C (cellM kk) f = z.2
    · rw [decide_eq_true e]
      exact hends f hI (sameF_refl R C f) e
    · rw [decide_eq_false e]
      cases hb : fpB kk (mkM R C f) with
      | false => rfl
      | true =>
        exfalso
        have hp := ((prOk_iff hk hI).1 (find_fits hk hI hb)).2
        have := (prices_prove hI h2 (sameF_symm h3) hp).1
        have h4 := hmax f hI (sameF_refl R C f)
        omega
  · rw [hwf]
    by_cases e : wtS R C (cellM kk) f = z.2
    · rw [decide_eq_true e]
      refine (prOk_iff hk hI).2 ⟨hqp.1, ?_⟩
      exact (prices_prove h2 hI h3 hqp.2).2 (by rw [e, hz2])
    · rw [decide_eq_false e]
      cases hb : prOkB kk (mkM R C f) (fpA kk (mkM R C (cellM z.1))) (fpC kk (mkM R C (cellM z.1))) with
      | false => rfl
      | true =>
        exfalso
        have hp := ((prOk_iff hk hI).1 hb).2
        have := (prices_prove hI h2 (sameF_symm h3) hp).1
        have h4 := hmax f hI (sameF_refl R C f)
        omega
end Go.Proofs.YtcliiefedmiokaaGreat
