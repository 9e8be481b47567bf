/-
  Texts of this claim, one behind the other: Img, Grid, GszB, Hold, Sums, LawsQ, AppR, CpS.
-/
import Derived.Test.YtiajdmoppgpgnaaPackB
import Derived.Test.YtiajdmoppgpgnaaPackE
import Derived.Test.YtiajdmoppgpgnaaPackD
import Derived.Deep.CutRange
import Derived.BigQuiet
import Derived.Test.YtiajdmoppgpgnaaPackC
import Derived.Test.YtiajdmoppgpgnaaPackA
/-
  Images by their cells: plain lists, what reads them and what owns them.
-/
namespace Go.Proofs.Ytiajdmoppgpgnaa
open Go.RowKit

def rowF (C : Nat) (f : Nat → Int) : List Int := (List.range C).map f
/-- The list of R rows of C cells. -/
def mkM (R C : Nat) (f : Nat → Nat → Int) : List (List Int) := (List.range R).map fun y => rowF C (f y)
theorem rowF_len (C : Nat) (f : Nat → Int) : (rowF C f).length = C := by simp [rowF]
theorem rowF_at (C : Nat) (f : Nat → Int) (x : Nat) (h : x < (rowF C f).length) : (rowF C f)[x] = f x := by simp [rowF]
theorem mkM_len (R C : Nat) (f : Nat → Nat → Int) : (mkM R C f).length = R := by simp [mkM]
theorem mkM_at (R C : Nat) (f : Nat → Nat → Int) (y : Nat) (h : y < (mkM R C f).length) : (mkM R C f)[y] = rowF C (f y) := by simp [mkM]
theorem rowF_congr {C : Nat} {f g : Nat → Int} (h : ∀ x, x < C → f x = g x) : rowF C f = rowF C g := List.map_congr_left fun x hx => h x (List.mem_range.1 hx)
theorem mkM_congr {R C : Nat} {f g : Nat → Nat → Int} (h : ∀ y x, y < R → x < C → f y x = g y x) : mkM R C f = mkM R C g :=
  List.map_congr_left fun y hy => rowF_congr fun x hx => h y x (List.mem_range.1 hy) hx
theorem mkM_succ (R C : Nat) (f : Nat → Nat → Int) : mkM (R + 1) C f = mkM R C f ++ [rowF C (f R)] := by simp [mkM, List.range_succ]
theorem rowF_set (C : Nat) (f : Nat → Int) (x : Nat) (v : Int) : (rowF C f).set x v = rowF C fun j => if j = x then v else f j := by
  apply List.ext_getElem
  · simp [rowF]
  · intro j h1 h2
    rw [List.getElem_set]
    by_cases e : x = j
    · subst e; simp [rowF]
    · simp [rowF, e, Ne.symm e]
theorem mkM_set (R C : Nat) (f : Nat → Nat → Int) (y x : Nat) (v : Int) : (mkM R C f).set y (rowF C fun j => if j = x then v else f y j) = mkM R C fun a b => if a = y ∧ b = x then v else f a b := by
  apply List.ext_getElem
  · simp [mkM]
  · intro j h1 h2
    rw [List.getElem_set]
    by_cases e : y = j
    · subst e; simp [mkM]
    · simp [mkM, e, Ne.symm e]
theorem cells_mkM (R C : Nat) (f : Nat → Nat → Int) : cellsM (mkM R C f) = R * C := by
  induction R with
  | zero => simp [mkM, cellsM]
  | succ R ih =>
    rw [mkM_succ]
    simp only [cellsM, List.map_append, List.sum_append, List.map_cons, List.map_nil, List.sum_cons, List.sum_nil, rowF_len] at ih ⊢
    rw [ih, Nat.succ_mul]; omega

/-- The cells of a valid image. -/
structure Img (R C : Nat) (f : Nat → Nat → Int) : Prop where
  r1 : 1 ≤ R
  r2 : R ≤ 5
  c1 : 1 ≤ C
  c2 : C ≤ 5
  cell : ∀ y x, y < R → x < C → f y x = 0 ∨ f y x = 1
theorem ok_img {m : List (List Int)} (h : okB m = true) : ∃ R C f, m = mkM R C f ∧ Img R C f := by
  simp only [okB, Bool.and_eq_true, decide_eq_true_eq, List.all_eq_true] at h
  obtain ⟨⟨⟨h1, h2⟩, h3, h4⟩, h5⟩ := h
  have hrow : ∀ y, (hy : y < m.length) → m[y].length = widthM m ∧ ∀ x, (hx : x < m[y].length) → m[y][x] = 0 ∨ m[y][x] = 1 := fun y hy => by
    have := h5 _ (List.getElem_mem hy)
    simp only [rowOk, Bool.and_eq_true, beq_iff_eq, List.all_eq_true] at this
    refine ⟨this.1, fun x hx => ?_⟩
    have := this.2 _ (List.getElem_mem hx)
    simpa [cellOk] using this
  refine ⟨m.length, widthM m, fun y x => (m.getD y []).getD x 0, ?_, h1, h2, h3, h4, fun y x hy hx => ?_⟩
  · apply List.ext_getElem
    · simp [mkM]
    · intro y hy1 hy2
      rw [mkM_at]
      apply List.ext_getElem
      · rw [rowF_len, (hrow y hy1).1]
      · intro x hx1 hx2
        rw [rowF_at, List.getD_eq_getElem?_getD, List.getD_eq_getElem?_getD, List.getElem?_eq_getElem hy1, Option.getD_some, List.getElem?_eq_getElem hx1]; rfl
  · have hx' : x < m[y].length := by rw [(hrow y hy).1]; exact hx
    have := (hrow y hy).2 x hx'
    simpa [List.getD_eq_getElem?_getD, List.getElem?_eq_getElem hy, List.getElem?_eq_getElem hx'] using this
theorem width_mkM {R C : Nat} {f : Nat → Nat → Int} (h : 0 < R) : widthM (mkM R C f) = C := by
  rw [width_at _ (by rw [mkM_len]; exact h), mkM_at, rowF_len]
theorem img_ok {R C : Nat} {f : Nat → Nat → Int} (h : Img R C f) : okB (mkM R C f) = true := by
  have hw := width_mkM (C := C) (f := f) (show 0 < R by have := h.r1; omega)
  refine okB_yes (by rw [mkM_len]; exact ⟨h.r1, h.r2⟩) (by rw [hw]; exact ⟨h.c1, h.c2⟩) fun k hk => ?_
  rw [hw, mkM_at]
  have hk' : k < R := by rw [mkM_len] at hk; exact hk
  refine rowOk_yes (rowF_len _ _) fun j hj => ?_
  rw [rowF_len] at hj
  rw [rowF_at]
  rcases h.cell k j hk' hj with e | e <;> rw [e] <;> rfl

/-- An image that is read: its rows' slices and its cells. -/
theorem inMat_img {w : World} {v : Value} {R C : Nat} {f : Nat → Nat → Int} (h : InMat w v (mkM R C f)) (hR : 0 < R) (hC : 0 < C) :
    ∃ g o c, v = .slice (some ⟨g, o, none⟩) R c ∧ g < w.heap.size ∧ ∀ y, y < R → ∃ g' o' c', w.cell? ⟨g, o + y, none⟩ = some (.slice (some ⟨g', o', none⟩) C c') ∧ g' < w.heap.size ∧ ∀ x, x < C → w.cell? ⟨g', o' + x, none⟩ = some (.int .i64 (f y x)) := by
  obtain ⟨a, c, rfl, -, hp⟩ := h
  obtain ⟨g, o, rfl, hg, hc⟩ := hp.resolve_left (by rw [mkM_len]; omega)
  refine ⟨g, o, c, by rw [mkM_len], hg, fun y hy => ?_⟩
  obtain ⟨u, hu, hr⟩ := hc y (by rw [mkM_len]; exact hy)
  rw [mkM_at] at hr
  obtain ⟨a', c', rfl, -, hp'⟩ := hr
  obtain ⟨g', o', rfl, hg', hc'⟩ := hp'.resolve_left (by rw [rowF_len]; omega)
  rw [rowF_len] at hu
  refine ⟨g', o', c', hu, hg', fun x hx => ?_⟩
  rw [hc' x (by rw [rowF_len]; exact hx), rowF_at]

/-- A cell of an image that the call owns: where it lies, and the image with another number in it. -/
theorem ownMat_cell {w : World} {lo hi g n c R C : Nat} {f : Nat → Nat → Int} (h : OwnMat w lo hi (.slice (some ⟨g, 0, none⟩) n c) (mkM R C f)) (y x : Nat) (hy : y < R) (hx : x < C) :
    ∃ g' c', w.cell? ⟨g, y, none⟩ = some (.slice (some ⟨g', 0, none⟩) C c') ∧ w.cell? ⟨g', x, none⟩ = some (.int .i64 (f y x)) ∧ w.frozen? ⟨g', x, none⟩ = false ∧ lo ≤ g' ∧ g' < hi ∧
      ∀ z : Int, OwnMat (w.setCell ⟨g', x, none⟩ (.int .i64 z)) lo hi (.slice (some ⟨g, 0, none⟩) n c) (mkM R C fun a b => if a = y ∧ b = x then z else f a b) := by
  obtain ⟨u, hu, -, hr, hh, hset⟩ := ownMat_row h y (by rw [mkM_len]; exact hy)
  rw [mkM_at, rowF_len] at hr hset
  obtain ⟨g', c', rfl, hlo, -, -, -, hc, hf⟩ := own_some hr (by omega)
  refine ⟨g', c', hu, ?_, hf x, hlo, hh _ rfl, fun z => ?_⟩
  · rw [hc x hx, ints_at _ x (by rw [rowF_len]; exact hx), rowF_at]
  · obtain ⟨h1, h2⟩ := hr.stored x (.int .i64 z)
    rw [ints_set, rowF_set] at h1
    have := hset _ _ h1 (rowF_len _ _) h2
    rw [mkM_set] at this; exact this

/-- The image as rows of five numbers, -1 where it has no cell. -/
def imgF (R C : Nat) (f : Nat → Nat → Int) (i : Nat) : Int := if i / 5 < R ∧ i % 5 < C then f (i / 5) (i % 5) else -1
theorem imgF_at (R C : Nat) (f : Nat → Nat → Int) (y x : Nat) (h : x < 5) : imgF R C f (5 * y + x) = if y < R ∧ x < C then f y x else -1 := by
  rw [imgF, show (5 * y + x) / 5 = y by omega, show (5 * y + x) % 5 = x by omega]
theorem imgF_range {R C : Nat} {f : Nat → Nat → Int} (h : Img R C f) (i : Nat) : imgF R C f i = -1 ∨ imgF R C f i = 0 ∨ imgF R C f i = 1 := by
  unfold imgF
  split
  · rename_i hh; rcases h.cell _ _ hh.1 hh.2 with e | e <;> simp [e]
  · exact .inl rfl

/-- How many of the first k numbers have p. -/
def cnt (p : Nat → Bool) : Nat → Nat
  | 0 => 0
  | k + 1 => cnt p k + if p k then 1 else 0
theorem cnt_yes {p : Nat → Bool} {k : Nat} (h : p k = true) : cnt p (k + 1) = cnt p k + 1 := by rw [cnt, if_pos h]
theorem cnt_no {p : Nat → Bool} {k : Nat} (h : p k = false) : cnt p (k + 1) = cnt p k := by rw [cnt, if_neg (by simp [h])]; rfl
theorem cnt_skip {p : Nat → Bool} {k l : Nat} (hkl : k ≤ l) (h : ∀ i, k ≤ i → i < l → p i = false) : cnt p l = cnt p k := by
  induction l with
  | zero => obtain rfl : k = 0 := by omega
            rfl
  | succ l ih =>
    by_cases e : k = l + 1
    · rw [e]
    · rw [cnt_no (h l (by omega) (by omega)), ih (by omega) fun i h1 h2 => h i h1 (by omega)]
theorem cnt_le (p : Nat → Bool) (k : Nat) : cnt p k ≤ k := by
  induction k with
  | zero => exact Nat.le_refl _
  | succ k ih => rw [cnt]; split <;> omega
def zeroM (_y _x : Nat) : Int := 0
end Go.Proofs.Ytiajdmoppgpgnaa
/-
  Grids in variables; collect over rows of zeros; zeroGrid.
-/
namespace Go.Proofs.Ytiajdmoppgpgnaa
open Go.RowKit
set_option maxRecDepth 100000

abbrev gridV (R C : Int) (v : Value) : Value := .agg #[.int .i64 R, .int .i64 C, v]
/-- A grid in a variable. -/
def GridAt (w : World) (g : Nat) (R C : Int) (v : Value) : Prop := w.heap[g]? = some (.cells #[.int .i64 R, .int .i64 C, v] 75 (0, 0))
theorem gridAt_lt {w : World} {g : Nat} {r c : Int} {v : Value} (h : GridAt w g r c v) : g < w.heap.size := (Array.getElem?_eq_some_iff.1 h).1
theorem gridAt_below {w w' : World} {g : Nat} {r c : Int} {v : Value} (h : GridAt w g r c v) (hb : Below w.heap.size w w') : GridAt w' g r c v := by
  unfold GridAt; rw [hb.block g (gridAt_lt h)]; exact h
theorem gridAt_grown {w w' : World} {g : Nat} {r c : Int} {v : Value} {row : Option Nat} (h : GridAt w g r c v) (hg : w.grownBy w' row) (hr : row ≠ some g) : GridAt w' g r c v := by
  unfold GridAt; rw [hg.block g (gridAt_lt h) (Ne.symm hr)]; exact h
theorem gridAt_within {w w' : World} {g lo hi : Nat} {r c : Int} {v : Value} (h : GridAt w g r c v) (hw : Within lo hi w w') (ha : g < lo ∨ hi ≤ g) : GridAt w' g r c v := by
  unfold GridAt; rw [hw.block g (gridAt_lt h) ha]; exact h
theorem gridAt_cells {w : World} {g : Nat} {r c : Int} {v : Value} (h : GridAt w g r c v) : w.cell? ⟨g, 0, none⟩ = some (.int .i64 r) ∧ w.cell? ⟨g, 1, none⟩ = some (.int .i64 c) ∧ w.cell? ⟨g, 2, none⟩ = some v :=
  ⟨by rw [cell_of_row w g 0 _ _ _ h]; rfl, by rw [cell_of_row w g 1 _ _ _ h]; rfl, by rw [cell_of_row w g 2 _ _ _ h]; rfl⟩
theorem Try.sizeGr : (Try.prog.info? 75).map (·.size) = some 3 := by kernel_rfl
theorem wpList_loadGr {ops : Array Oper} {rest : List Oper} {o : Oper} {a : Act} {Q : Exit → Act → World → Prop} {W : World} {g : Nat} {r c : Int} {v : Value} (hb : GridAt W g r c v)
    (hgd : o.guard = none) (x : Operand) (ho : o.op = .load 75 x) (hx : a.eval x = .pointer (some ⟨g, 0, none⟩))
    (h : wpList Try.prog ops Q rest (a.put o.dst (gridV r c v)) W) : wpList Try.prog ops Q (o :: rest) a W :=
  wpList_load_row hgd _ x ho g hx _ _ (0, 0) _ hb Try.underlying75 rfl Try.sizeGr h
theorem exec_loadGr {ρ : Operand → Value} {o : Oper} {w : World} {x : Operand} {g : Nat} {r c : Int} {v : Value} (ho : o.op = .load 75 x) (hx : ρ x = .pointer (some ⟨g, 0, none⟩)) (hb : GridAt w g r c v) : (execOp ρ o).run Try.prog w = .ok (.value (gridV r c v)) w := by
  unfold execOp
  simp only [ho, hx, Instr.loadAt, Instr.sureAddr, Sem.run_bind, Sem.run_pure, Result.andThen_ok, run_loadVar_row w g _ _ _ _ _ hb Try.underlying75 rfl Try.sizeGr]
theorem exec_storeGr {ρ : Operand → Value} {o : Oper} {w : World} {x y : Operand} {g : Nat} {r0 c0 : Int} {v0 : Value} (r c : Int) (v : Value) (ho : o.op = .store 75 x y) (hx : ρ x = .pointer (some ⟨g, 0, none⟩)) (hy : ρ y = gridV r c v) (hb : GridAt w g r0 c0 v0) (hv : v.oneCell' = true) :
    ∃ w', (execOp ρ o).run Try.prog w = .ok .skip w' ∧ GridAt w' g r c v ∧ w.grownBy w' (some g) ∧ w'.heap.size = w.heap.size := by
  unfold execOp
  simp only [ho, hx, hy, gridV, Instr.storeAt, Instr.sureAddr, Sem.run_bind, Sem.run_pure, Result.andThen_ok, run_storeVar_row w g 75 75 #[.int .i64 r0, .int .i64 c0, v0] #[.int .i64 r, .int .i64 c, v] hb (by rw [Try.sizeGr]; rfl) rfl (by simp [Value.oneCell'] <;> simpa [Value.oneCell'] using hv)]
  exact ⟨_, rfl, setRow_heap w g _ _ _ (0, 0) hb, ⟨rfl, rfl, rfl, by simp, fun k hk hr => setRow_other w g k _ (fun e => hr (by rw [e]))⟩, by simp⟩
theorem wpList_storeGr {ops : Array Oper} {rest : List Oper} {o : Oper} {a : Act} {Q : Exit → Act → World → Prop} {W : World} {g : Nat} {r0 c0 : Int} {v0 : Value} (hb : GridAt W g r0 c0 v0) (r c : Int) (v : Value) (hv : v.oneCell' = true)
    (hgd : o.guard = none) (x y : Operand) (ho : o.op = .store 75 x y) (hx : a.eval x = .pointer (some ⟨g, 0, none⟩)) (hy : a.eval y = gridV r c v)
    (h : ∀ w', GridAt w' g r c v → W.grownBy w' (some g) → w'.heap.size = W.heap.size → wpList Try.prog ops Q rest (a.put o.dst undef) w') : wpList Try.prog ops Q (o :: rest) a W := by
  refine wpList_plain hgd fun K hK => ?_
  obtain ⟨w', h1, h2, h3, h4⟩ := exec_storeGr (ρ := a.eval) r c v ho hx hy hb hv
  unfold Oper.wp
  rw [h1]
  exact hK _ _ (h w' h2 h3 h4)
theorem ownMat_slice {w : World} {lo hi : Nat} {v : Value} {m : List (List Int)} (h : OwnMat w lo hi v m) : ∃ a n c, v = .slice a n c := by
  obtain ⟨vs, ho, -⟩ := h
  obtain ⟨a, c, rfl⟩ := own_slice ho
  exact ⟨a, _, c, rfl⟩
theorem exec_field0S {ρ : Operand → Value} {o : Oper} {w : World} {x : Operand} {g : Nat} (ho : o.op = .fieldAddr 73 x 0) (hx : ρ x = .pointer (some ⟨g, 0, none⟩)) : (execOp ρ o).run Try.prog w = .ok (.value (.pointer (some ⟨g, 0, none⟩))) w := by
  unfold execOp
  simp only [ho, hx]
  go_simp
theorem exec_loadS0 {ρ : Operand → Value} {o : Oper} {w : World} {x : Operand} {g : Nat} {r c : Int} (ho : o.op = .load 3 x) (hx : ρ x = .pointer (some ⟨g, 0, none⟩)) (hb : SizeAt w g r c) : (execOp ρ o).run Try.prog w = .ok (.value (.int .i64 r)) w := by
  obtain ⟨h0, -⟩ := sizeAt_cells hb
  unfold execOp
  simp only [ho, hx]
  go_simp
theorem exec_fun1 {ρ : Operand → Value} {o : Oper} {w : World} {x : Operand} {f : FuncId} {v : Value} (ho : o.op = .makeFunc (.func f) #[] #[x]) (hx : ρ x = v) : (execOp ρ o).run Try.prog w = .ok (.value (.func (.func f) #[] #[v])) w := by
  unfold execOp
  simp only [ho]
  go_simp
theorem exec_buildGrid {ρ : Operand → Value} {o : Oper} {w : World} {x y : Operand} {r c : Int} {v : Value} (ho : o.op = .build 75 #[(0, x), (1, y)]) (hx : ρ x = .agg #[.int .i64 r, .int .i64 c]) (hy : ρ y = v) (hv : ∃ a n c, v = .slice a n c) : (execOp ρ o).run Try.prog w = .ok (.value (gridV r c v)) w := by
  obtain ⟨a, n, c', rfl⟩ := hv
  unfold execOp gridV
  simp only [ho]
  go_simp

set_option maxHeartbeats 400000 in
theorem zeroRow_any (k C g R : Nat) (w : World) (hs : SizeAt w g R C) (hC : C ≤ 40) :
    Calls Try.prog 125 #[.int .i64 ((k : Int) + 1), .pointer (some ⟨g, 0, none⟩)] w fun e w' => ∃ v, e = .returned v ∧ w'.ownsRow w.heap.size 3 1 v C (ints (rowF C fun _ => 0)) ∧ Below w.heap.size w w' := by
  obtain ⟨h0, h1⟩ := sizeAt_cells hs
  clear hs
  go_enter Try.func125, Try.ntmps125
  go_wp2_with (at_make; refine wpList_new w.heap.size C (.int .i64 0) rfl _ _ rfl Try.underlying33 Try.infoInt rfl (by decide) rfl rfl (by omega) (Nat.le_refl _) ?_; intro w1 hown1 hb1 hg1; have HO := hide hown1; have HB := hide hb1; clear hown1 hb1 hg1)
  go_ret
  have e : List.replicate C (Value.int .i64 0) = ints (rowF C fun _ => 0) := by
    apply List.ext_getElem
    · simp [ints, rowF]
    · intro i h1 h2; simp [ints, rowF]
  exact ⟨_, rfl, by rw [← e]; exact HO.out, HB.out⟩
set_option maxHeartbeats 1000000 in
theorem collectZ_any (gf : Nat) (C : Nat) (cb : Array Value) (n : Nat) (w : World) (eg : ∀ args w, (callFunc gf args).run Try.prog w = .ok (.enter gf args) w) (hn : n ≤ 40)
    (hF : ∀ (k : Nat) (W : World), k < n → Below w.heap.size w W → Calls Try.prog gf (#[.int .i64 ((k : Int) + 1)] ++ cb) W fun e W' => ∃ v, e = .returned v ∧ W'.ownsRow W.heap.size 3 1 v C (ints (rowF C fun _ => 0)) ∧ Below W.heap.size W W') :
    Calls Try.prog 124 #[.int .i64 n, .func (.func gf) #[] cb] w fun e w' => ∃ v, e = .returned v ∧ OwnMat w' w.heap.size w'.heap.size v (mkM n C fun _ _ => 0) ∧ Below w.heap.size w w' := by
  have HF := hide hF
  obtain ⟨m, hm⟩ : ∃ m, m = mkM n C fun _ _ => (0 : Int) := ⟨_, rfl⟩
  have HM0 := hide hm
  have hml : m.length = n := by rw [hm, mkM_len]
  have HML := hide hml
  rw [← hm]
  clear hF hm hml
  go_enter Try.func124, Try.ntmps124
  go_wp2_with (at_make; refine wpList_new w.heap.size n (.slice none 0 0) rfl _ _ rfl Try.underlying29 Try.infoInts rfl (by decide) rfl rfl (by omega) (Nat.le_refl _) ?_; intro w1 hown1 hb1 hg1)
  have HO := hide hown1; have HB := hide hb1
  clear hown1 hb1 hg1
  go_wp2
  go_loopw [10] (fun i w' => ∃ k : Nat, k ≤ n ∧ i = .int .i64 k ∧ OwnMat w' w.heap.size w'.heap.size (.slice (some ⟨w.heap.size, 0, none⟩) n n) (fillM m k) ∧ Below w.heap.size w w') (fun i _ => n - (intOf i).toNat)
  case atStart => exact ⟨0, Nat.zero_le _, rfl, by rw [fillM_zero, HML.out]; exact ownMat_fresh _ HO.out (HO.out.lt _ rfl).2, HB.out⟩
  case round =>
    clear HO HB
    obtain ⟨k, hk, rfl, hown, hb⟩ := hrel
    have HO := hide hown; have HB := hide hb
    clear hown hb
    by_cases hlt : k < n
    · have hkm : k < m.length := by rw [HML.out]; exact hlt
      have HCA := hide (HF.out k wr hlt HB.out)
      have HL := hide (fillM_len m k (by omega))
      have HFS := hide (fillM_set m k hkm)
      have HRW : Hid (m[k] = rowF C fun _ => 0) := hide (by
        have h := HM0.out
        subst h
        rw [mkM_at])
      go_wp2_with fail
      refine HCA.out.mono ?_
      rintro e w2 ⟨v2, rfl, ho2, hb2⟩
      obtain ⟨a2, c2, rfl⟩ := own_slice ho2
      have HO2 := hide ho2; have HB2 := hide hb2
      clear ho2 hb2
      have HM := hide (ownMat_below HO.out HB2.out)
      obtain ⟨u0, hx2, hf2, -, -, -⟩ := ownMat_row HM.out k (by rw [HL.out]; exact hkm)
      go_wp2
      go_roundw
      case rel =>
        have hp := ownMat_put (r := rowF C fun _ => 0) (hi' := w2.heap.size) HM.out k (by rw [HL.out]; exact hkm) (by rw [rowF_len]; exact HO2.out) HB.out.size (Nat.le_refl _) HB2.out.size
        rw [← HRW.out, HFS.out] at hp
        exact ⟨k + 1, by omega, by go_num, ownMat_mono hp (Nat.le_refl _) (by simp), (HB.out.trans (HB2.out.mono HB.out.size)).setCell (Nat.le_refl _) _⟩
      case measure => simp [intOf]; omega
    · have HE : Hid (fillM m k = m) := hide (fillM_all _ _ (by rw [HML.out]; omega))
      go_wp2
      go_ret
      exact ⟨_, rfl, by have := HO.out; rw [HE.out] at this; exact this, HB.out⟩

/-- What answers a grid of the call's own. -/
def GridRes (R C : Nat) (f : Nat → Nat → Int) (w : World) (e : Ending) (w' : World) : Prop := ∃ v, e = .returned (gridV R C v) ∧ OwnMat w' w.heap.size w'.heap.size v (mkM R C f) ∧ Below w.heap.size w w'
set_option maxHeartbeats 2000000 in
theorem zeroGrid_any (R C : Nat) (w : World) (hR : R ≤ 40) (hC : C ≤ 40) :
    Calls Try.prog 108 #[.agg #[.int .i64 R, .int .i64 C]] w (GridRes R C (fun _ _ => 0) w) := by
  have HB0 := hide (((Below.refl w.heap.size w).alloc (Nat.le_refl _) (.cells #[.int .i64 R, .int .i64 C] 73)).alloc (by simp) (.cells #[.int .i64 0, .int .i64 0, .slice none 0 0] 75))
  have HZ : Hid (SizeAt ((w.alloc (.cells #[.int .i64 R, .int .i64 C] 73)).alloc (.cells #[.int .i64 0, .int .i64 0, .slice none 0 0] 75)) w.heap.size R C) := hide (sizeAt_below (heap_alloc_new w _) ((Below.refl _ _).alloc (Nat.le_refl _) _))
  have HG : Hid (GridAt ((w.alloc (.cells #[.int .i64 R, .int .i64 C] 73)).alloc (.cells #[.int .i64 0, .int .i64 0, .slice none 0 0] 75)) (w.heap.size + 1) 0 0 (.slice none 0 0)) := hide (by
    have := heap_alloc_new (w.alloc (.cells #[.int .i64 R, .int .i64 C] 73)) (.cells #[.int .i64 0, .int .i64 0, .slice none 0 0] 75)
    simpa [GridAt] using this)
  go_enter Try.func108, Try.ntmps108
  go_upto_region 1 with fail
  obtain ⟨fs, hfs⟩ : ∃ fs : List FactP, fs = [(isV (.agg #[.int .i64 R, .int .i64 C])), (isV (.pointer (some ⟨w.heap.size, 0, none⟩))), (isV (.int .i64 R)), (isV (.func (.func 125) #[] #[.pointer (some ⟨w.heap.size, 0, none⟩)])), (fun u w2 => OwnMat w2 (w.heap.size + 2) w2.heap.size u (mkM R C fun _ _ => 0)), (fun u w2 => ∃ x, u = gridV R C x ∧ OwnMat w2 (w.heap.size + 2) w2.heap.size x (mkM R C fun _ _ => 0))] := ⟨_, rfl⟩
  have hst : ∀ f ∈ fs, StableP f := by
    rw [hfs]; intro f hf
    simp only [List.mem_cons, List.not_mem_nil, or_false] at hf
    rcases hf with rfl | rfl | rfl | rfl | rfl | rfl <;> first | exact stable_v _ | exact fun u w2 w3 hb h => ownMat_mono (ownMat_below h hb) (Nat.le_refl _) hb.size | exact fun u w2 w3 hb ⟨x, h1, h2⟩ => ⟨x, h1, ownMat_mono (ownMat_below h2 hb) (Nat.le_refl _) hb.size⟩
  subst hfs
  refine wp_region_g (S := fun w2 => (SizeAt w2 w.heap.size R C ∧ GridAt w2 (w.heap.size + 1) 0 0 (.slice none 0 0) ∧ w.heap.size + 2 ≤ w2.heap.size) ∧ Below w.heap.size w w2) [(isV (.agg #[.int .i64 R, .int .i64 C])), (isV (.pointer (some ⟨w.heap.size, 0, none⟩))), (isV (.int .i64 R)), (isV (.func (.func 125) #[] #[.pointer (some ⟨w.heap.size, 0, none⟩)])), (fun u w2 => OwnMat w2 (w.heap.size + 2) w2.heap.size u (mkM R C fun _ _ => 0)), (fun u w2 => ∃ x, u = gridV R C x ∧ OwnMat w2 (w.heap.size + 2) w2.heap.size x (mkM R C fun _ _ => 0))] [(1, .pointer (some ⟨w.heap.size, 0, none⟩))] _ _ 6 (by kernel_rfl) rfl rfl (by kernel_rfl) (by kernel_rfl) rfl (by kernel_rfl) ?base ⟨⟨HZ.out, HG.out, by simp⟩, below_drew HB0.out⟩ ?ob rfl ?fin
  case base =>
    intro t v ht
    simp only [List.lookup_cons, List.lookup_nil] at ht
    repeat' split at ht
    all_goals first | (cases ht; done) | (obtain rfl := Option.some.inj ht; rename_i hh; obtain rfl := eq_of_beq hh; rfl)
  case ob =>
    exact ⟨obg_of rfl (obt_one (.agg #[.int .i64 R, .int .i64 C]) rfl rfl (srt_b 1 rfl) (fun ρ w2 hS hx => exec_loadSz rfl hx hS.1.1)),
      obg_of rfl (obt_one (.pointer (some ⟨w.heap.size, 0, none⟩)) rfl rfl (srt_b 1 rfl) (fun ρ w2 hS hx => exec_field0S rfl hx)),
      obg_of rfl (obt_one (.int .i64 R) rfl rfl (srt_j 1 rfl (by kernel_rfl) rfl) (fun ρ w2 hS hx => exec_loadS0 rfl hx hS.1.1)),
      obg_of rfl (obt_any rfl (fun a w2 hS hs hd => ⟨.func (.func 125) #[] #[.pointer (some ⟨w.heap.size, 0, none⟩)], exec_fun1 rfl (hs _ _ (srt_b 1 rfl)), rfl⟩)),
      obg_of rfl (obt_call hst [.int .i64 R, .func (.func 125) #[] #[.pointer (some ⟨w.heap.size, 0, none⟩)]] rfl Try.func124 (by kernel_rfl) (by kernel_rfl) rfl ⟨(srt_j 2 rfl (by kernel_rfl) rfl), (srt_j 3 rfl (by kernel_rfl) rfl), trivial⟩ (fun w2 hS => (collectZ_any 125 C #[.pointer (some ⟨w.heap.size, 0, none⟩)] R w2 (fun _ _ => rfl) (by omega) (fun k W hk hb => zeroRow_any k C w.heap.size R W (sizeAt_below hS.1.1 hb) (by omega))).mono fun e w3 ⟨u, he, ho, hh⟩ => ⟨_, he, ⟨⟨sizeAt_below hS.1.1 hh, gridAt_below hS.1.2.1 hh, Nat.le_trans hS.1.2.2 hh.size⟩, hS.2.trans (hh.mono hS.2.size)⟩, hh, ownMat_mono ho hS.1.2.2 (Nat.le_refl _)⟩)),
      obg_of rfl (obt_any rfl (fun a w2 hS hs hd => by
      obtain ⟨x, hx⟩ : ∃ x, x = a.tmps.getD 7 undef := ⟨_, rfl⟩
      have h7 : OwnMat w2 (w.heap.size + 2) w2.heap.size x (mkM R C fun _ _ => 0) := by rw [hx]; exact hd 4 7 rfl (by kernel_rfl)
      exact ⟨gridV R C x, exec_buildGrid rfl (hs _ _ (srt_j 0 rfl (by kernel_rfl) rfl)) (show a.eval (.tmp 7) = x from hx.symm) (ownMat_slice h7), x, rfl, h7⟩)),
      trivial⟩
  case fin =>
    intro a' w' h1 h2 h3 hS h4 K hK
    have ha := frame_ov rfl h1 h2 h3 [(3, .agg #[.int .i64 R, .int .i64 C]), (4, .pointer (some ⟨w.heap.size, 0, none⟩)), (5, .int .i64 R), (6, .func (.func 125) #[] #[.pointer (some ⟨w.heap.size, 0, none⟩)]), (7, a'.tmps.getD 7 undef), (8, a'.tmps.getD 8 undef)] (by kernel_rfl) ⟨h4 0 3 rfl (by decide), h4 1 4 rfl (by decide), h4 2 5 rfl (by decide), h4 3 6 rfl (by decide), rfl, rfl, trivial⟩
    dsimp only [ov, List.lookup, Nat.reduceBEq, Nat.reduceAdd] at ha
    obtain ⟨x, hx8, ho⟩ := h4 5 8 rfl (by decide)
    obtain ⟨a9, n9, c9, hxs⟩ := ownMat_slice ho
    obtain ⟨w9, hrun, hg9, hgr, hsz⟩ := exec_storeGr (w := w') (ρ := a'.eval) (o := { dst := none, op := .store 75 (.tmp 2) (.tmp 8), type := 0, pos := "", after := #[], guard := none }) (R : Int) (C : Int) x rfl (h3 2 (by kernel_rfl)) hx8 hS.1.2.1 (by rw [hxs]; rfl)
    refine run_skip (w' := w9) hrun (hK undef _ ?_)
    show Exit.then _ _ Exit.normal a' _
    have HO := hide (ownMat_mono (lo' := w.heap.size) (hi' := w9.heap.size) (ownMat_within (lo' := w.heap.size + 1) (hi' := w.heap.size + 2) ho (within_grown hgr (fun k e => by cases e; omega)) (.inr (Nat.le_refl _))) (by omega) (by omega))
    have HG9 := hide hg9
    have HB9 := hide (hS.2.trans (grown_below hgr (fun k e => by cases e; omega) hS.2.size))
    clear hrun hg9 hgr hsz ho hS hxs a9 n9 c9
    rw [ha]
    generalize a'.tmps.getD 7 undef = u7
    generalize a'.tmps.getD 8 undef = u8
    clear ha h1 h2 h3 h4 hst hK
    clear hx8
    go_wp2
    obtain ⟨q0, q1, q2⟩ := gridAt_cells HG9.out
    refine bodyPost_ret (v := gridV R C x) ?_ rfl ⟨x, rfl, HO.out, HB9.out⟩
    simp [results, Try.results108, go_sem, q0, q1, q2, gridV]
end Go.Proofs.Ytiajdmoppgpgnaa
/-
  GhostSize of both.
-/
namespace Go.Proofs.Ytiajdmoppgpgnaa
open Go.RowKit Go.Katz
set_option maxRecDepth 100000

def gzR (l : List (Int × Int)) : Int := if dirsB l = true then 1 + upI l else 0
def gzC (l : List (Int × Int)) : Int := if dirsB l = true then 1 + overI l else 0
set_option maxHeartbeats 2000000 in
theorem implGhostSize_any (v : Value) (l : List (Int × Int)) (w : World) (hin : DrsC w v l) :
    Calls Try.prog 36 #[v] w fun e w' => e = .returned (.tuple #[.int .i64 (gzR l), .int .i64 (gzC l)]) ∧ Below w.heap.size w w' := by
  have HIN := hide hin
  obtain ⟨a, c, rfl, hlc, -⟩ := hin
  have HOK := hide fun w h => implDirsOk_any (.slice a l.length c) l w h
  cases hd : dirsB l with
  | false =>
    rw [hd] at HOK
    have HD := hide hd
    clear hd hlc
    go_enter Try.func36, Try.ntmps36
    go_wp2_with ((with_reducible refine (HOK.out _ HIN.out).mono ?_); rintro e w1 ⟨rfl, hb⟩; have HB := hide hb; clear hb)
    go_ret2
    exact ⟨by rw [gzR, gzC, HD.out]; rfl, HB.out⟩
  | true =>
    rw [hd] at HOK
    have HD := hide hd
    have HG := hide fun w h => ghostSize_any (.slice a l.length c) l w h (dirsB_near hd) (dirsB_len hd).2
    have HR : Hid (gzR l = 1 + upI l ∧ gzC l = 1 + overI l) := hide ⟨if_pos hd, if_pos hd⟩
    obtain ⟨U, hU⟩ : ∃ U, U = 1 + upI l := ⟨_, rfl⟩
    obtain ⟨V, hV⟩ : ∃ V, V = 1 + overI l := ⟨_, rfl⟩
    rw [← hU, ← hV] at HG HR
    clear hd hlc hU hV
    rw [HR.out.1, HR.out.2]
    go_enter Try.func36, Try.ntmps36
    go_wp2_with (first | ((with_reducible refine (HOK.out _ HIN.out).mono ?_); rintro e w1 ⟨rfl, hb⟩; have HB := hide hb; clear hb) | ((with_reducible refine (HG.out _ (drsC_in (drsC_below HIN.out HB.out))).mono ?_); rintro e w2 ⟨rfl, hb⟩; have HB2 := hide (HB.out.trans (hb.mono HB.out.size)); have hbx : Below w2.heap.size w2 (w2.alloc (.cells #[.int .i64 U, .int .i64 V] 73)) := (Below.refl _ _).alloc (Nat.le_refl _) _; have HB3 := hide (HB2.out.trans (hbx.mono HB2.out.size)); clear hb hbx))
    go_quiet (fail)
    go_wp2
    go_ret2
    exact ⟨rfl, below_draws HB3.out _⟩

set_option maxHeartbeats 2000000 in
theorem specGhostSize_any (v : Value) (l : List (Int × Int)) (w : World) (hin : DrsC w v l) :
    Calls Try.prog 35 #[v] w fun e w' => e = .returned (.tuple #[.int .i64 (gzR l), .int .i64 (gzC l)]) ∧ Below w.heap.size w w' := by
  have HIN := hide hin
  obtain ⟨a, c, rfl, hlc, hm, hp⟩ := hin
  have HOK := hide fun w h => specDirsOk_any (.slice a l.length c) l w h
  have HP := hide hp
  unfold maxLen at hm
  have hml : l.length ≤ 2 ^ 63 - 1 := by omega
  cases hd : dirsB l with
  | false =>
    rw [hd] at HOK
    have HD := hide hd
    clear hd hlc
    go_enter Try.func35, Try.ntmps35
    go_wp2_with ((with_reducible refine (HOK.out _ HIN.out).mono ?_); rintro e w1 ⟨rfl, hb⟩; have HB := hide hb; clear hb)
    go_ret2
    exact ⟨by rw [gzR, gzC, HD.out]; rfl, HB.out⟩
  | true =>
    rw [hd] at HOK
    have HD := hide hd
    have HR : Hid (gzR l = 1 + upI l ∧ gzC l = 1 + overI l) := hide ⟨if_pos hd, if_pos hd⟩
    rw [HR.out.1, HR.out.2]
    have HL := hide (dirsB_near hd)
    have h4 := (dirsB_len hd).2
    obtain ⟨n, hn⟩ : ∃ n, n = l.length := ⟨_, rfl⟩
    have HN := hide hn
    rw [← hn] at HOK HIN hml h4 ⊢
    clear hd hlc hn hp
    go_enter Try.func35, Try.ntmps35
    go_wp2_with ((with_reducible refine (HOK.out _ HIN.out).mono ?_); rintro e w1 ⟨rfl, hb⟩; have HB := hide hb; clear hb)
    go_loopw [4, 5, 13] (fun u s i w' => ∃ k : Nat, k ≤ n ∧ i = .int .i64 k ∧ u = .int .i64 (1 + upI (l.take k)) ∧ s = .int .i64 (1 + overI (l.take k)) ∧ Below w.heap.size w w') (fun _ _ i _ => n - (intOf i).toNat)
    case atStart => exact ⟨0, Nat.zero_le _, rfl, rfl, rfl, HB.out⟩
    case round =>
      obtain ⟨k, hk, rfl, rfl, rfl, hb⟩ := hrel
      have HB2 := hide hb
      clear hb
      by_cases hlt : k < n
      · have hltI : (k : Int) < n := by omega
        have hkl : k < l.length := by rw [← HN.out]; exact hlt
        obtain ⟨g, o, rfl, hg, hcl⟩ := HP.out.resolve_left (by rw [← HN.out]; omega)
        have hc := drC_below (hcl k hkl) HB2.out hg
        have HTK : Hid (1 + upI (l.take (k + 1)) = 1 + upI (l.take k) + tallD l[k] ∧ 1 + overI (l.take (k + 1)) = 1 + overI (l.take k) + l[k].1) := hide (by
          rw [List.take_succ_eq_append_getElem hkl, upI_snoc, overI_snoc]; omega)
        obtain ⟨n1, n2, n3, n4⟩ := HL.out _ (List.getElem_mem hkl)
        have hr := up_range (l.take k) fun e he => HL.out e (List.mem_of_mem_take he)
        rw [List.length_take] at hr
        obtain ⟨r1, r2, r3, r4⟩ := hr
        obtain ⟨U, hU⟩ : ∃ U, U = 1 + upI (l.take k) := ⟨_, rfl⟩
        obtain ⟨V, hV⟩ : ∃ V, V = 1 + overI (l.take k) := ⟨_, rfl⟩
        have hUb : 0 ≤ U ∧ U ≤ 100 := by omega
        have hVb : 0 ≤ V ∧ V ≤ 100 := by omega
        rw [← hU, ← hV] at HTK ⊢
        obtain ⟨d, hd⟩ : ∃ d, d = l[k] := ⟨_, rfl⟩
        rw [← hd] at hc HTK n1 n2 n3 n4
        clear hcl hU hV hd r1 r2 r3 r4
        obtain ⟨dx, dy⟩ := d
        obtain ⟨c0, c1⟩ := hc
        simp only at c0 c1 n1 n2 n3 n4
        have HBX : Hid (Below wr.heap.size wr (wr.alloc (.cells #[.int .i64 dx, .int .i64 dy] 36))) := hide ((Below.refl _ _).alloc (Nat.le_refl _) _)
        have HB3 := hide (HB2.out.trans (HBX.out.mono HB2.out.size))
        have l1 : IntKind.i64.wrap (-dy) = -dy := IntWalk.i64_in _ (by omega)
        have l3 : IntKind.i64.wrap (V + dx) = V + dx := IntWalk.i64_in _ (by omega)
        have l4 : IntKind.i64.wrap (U + dy) = U + dy := IntWalk.i64_in _ (by omega)
        have l5 : IntKind.i64.wrap (U + -dy) = U + -dy := IntWalk.i64_in _ (by omega)
        have HT : Hid (tallD (dx, dy) = max dy (-dy)) := hide (tallD_max (dx, dy)).symm
        go_wp2
        all_goals
          go_roundw
          case rel => exact ⟨k + 1, by omega, by go_num, by rw [HTK.out.1, HT.out, show (if dy < -dy then -dy else dy) = max dy (-dy) by split <;> omega], by rw [HTK.out.2], HB3.out⟩
          case measure => simp [intOf]; omega
      · obtain rfl : k = n := by omega
        have HE : Hid (l.take k = l) := hide (List.take_of_length_le (by rw [HN.out]; exact Nat.le_refl _))
        rw [HE.out]
        go_wp2
        go_ret2
        exact ⟨rfl, HB2.out⟩
end Go.Proofs.Ytiajdmoppgpgnaa
/-
  A size that is that of an image; a rectangle within another one.
-/
namespace Go.Proofs.Ytiajdmoppgpgnaa
open Go.RowKit Go.Katz
set_option maxRecDepth 100000

set_option maxHeartbeats 1000000 in
theorem sizeok_any (r c : Int) (w : World) :
    Calls Try.prog 77 #[.agg #[.int .i64 r, .int .i64 c]] w fun e w' => e = .returned (.bool (sizeOk r c)) ∧ Below w.heap.size w w' := by
  have HS : Hid (sizeOk r c = (decide (1 ≤ r ∧ r ≤ 5) && decide (1 ≤ c ∧ c ≤ 5))) := hide rfl
  by_cases h1 : 1 ≤ r ∧ r ≤ 5
  · have H1 := hide (decide_eq_true h1)
    clear h1
    go_enter Try.func77, Try.ntmps77
    go_wp2_with (first | (with_reducible refine (sideOk_any r _).mono ?_; rw [H1.out]; rintro e w' ⟨rfl, rfl⟩) | (with_reducible refine (sideOk_any c _).mono ?_; rintro e w' ⟨rfl, rfl⟩))
    go_ret
    exact ⟨ret_bool (by rw [HS.out, H1.out]; simp), (Below.refl _ _).alloc (Nat.le_refl _) _⟩
  · have H1 := hide (decide_eq_false h1)
    clear h1
    go_enter Try.func77, Try.ntmps77
    go_wp2_with (first | (with_reducible refine (sideOk_any r _).mono ?_; rw [H1.out]; rintro e w' ⟨rfl, rfl⟩))
    go_ret
    exact ⟨ret_bool (by rw [HS.out, H1.out]; rfl), (Below.refl _ _).alloc (Nat.le_refl _) _⟩

def holdsB (a b c d y x : Int) : Bool := decide (0 ≤ y) && decide (y ≤ a - c) && decide (0 ≤ x) && decide (x ≤ b - d)
set_option maxHeartbeats 2000000 in
theorem holds_any (a b c d y x : Int) (w : World) (ha : 0 ≤ a ∧ a ≤ 100) (hb : 0 ≤ b ∧ b ≤ 100) (hc : 0 ≤ c ∧ c ≤ 100) (hd : 0 ≤ d ∧ d ≤ 100) :
    Calls Try.prog 79 #[.agg #[.int .i64 a, .int .i64 b], .agg #[.int .i64 c, .int .i64 d], .int .i64 y, .int .i64 x] w fun e w' => e = .returned (.bool (holdsB a b c d y x)) ∧ Below w.heap.size w w' := by
  have l1 : IntKind.i64.wrap (a - c) = a - c := IntWalk.i64_in _ (by omega)
  have l2 : IntKind.i64.wrap (b - d) = b - d := IntWalk.i64_in _ (by omega)
  have HB : Hid (Below w.heap.size w ((w.alloc (.cells #[.int .i64 a, .int .i64 b] 73)).alloc (.cells #[.int .i64 c, .int .i64 d] 73))) := hide (((Below.refl _ _).alloc (Nat.le_refl _) _).alloc (by simp) _)
  clear ha hb hc hd
  by_cases h1 : 0 ≤ y
  · by_cases h2 : y ≤ a - c
    · by_cases h3 : 0 ≤ x
      · have HE : Hid (holdsB a b c d y x = decide (x ≤ b - d)) := hide (by simp [holdsB, h1, h2, h3])
        rw [HE.out]
        go_enter Try.func79, Try.ntmps79
        go_wp2
        go_ret
        exact ⟨rfl, HB.out⟩
      · have HE : Hid (holdsB a b c d y x = false) := hide (by simp [holdsB, h3])
        rw [HE.out]
        go_enter Try.func79, Try.ntmps79
        go_wp2
        go_ret
        exact ⟨rfl, HB.out⟩
    · have HE : Hid (holdsB a b c d y x = false) := hide (by simp [holdsB, h2])
      rw [HE.out]
      go_enter Try.func79, Try.ntmps79
      go_wp2
      go_ret
      exact ⟨rfl, HB.out⟩
  · have HE : Hid (holdsB a b c d y x = false) := hide (by simp [holdsB, h1])
    rw [HE.out]
    go_enter Try.func79, Try.ntmps79
    go_wp2
    go_ret
    exact ⟨rfl, HB.out⟩

/-- The rows are fewer than the ghost's, or the columns. -/
def detB (rows cols : Int) (l : List (Int × Int)) : Bool := sizeOk rows cols && dirsB l && (decide (rows < gzR l) || decide (cols < gzC l))
set_option maxHeartbeats 2000000 in
theorem specDet_any (rows cols : Int) (v : Value) (l : List (Int × Int)) (w : World) (hin : DrsC w v l) :
    Calls Try.prog 37 #[.int .i64 rows, .int .i64 cols, v] w fun e w' => e = .returned (.bool (detB rows cols l)) ∧ Below w.heap.size w w' := by
  have HIN := hide hin
  have HG := hide fun w h => specGhostSize_any v l w h
  have hgz : Hid (dirsB l = decide (0 < gzR l)) := hide (by
    unfold gzR
    cases h : dirsB l with
    | false => simp
    | true =>
      have := up_range l (dirsB_near h)
      rw [if_pos rfl, decide_eq_true (by omega)])
  have HE : Hid (detB rows cols l = (sizeOk rows cols && decide (0 < gzR l) && (decide (rows < gzR l) || decide (cols < gzC l)))) := hide (by rw [detB, hgz.out])
  obtain ⟨U, hU⟩ : ∃ U, U = gzR l := ⟨_, rfl⟩
  obtain ⟨V, hV⟩ : ∃ V, V = gzC l := ⟨_, rfl⟩
  rw [← hU, ← hV] at HG HE
  rw [HE.out]
  clear hin hU hV hgz HE
  cases hs : sizeOk rows cols with
  | false =>
    have HS := hide hs
    clear hs
    go_enter Try.func37, Try.ntmps37
    go_wp2_with (first | ((with_reducible refine (HG.out _ HIN.out).mono ?_); rintro e w1 ⟨rfl, hb⟩; have HB := hide hb; clear hb) | (with_reducible refine (l03Size_any rows cols _).mono ?_; rw [HS.out]; rintro e w' ⟨rfl, rfl⟩))
    go_ret
    exact ⟨rfl, HB.out⟩
  | true =>
    have HS := hide hs
    clear hs
    by_cases h1 : 0 < U
    · have H1 := hide (decide_eq_true h1)
      by_cases h2 : rows < U
      · have H2 := hide (decide_eq_true h2)
        go_enter Try.func37, Try.ntmps37
        go_wp2_with (first | ((with_reducible refine (HG.out _ HIN.out).mono ?_); rintro e w1 ⟨rfl, hb⟩; have HB := hide hb; clear hb) | (with_reducible refine (l03Size_any rows cols _).mono ?_; rw [HS.out]; rintro e w' ⟨rfl, rfl⟩))
        go_ret
        exact ⟨ret_bool (by rw [H1.out, H2.out]; rfl), HB.out⟩
      · have H2 := hide (decide_eq_false h2)
        go_enter Try.func37, Try.ntmps37
        go_wp2_with (first | ((with_reducible refine (HG.out _ HIN.out).mono ?_); rintro e w1 ⟨rfl, hb⟩; have HB := hide hb; clear hb) | (with_reducible refine (l03Size_any rows cols _).mono ?_; rw [HS.out]; rintro e w' ⟨rfl, rfl⟩))
        go_ret
        exact ⟨ret_bool (by rw [H1.out, H2.out]; rfl), HB.out⟩
    · have H1 := hide (decide_eq_false h1)
      go_enter Try.func37, Try.ntmps37
      go_wp2_with (first | ((with_reducible refine (HG.out _ HIN.out).mono ?_); rintro e w1 ⟨rfl, hb⟩; have HB := hide hb; clear hb) | (with_reducible refine (l03Size_any rows cols _).mono ?_; rw [HS.out]; rintro e w' ⟨rfl, rfl⟩))
      go_ret
      exact ⟨ret_bool (by rw [H1.out]; rfl), HB.out⟩
end Go.Proofs.Ytiajdmoppgpgnaa
/-
  SumsOk, of the model and of the program.
-/
namespace Go.Proofs.Ytiajdmoppgpgnaa
open Go.RowKit

def badB (most x : Int) : Bool := decide (x < 0) || decide (most < x)
theorem any_no {p : Int → Bool} {r : List Int} (h : ∀ i, (hi : i < r.length) → p r[i] = false) : r.any p = false := by
  rw [Bool.eq_false_iff]; intro e
  rw [List.any_eq_true] at e
  obtain ⟨x, hx, hp⟩ := e
  obtain ⟨i, hi, rfl⟩ := List.getElem_of_mem hx
  rw [h i hi] at hp; cases hp
theorem any_yes {p : Int → Bool} {r : List Int} (i : Nat) (hi : i < r.length) (h : p r[i] = true) : r.any p = true := List.any_eq_true.2 ⟨_, List.getElem_mem hi, h⟩

set_option maxHeartbeats 400000 in
theorem bad_any (x most : Int) (g : Nat) (w : World) (hc : w.cell? ⟨g, 0, none⟩ = some (.int .i64 most)) :
    Calls Try.prog 120 #[.int .i64 x, .pointer (some ⟨g, 0, none⟩)] w fun e w' => e = .returned (.bool (badB most x)) ∧ w = w' := by
  have HB : Hid (badB most x = (decide (x < 0) || decide (most < x))) := hide rfl
  by_cases h1 : x < 0
  · go_enter Try.func120, Try.ntmps120
    go_wp2
    go_ret
    exact ⟨ret_bool (by rw [HB.out]; simp [h1]), rfl⟩
  · go_enter Try.func120, Try.ntmps120
    go_wp2
    go_ret
    exact ⟨ret_bool (by rw [HB.out]; simp; omega), rfl⟩

def IdxRes (b : Bool) (w : World) (e : Ending) (w' : World) : Prop := ∃ i : Int, e = .returned (.int .i64 i) ∧ -1 ≤ i ∧ b = decide (0 ≤ i) ∧ w = w'
set_option maxHeartbeats 1000000 in
theorem indexFunc_any (v : Value) (r : List Int) (most : Int) (q : Nat) (w : World) (hin : InRow w v r) (hq : w.cell? ⟨q, 0, none⟩ = some (.int .i64 most)) :
    Calls Try.prog 127 #[v, .func (.func 120) #[] #[.pointer (some ⟨q, 0, none⟩)]] w (IdxRes (r.any (badB most)) w) := by
  obtain ⟨a, c, rfl, hm, hp⟩ := hin
  unfold maxLen at hm
  by_cases h0 : r.length = 0
  · have hr : r = [] := List.eq_nil_of_length_eq_zero h0
    subst hr
    clear hp h0 hm
    go_enter Try.func127, Try.ntmps127
    go_wp2
    go_loop [8] (fun i => i = .int .i64 0) (fun _ => 0)
    case atStart => rfl
    case round =>
      obtain rfl := hrel
      go_wp2
      go_ret
      exact ⟨-1, rfl, by omega, rfl, rfl⟩
  · obtain ⟨g, o, rfl, hg, hc⟩ := hp.resolve_left h0
    have HC := hide hc
    obtain ⟨n, hn⟩ : ∃ n, n = r.length := ⟨_, rfl⟩
    have HN := hide hn
    rw [← hn] at hm ⊢
    clear hp hc h0 hn
    go_enter Try.func127, Try.ntmps127
    go_wp2
    go_loop [8] (fun i => ∃ k : Nat, k ≤ n ∧ i = .int .i64 k ∧ ∀ t, (h : t < r.length) → t < k → badB most r[t] = false) (fun i => n - (intOf i).toNat)
    case atStart => exact ⟨0, Nat.zero_le _, rfl, fun t _ h => absurd h (Nat.not_lt_zero _)⟩
    case round =>
      obtain ⟨k, hk, rfl, hall⟩ := hrel
      have HA := hide hall
      clear hall
      by_cases hlt : k < n
      · have hk' : k < r.length := by rw [← HN.out]; exact hlt
        have hx := HC.out k hk'
        have HNO := hide (fun h => any_yes (p := badB most) k hk' h)
        have HST : Hid (badB most r[k] = false → ∀ t, (h : t < r.length) → t < k + 1 → badB most r[t] = false) := hide fun h t h1 ht => by
          by_cases e : t = k
          · subst e; exact h
          · exact HA.out t h1 (by omega)
        obtain ⟨x, hxx⟩ : ∃ x, x = r[k] := ⟨_, rfl⟩
        rw [← hxx] at hx HNO HST
        clear hxx
        cases e : badB most x with
        | true =>
          have HE := hide e
          have HF := hide (HNO.out e)
          clear e
          go_wp2_with (go_at_call 120; refine (bad_any _ most q _ hq).mono ?_; rw [HE.out]; rintro e w9 ⟨rfl, rfl⟩)
          go_ret
          exact ⟨k, rfl, by omega, by rw [HF.out]; simp, rfl⟩
        | false =>
          have HE := hide e
          have HST := hide (HST.out e)
          clear e
          go_wp2_with (go_at_call 120; refine (bad_any _ most q _ hq).mono ?_; rw [HE.out]; rintro e w9 ⟨rfl, rfl⟩)
          go_round
          case rel => exact ⟨k + 1, by omega, by go_num, HST.out⟩
          case measure => simp [intOf]; omega
      · have HY := hide (any_no (p := badB most) fun t h => HA.out t h (by have := HN.out; omega))
        go_wp2
        go_ret
        exact ⟨-1, rfl, by omega, by rw [HY.out]; rfl, rfl⟩

set_option maxHeartbeats 400000 in
theorem containsFunc_any (v : Value) (r : List Int) (most : Int) (q : Nat) (w : World) (hin : InRow w v r) (hq : w.cell? ⟨q, 0, none⟩ = some (.int .i64 most)) :
    Calls Try.prog 119 #[v, .func (.func 120) #[] #[.pointer (some ⟨q, 0, none⟩)]] w fun e w' => e = .returned (.bool (r.any (badB most))) ∧ w = w' := by
  have HI := hide hin; have HQ := hide hq
  clear hin hq
  go_enter Try.func119, Try.ntmps119
  go_wp2_with fail
  refine (indexFunc_any v r most q _ HI.out HQ.out).mono ?_
  rintro e w1 ⟨i, rfl, hi, hb, rfl⟩
  have HB := hide hb
  clear hb
  by_cases h : 0 ≤ i
  · go_wp2
    go_ret
    exact ⟨ret_bool (by rw [HB.out]; simp [h]), rfl⟩
  · go_wp2
    go_ret
    exact ⟨ret_bool (by rw [HB.out]), rfl⟩

theorem sumsInRange_any (v : Value) (r : List Int) (most : Int) (w : World) (hin : InRow w v r) :
    Calls Try.prog 95 #[v, .int .i64 most] w fun e w' => e = .returned (.bool (!r.any (badB most))) ∧ Below w.heap.size w w' := by
  have HB := hide ((Below.refl w.heap.size w).alloc (Nat.le_refl _) (.cells #[.int .i64 most] 3))
  have HI := hide (inRow_below hin HB.out)
  have HQ := hide (show (w.alloc (.cells #[.int .i64 most] 3)).cell? ⟨w.heap.size, 0, none⟩ = some (.int .i64 most) by simp [World.cell?_alloc_new])
  clear hin
  go_enter Try.func95, Try.ntmps95
  go_wp2_with fail
  refine (containsFunc_any v r most w.heap.size _ HI.out HQ.out).mono ?_
  rintro e w1 ⟨rfl, rfl⟩
  go_wp2
  go_ret
  exact ⟨rfl, HB.out⟩

theorem sum_snoc (r : List Int) (k : Nat) (h : k < r.length) : (r.take (k + 1)).sum = (r.take k).sum + r[k] := by
  rw [List.take_succ_eq_append_getElem h, List.sum_append]; simp
def SmallL (r : List Int) : Prop := r.length ≤ 5 ∧ ∀ i, (h : i < r.length) → 0 ≤ r[i] ∧ r[i] ≤ 5
theorem sum_small {r : List Int} (h : SmallL r) : ∀ k, k ≤ r.length → 0 ≤ (r.take k).sum ∧ (r.take k).sum ≤ 5 * k := by
  intro k
  induction k with
  | zero => intro _; simp
  | succ k ih =>
    intro hk
    have := ih (by omega)
    have := h.2 k (by omega)
    rw [sum_snoc r k (by omega)]; omega
set_option maxHeartbeats 400000 in
theorem totalOf_any (v : Value) (r : List Int) (w : World) (hin : InRow w v r) (hs : SmallL r) :
    Calls Try.prog 96 #[v] w fun e w' => e = .returned (.int .i64 r.sum) ∧ w = w' := by
  obtain ⟨a, c, rfl, hm, hp⟩ := hin
  unfold maxLen at hm
  have HS := hide hs
  by_cases h0 : r.length = 0
  · have hr : r = [] := List.eq_nil_of_length_eq_zero h0
    subst hr
    clear hp h0 hm hs
    go_enter Try.func96, Try.ntmps96
    go_wp2
    go_loop [3, 8] (fun s i => s = .int .i64 0 ∧ i = .int .i64 0) (fun _ _ => 0)
    case atStart => exact ⟨rfl, rfl⟩
    case round =>
      obtain ⟨rfl, rfl⟩ := hrel
      go_wp2
      go_ret
      exact ⟨rfl, rfl⟩
  · obtain ⟨g, o, rfl, hg, hc⟩ := hp.resolve_left h0
    have HC := hide hc
    have h5 := hs.1
    obtain ⟨n, hn⟩ : ∃ n, n = r.length := ⟨_, rfl⟩
    have HN := hide hn
    rw [← hn] at hm h5 ⊢
    clear hp hc h0 hn hs
    go_enter Try.func96, Try.ntmps96
    go_wp2
    go_loop [3, 8] (fun s i => ∃ k : Nat, k ≤ n ∧ i = .int .i64 k ∧ s = .int .i64 (r.take k).sum) (fun _ i => n - (intOf i).toNat)
    case atStart => exact ⟨0, Nat.zero_le _, rfl, rfl⟩
    case round =>
      obtain ⟨k, hk, rfl, rfl⟩ := hrel
      obtain ⟨b1, b2⟩ := sum_small HS.out k (by rw [← HN.out]; exact hk)
      by_cases hlt : k < n
      · have hk' : k < r.length := by rw [← HN.out]; exact hlt
        have hx := HC.out k hk'
        have HST := hide (sum_snoc r k hk')
        obtain ⟨b3, b4⟩ := HS.out.2 k hk'
        obtain ⟨x, hxx⟩ : ∃ x, x = r[k] := ⟨_, rfl⟩
        obtain ⟨S, hSS⟩ : ∃ S, S = (r.take k).sum := ⟨_, rfl⟩
        rw [← hxx] at hx HST b3 b4
        rw [← hSS] at HST b1 b2 ⊢
        clear hxx hSS
        go_wp2
        go_round
        case rel => exact ⟨k + 1, by omega, by go_num, by rw [HST.out]⟩
        case measure => simp [intOf]; omega
      · have HE : Hid ((r.take k).sum = r.sum) := hide (by rw [List.take_of_length_le (by have := HN.out; omega)])
        rw [HE.out]
        clear b1 b2
        go_wp2
        go_ret
        exact ⟨rfl, rfl⟩

/-- What SumsOk returns. -/
def sumsOk (r c : List Int) : Bool := sizeOk r.length c.length && !r.any (badB c.length) && !c.any (badB r.length) && r.sum == c.sum
theorem small_of {r : List Int} {m : Int} (hl : r.length ≤ 5) (hm : m ≤ 5) (h : r.any (badB m) = false) : SmallL r := by
  refine ⟨hl, fun i hi => ?_⟩
  rw [List.any_eq_false] at h
  have := h _ (List.getElem_mem hi)
  simp only [badB, Bool.or_eq_true, decide_eq_true_eq, not_or] at this
  omega
set_option maxHeartbeats 1000000 in
theorem implSumsOk_any (va vb : Value) (r c : List Int) (w : World) (ha : InRow w va r) (hb : InRow w vb c) :
    Calls Try.prog 51 #[va, vb] w fun e w' => e = .returned (.bool (sumsOk r c)) ∧ Below w.heap.size w w' := by
  obtain ⟨a, ca, rfl, hma, hpa⟩ := ha
  obtain ⟨b, cb, rfl, hmb, hpb⟩ := hb
  have HA : Hid (InRow w (.slice a r.length ca) r) := hide ⟨a, ca, rfl, hma, hpa⟩
  have HB : Hid (InRow w (.slice b c.length cb) c) := hide ⟨b, cb, rfl, hmb, hpb⟩
  clear hpa hpb
  unfold maxLen at hma hmb
  obtain ⟨R, hR⟩ : ∃ R, R = r.length := ⟨_, rfl⟩
  obtain ⟨C, hC⟩ : ∃ C, C = c.length := ⟨_, rfl⟩
  have HRR := hide hR; have HCC := hide hC
  have HS : Hid (sumsOk r c = (decide ((1 : Int) ≤ R ∧ (R : Int) ≤ 5) && decide ((1 : Int) ≤ C ∧ (C : Int) ≤ 5) && !r.any (badB C) && !c.any (badB R) && r.sum == c.sum)) := hide (by rw [sumsOk, sizeOk, hR, hC])
  rw [← hR] at HA hma ⊢
  rw [← hC] at HB hmb ⊢
  rw [HS.out]
  by_cases h1 : 1 ≤ R ∧ R ≤ 5
  · have H1 : Hid (decide ((1 : Int) ≤ R ∧ (R : Int) ≤ 5) = true) := hide (decide_eq_true (by omega))
    rw [H1.out]
    by_cases h2 : 1 ≤ C ∧ C ≤ 5
    · have H2 : Hid (decide ((1 : Int) ≤ C ∧ (C : Int) ≤ 5) = true) := hide (decide_eq_true (by omega))
      rw [H2.out]
      cases h3 : r.any (badB C) with
      | true =>
        have H3 := hide h3
        clear hR hC h3
        go_enter Try.func51, Try.ntmps51
        go_wp2_with (first | (with_reducible refine (sideOk_any (R : Int) _).mono ?_; rw [H1.out]; rintro e w' ⟨rfl, rfl⟩) | (with_reducible refine (sideOk_any (C : Int) _).mono ?_; rw [H2.out]; rintro e w' ⟨rfl, rfl⟩) | ((with_reducible refine (sumsInRange_any _ r (C : Int) _ HA.out).mono ?_); rw [H3.out]; rintro e w1 ⟨rfl, b1⟩; have B1 := hide b1; clear b1))
        go_ret
        exact ⟨rfl, B1.out⟩
      | false =>
        have HSA := hide (small_of (m := C) (by rw [← hR]; exact h1.2) (by omega) h3)
        have H3 := hide h3
        cases h4 : c.any (badB R) with
        | true =>
          have H4 := hide h4
          clear hR hC h3 h4
          go_enter Try.func51, Try.ntmps51
          go_wp2_with (first | (with_reducible refine (sideOk_any (R : Int) _).mono ?_; rw [H1.out]; rintro e w' ⟨rfl, rfl⟩) | (with_reducible refine (sideOk_any (C : Int) _).mono ?_; rw [H2.out]; rintro e w' ⟨rfl, rfl⟩) | ((with_reducible refine (sumsInRange_any _ r (C : Int) _ HA.out).mono ?_); rw [H3.out]; rintro e w1 ⟨rfl, b1⟩; have B1 := hide b1; clear b1) | ((with_reducible refine (sumsInRange_any _ c (R : Int) _ (inRow_below HB.out B1.out)).mono ?_); rw [H4.out]; rintro e w2 ⟨rfl, b2⟩; have B2 := hide (B1.out.trans (b2.mono B1.out.size)); clear b2))
          go_ret
          exact ⟨rfl, B2.out⟩
        | false =>
          have HSB := hide (small_of (m := R) (by rw [← hC]; exact h2.2) (by omega) h4)
          have H4 := hide h4
          clear hR hC h3 h4
          obtain ⟨p1, p2⟩ := sum_small HSA.out r.length (Nat.le_refl _)
          obtain ⟨q1, q2⟩ := sum_small HSB.out c.length (Nat.le_refl _)
          rw [List.take_length] at p1 p2 q1 q2
          have TA := fun w hw => totalOf_any (.slice a R ca) r w hw HSA.out
          have TB := fun w hw => totalOf_any (.slice b C cb) c w hw HSB.out
          obtain ⟨X, hX⟩ : ∃ X, X = r.sum := ⟨_, rfl⟩
          obtain ⟨Y, hY⟩ : ∃ Y, Y = c.sum := ⟨_, rfl⟩
          rw [← hX] at TA p1 p2 ⊢
          rw [← hY] at TB q1 q2 ⊢
          have TA := hide TA; have TB := hide TB
          clear hX hY
          go_enter Try.func51, Try.ntmps51
          go_wp2_with (first | (with_reducible refine (sideOk_any (R : Int) _).mono ?_; rw [H1.out]; rintro e w' ⟨rfl, rfl⟩) | (with_reducible refine (sideOk_any (C : Int) _).mono ?_; rw [H2.out]; rintro e w' ⟨rfl, rfl⟩) | ((with_reducible refine (sumsInRange_any _ r (C : Int) _ HA.out).mono ?_); rw [H3.out]; rintro e w1 ⟨rfl, b1⟩; have B1 := hide b1; clear b1) | ((with_reducible refine (sumsInRange_any _ c (R : Int) _ (inRow_below HB.out B1.out)).mono ?_); rw [H4.out]; rintro e w2 ⟨rfl, b2⟩; have B2 := hide (B1.out.trans (b2.mono B1.out.size)); clear b2) | ((with_reducible refine (TA.out _ (inRow_below HA.out B2.out)).mono ?_); rintro e w' ⟨rfl, rfl⟩) | ((with_reducible refine (TB.out _ (inRow_below HB.out B2.out)).mono ?_); rintro e w' ⟨rfl, rfl⟩))
          go_ret
          exact ⟨ret_bool (by simp), B2.out⟩
    · have H2 : Hid (decide ((1 : Int) ≤ C ∧ (C : Int) ≤ 5) = false) := hide (decide_eq_false (by omega))
      rw [H2.out]
      clear hR hC h1 h2
      go_enter Try.func51, Try.ntmps51
      go_wp2_with (first | (with_reducible refine (sideOk_any (R : Int) _).mono ?_; rw [H1.out]; rintro e w' ⟨rfl, rfl⟩) | (with_reducible refine (sideOk_any (C : Int) _).mono ?_; rw [H2.out]; rintro e w' ⟨rfl, rfl⟩))
      go_ret
      exact ⟨rfl, Below.refl _ _⟩
  · have H1 : Hid (decide ((1 : Int) ≤ R ∧ (R : Int) ≤ 5) = false) := hide (decide_eq_false (by omega))
    rw [H1.out]
    clear hR hC h1
    go_enter Try.func51, Try.ntmps51
    go_wp2_with (first | (with_reducible refine (sideOk_any (R : Int) _).mono ?_; rw [H1.out]; rintro e w' ⟨rfl, rfl⟩))
    go_ret
    exact ⟨rfl, Below.refl _ _⟩

theorem bad_in (m x : Int) : decide (0 ≤ x ∧ x ≤ m) = !badB m x := by
  unfold badB
  by_cases h : 0 ≤ x ∧ x ≤ m
  · rw [decide_eq_true h, decide_eq_false (by omega), decide_eq_false (by omega)]; rfl
  · rw [decide_eq_false h]
    by_cases h1 : x < 0
    · rw [decide_eq_true h1]; rfl
    · rw [decide_eq_false h1, decide_eq_true (by omega : m < x)]; rfl
end Go.Proofs.Ytiajdmoppgpgnaa
/-
  The exact law on SumsOk, walked.
-/
namespace Go.Proofs.Ytiajdmoppgpgnaa
open Go.RowKit
set_option linter.unusedVariables false

/-- What 'open_ints' hands over. -/
theorem inRow_of {w : World} {x : Addr} {l c : Nat} {zs : List Int} (hl : l ≤ c) (hm : c ≤ maxLen) (hz : zs.length = c) (hcell : ∀ i, i < zs.length → w.cell? (x.add i) = some (.int .i64 (zs.getD i 0))) : InRow w (.slice (some x) l c) (zs.take l) := by
  have hlen : (zs.take l).length = l := by rw [List.length_take]; omega
  refine ⟨some x, c, by rw [hlen], by omega, ?_⟩
  by_cases h0 : l = 0
  · exact .inl (by omega)
  · refine .inr ?_
    obtain ⟨g, o, spot⟩ := x
    have hc := hcell 0 (by omega)
    have hspot : spot = none := by simpa [Addr.add] using World.cell?_spot hc
    subst hspot
    refine ⟨g, o, rfl, by have := World.block_lt_of_cell? w _ hc; simpa [Addr.add] using this, fun i hi => ?_⟩
    have := hcell i (by omega)
    rw [addr_add] at this
    rw [this, List.getElem_take, List.getD_eq_getElem?_getD, List.getElem?_eq_getElem (by omega)]; rfl

end Go.Proofs.Ytiajdmoppgpgnaa
/-
  A slice of integers appended to a slice that the call owns.
-/
namespace Go.Proofs.Ytiajdmoppgpgnaa
open Go.RowKit

/-- 'append(v, r...)' at a slice of the call's own, r a slice of integers. -/
theorem wpList_appendRow {P : Program} {ops : Array Oper} {rest : List Oper} {o : Oper} {a : Act} {Q : Exit → Act → World → Prop} {W : World} {base n bytes : Nat} {E T : TypeId} {v : Value} {xs : List Value} (d : Tmp) (_hd : o.dst = some d)
    (hown : W.ownsRow base E 1 v n xs) (r : List Int) (g b c : Nat) (z : Value) (hgd : o.guard = none) (s x : Operand)
    (ho : o.op = .call { callee := .builtin .append, args := #[s, x], argTypes := #[T, T] })
    (ht : P.underlying T = some (.slice E)) (hinfo : (P.info? E).map (fun i => (i.zero, i.size, i.bytes)) = some (some z, 1, bytes)) (hz : z.cells.size = 1) (hby : bytes ≤ 32)
    (hs : a.eval s = v) (hx : a.eval x = .slice (some ⟨g, b, none⟩) r.length c) (hr : ∀ j, (h : j < r.length) → W.cell? ⟨g, b + j, none⟩ = some (.int .i64 r[j])) (hn : n + r.length < 4000000) (hbase : base ≤ W.heap.size)
    (h : ∀ v' w', w'.ownsRow base E 1 v' (n + r.length) (xs ++ ints r) → Below base W w' → W.grownBy w' v.ownBlock → wpList P ops Q rest (a.put o.dst v') w') :
    wpList P ops Q (o :: rest) a W := by
  obtain ⟨i0, hi, hz0, hz1, hz2⟩ := info_parts hinfo
  refine wpList_append_own _ hgd s x T ho base E i0 z 1 bytes ht hi hz0 hz1 hz2 hz (by decide) v n xs hs hown ⟨g, b, none⟩ r.length c (ints r) hx (by simp [ints]) (fun j u hu => ?_) (fun u hu => ?_)
    (by unfold maxLen; omega) (by have : (n + r.length) * bytes ≤ 4000000 * 32 := Nat.mul_le_mul (by omega) hby; omega) hbase ?_
  · have hj : j < r.length := by have := (List.getElem?_eq_some_iff.1 hu).1; simpa [ints] using this
    rw [ints_at r j hj, Option.some.injEq] at hu
    subst hu
    rw [addr_add]; exact hr j hj
  · simp only [ints, List.mem_map] at hu
    obtain ⟨q, -, rfl⟩ := hu; rfl
  · intro v' w' hown' hg _
    exact h v' w' hown' ((Below.refl _ _).grown hg hbase (fun k hk => (hown.lt k hk).1)) hg
end Go.Proofs.Ytiajdmoppgpgnaa
/-
  A copy of an image, of the model.
-/
namespace Go.Proofs.Ytiajdmoppgpgnaa
open Go.RowKit

set_option maxRecDepth 100000 in
set_option maxHeartbeats 1000000 in
theorem l02Copy_any (v : Value) (R C : Nat) (f : Nat → Nat → Int) (w : World) (hin : InMat w v (mkM R C f)) (hI : Img R C f) :
    Calls Try.prog 82 #[v] w (MatRes (mkM R C f) w) := by
  have hR1 := hI.r1; have hC1 := hI.c1; have hR := hI.r2; have hC := hI.c2
  obtain ⟨g, o, c, rfl, hg, hcell⟩ := inMat_img hin (by omega) (by omega)
  have HC := hide hcell
  clear hin hI hcell
  go_enter Try.func82, Try.ntmps82
  go_wp2
  go_loopw [3, 9] (fun u i w' => ∃ (y : Nat) (v : Value), y ≤ R ∧ i = .int .i64 y ∧ v = u ∧ OwnMat w' w.heap.size w'.heap.size v (mkM y C f) ∧ Below w.heap.size w w') (fun _ i _ => R - (intOf i).toNat)
  case atStart => exact ⟨0, _, by omega, rfl, rfl, ⟨[], World.ownsRow_made (base := w.heap.size) w #[] 0 (Nat.le_refl _) (Nat.zero_le _) rfl, (fun k e => by simp [Value.ownBlock] at e; subst e; simp), (fun i h => absurd h (Nat.not_lt_zero _)), fun i j _ h => absurd h (Nat.not_lt_zero _)⟩, (Below.refl _ _).alloc (Nat.le_refl _) _⟩
  case round =>
    obtain ⟨y, v, hy, rfl, rfl, hown, hb⟩ := hrel
    have HO := hide hown; have HB := hide hb
    clear hown hb
    by_cases hlt : y < R
    · have hyI : (y : Int) < R := by omega
      have hsz := HB.out.size
      obtain ⟨g', o', c', hx, hg', hcc⟩ := HC.out y hlt
      have hx := below_cell HB.out hg hx
      have HCC : Hid (∀ j, (h : j < (rowF C (f y)).length) → (wr.alloc (.cells #[] 3)).cell? ⟨g', o' + j, none⟩ = some (.int .i64 (rowF C (f y))[j])) := hide (fun j h => by
        rw [rowF_at, below_cell (w := wr) ((Below.refl _ _).alloc (Nat.le_refl _) _) (by omega) (below_cell HB.out hg' (hcc j (by rw [rowF_len] at h; exact h)))])
      have HE : Hid ((wr.alloc (.cells #[] 3)).ownsRow wr.heap.size 3 1 (.slice (some ⟨wr.heap.size, 0, none⟩) 0 0) 0 []) := hide (World.ownsRow_made (base := wr.heap.size) wr #[] 0 (Nat.le_refl _) (Nat.zero_le _) rfl)
      have HLN := hide (rowF_len C (f y))
      have HB1 := hide (HB.out.alloc hsz (.cells #[] 3))
      have HW1 := hide (below_cell (w := wr) (w' := wr.alloc (.cells #[] 3)) ((Below.refl _ _).alloc (Nat.le_refl _) _) (show g < wr.heap.size by omega) hx)
      have HO1 := hide (ownMat_below HO.out ((Below.refl wr.heap.size wr).alloc (Nat.le_refl _) (.cells #[] 3)))
      have hs0 : (wr.alloc (.cells #[] 3)).heap.size = wr.heap.size + 1 := by simp
      have HS0 := hide hs0
      clear hcc hs0
      go_wp2_with (first | (refine wpList_appendRow 16 rfl HE.out (rowF C (f y)) g' o' c' (.int .i64 0) rfl _ _ rfl Try.underlying33 Try.infoInt rfl (by decide) rfl (by rw [HLN.out]; rfl) HCC.out (by rw [HLN.out]; omega) (by rw [HS0.out]; omega) ?_; intro u2 w2 hu2 hb2 hg2; rw [HLN.out, Nat.zero_add, List.nil_append] at hu2; obtain ⟨ua, uc, rfl⟩ := own_slice hu2; have HU := hide hu2; have O2 := hide (ownMat_within HO1.out (within_grown (lo := wr.heap.size) (hi := wr.heap.size + 1) hg2 fun k e => by simp [Value.ownBlock] at e; omega) (.inl (Nat.le_refl _))); have B2 := hide (HB1.out.trans (hb2.mono hsz)); have hs2 := hb2.size; rw [HS0.out] at hs2; clear hu2 hb2 hg2; obtain ⟨vs, hv, hvh, hvr, hva⟩ := O2.out; have hvl := mkM_len y C f; rw [hvl] at hv; have HV := hide hv; have HVR := hide hvr; have HVA := hide hva; clear hv hvh hvr hva hvl) | (at_builtin; refine wpList_push HV.out (.slice ua C uc) (.slice none 0 0) rfl _ _ rfl Try.underlying29 Try.infoInts rfl (by decide) rfl rfl rfl (by omega) (by omega) ?_; intro v' w6 hown1 hb1 hg1))
      go_roundw
      case rel =>
        have hs6 := hb1.size
        have hp := ownMat_push (r := rowF C (f y)) (hi' := w6.heap.size) HVR.out HVA.out (by rw [mkM_len]; exact HV.out) (by rw [HLN.out]; exact HU.out) hsz (by omega) (by omega) hg1 (by rw [mkM_len]; exact hown1) (fun k e => (hown1.lt k e).2)
        rw [← mkM_succ] at hp
        exact ⟨y + 1, _, by omega, by go_num, rfl, hp, B2.out.trans (hb1.mono (by omega))⟩
      case measure => simp [intOf]; omega
    · obtain rfl : y = R := by omega
      go_wp2
      go_ret
      exact ⟨_, rfl, HO.out, HB.out⟩

end Go.Proofs.Ytiajdmoppgpgnaa
