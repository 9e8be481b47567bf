/-
  Rows of integers that lie in one block or in one value: arrays, arrays of arrays; what reads and writes them.
-/
import Derived.Test.YtnhijmhambggbaaMem
import Derived.Deep.MidRow
import Derived.Deep.WholeRow
namespace Go.Proofs.Ytnhijmhambggbaa
open Go.RowKit

/-- n cells of integers, by their index. -/
def vecL (n : Nat) (F : Nat → Int) : List Value := (List.range n).map fun i => .int .i64 (F i)
def vec (n : Nat) (F : Nat → Int) : Array Value := (vecL n F).toArray
theorem vecL_len (n : Nat) (F : Nat → Int) : (vecL n F).length = n := by simp [vecL]
theorem vec_size (n : Nat) (F : Nat → Int) : (vec n F).size = n := by simp [vec, vecL]
theorem vec_at (n : Nat) (F : Nat → Int) (i : Nat) (h : i < n) : (vec n F)[i]? = some (.int .i64 (F i)) := by simp [vec, vecL, h]
theorem vec_congr {n : Nat} {F G : Nat → Int} (h : ∀ i, i < n → F i = G i) : vec n F = vec n G := by
  rw [vec, vec, vecL, vecL, List.map_congr_left fun i hi => by rw [h i (List.mem_range.1 hi)]]
theorem vec_set (n : Nat) (F : Nat → Int) (i : Nat) (v : Int) : (vec n F).setIfInBounds i (.int .i64 v) = vec n fun j => if j = i then v else F j := by
  apply Array.ext
  · simp [vec_size]
  · intro k h1 h2
    have hk : k < n := by simpa [vec_size] using h2
    rw [Array.getElem_setIfInBounds]
    by_cases e : i = k
    · subst e; simp [vec, vecL]
    · simp [e, Ne.symm e, vec, vecL]
    · simpa [vec_size] using hk
theorem vec_part (n : Nat) (F : Nat → Int) (o k : Nat) (h : o + k ≤ n) : (vec n F).extract o (o + k) = vec k fun j => F (o + j) := by
  apply Array.ext
  · simp [vec_size]; omega
  · intro j h1 h2
    simp [vec, vecL]
theorem vec_one (n : Nat) (F : Nat → Int) : (vec n F).all (·.oneCell') = true := by
  refine Array.all_eq_true_iff_forall_mem.2 fun v hv => ?_
  simp only [vec, vecL, List.mem_toArray, List.mem_map] at hv
  obtain ⟨i, -, rfl⟩ := hv; rfl
theorem vecL_one (n : Nat) (F : Nat → Int) : ∀ v ∈ vecL n F, v.oneCell' = true := by
  intro v hv
  simp only [vecL, List.mem_map] at hv
  obtain ⟨i, -, rfl⟩ := hv; rfl
theorem vec_const (n : Nat) (c : Int) : vec n (fun _ => c) = Array.replicate n (.int .i64 c) := by
  apply Array.ext
  · simp [vec_size]
  · intro j h1 h2; simp [vec, vecL]

/-- Block g is a variable of n integers. -/
def Blk (w : World) (g : Nat) (T : TypeId) (n : Nat) (F : Nat → Int) : Prop := w.heap[g]? = some (.cells (vec n F) T (0, 0))
theorem blk_lt {w : World} {g n : Nat} {T : TypeId} {F : Nat → Int} (h : Blk w g T n F) : g < w.heap.size := (Array.getElem?_eq_some_iff.1 h).1
theorem blk_cell {w : World} {g n : Nat} {T : TypeId} {F : Nat → Int} (h : Blk w g T n F) (i : Nat) (hi : i < n) : w.cell? ⟨g, i, none⟩ = some (.int .i64 (F i)) := by
  rw [cell_of_row w g i _ _ _ h, vec_at n F i hi]
theorem blk_frozen {w : World} {g n : Nat} {T : TypeId} {F : Nat → Int} (h : Blk w g T n F) (i : Nat) : w.frozen? ⟨g, i, none⟩ = false := frozen_of_row w g i _ _ h
theorem blk_set {w : World} {g n : Nat} {T : TypeId} {F : Nat → Int} (h : Blk w g T n F) (i : Nat) (v : Int) : Blk (w.setCell ⟨g, i, none⟩ (.int .i64 v)) g T n fun j => if j = i then v else F j := by
  have := heap_setCell_same w g i _ T (.int .i64 v) h
  rw [vec_set] at this; exact this
theorem blk_other {w : World} {g n : Nat} {T : TypeId} {F : Nat → Int} (h : Blk w g T n F) (a : Addr) (v : Value) (hne : g ≠ a.block) : Blk (w.setCell a v) g T n F := by
  unfold Blk; rw [heap_setCell_other w a g v hne]; exact h
theorem blk_congr {w : World} {g n : Nat} {T : TypeId} {F G : Nat → Int} (h : Blk w g T n F) (e : ∀ i, i < n → F i = G i) : Blk w g T n G := by
  unfold Blk; rw [← vec_congr e]; exact h
theorem blk_below {w w' : World} {g n : Nat} {T : TypeId} {F : Nat → Int} (h : Blk w g T n F) (hb : Below w.heap.size w w') : Blk w' g T n F := by
  unfold Blk; rw [hb.block g (blk_lt h)]; exact h
theorem blk_grown {w w' : World} {g n : Nat} {T : TypeId} {F : Nat → Int} {row : Option Nat} (h : Blk w g T n F) (hb : w.grownBy w' row) (hr : row ≠ some g) : Blk w' g T n F := by
  unfold Blk; rw [hb.block g (blk_lt h) (Ne.symm hr)]; exact h
theorem blk_draws {w : World} {g n : Nat} {T : TypeId} {F : Nat → Int} (h : Blk w g T n F) (k : Nat) : Blk (w.drewN k) g T n F := h
theorem blk_new (w : World) (n : Nat) (T : TypeId) (F : Nat → Int) : Blk (w.alloc (.cells (vec n F) T)) w.heap.size T n F := heap_alloc_new w _
theorem grown_below {w w' : World} {B : Nat} {row : Option Nat} (h : w.grownBy w' row) (hr : ∀ k, row = some k → B ≤ k) (hB : B ≤ w.heap.size) : Below B w w' := (Below.refl _ _).grown h hB hr

/-- The whole variable is read. -/
theorem wpList_loadVec {P : Program} {ops : Array Oper} {rest : List Oper} {o : Oper} {a : Act} {Q : Exit → Act → World → Prop} {W : World} {g n m : Nat} {T T' e : TypeId} {F : Nat → Int} (hb : Blk W g T n F)
    (d : Tmp) (_hd : o.dst = some d) (hgd : o.guard = none) (x : Operand) (ho : o.op = .load T' x) (hx : a.eval x = .pointer (some ⟨g, 0, none⟩)) (hu : P.underlying T' = some (.array m e)) (hi : (P.info? T').map (·.size) = some n)
    (h : wpList P ops Q rest (a.put o.dst (.agg (vec n F))) W) : wpList P ops Q (o :: rest) a W :=
  wpList_load_row hgd T' x ho g hx T (vec n F) (0, 0) _ hb hu rfl (by rw [hi, vec_size]) h

/-- The whole variable is written. -/
theorem wpList_storeVec {P : Program} {ops : Array Oper} {rest : List Oper} {o : Oper} {a : Act} {Q : Exit → Act → World → Prop} {W : World} {g n : Nat} {T T' : TypeId} {F0 F : Nat → Int} (hb : Blk W g T n F0)
    (hgd : o.guard = none) (x y : Operand) (ho : o.op = .store T' x y) (hx : a.eval x = .pointer (some ⟨g, 0, none⟩)) (hy : a.eval y = .agg (vec n F)) (hi : (P.info? T').map (·.size) = some n)
    (h : ∀ w', Blk w' g T n F → W.grownBy w' (some g) → w'.heap.size = W.heap.size → wpList P ops Q rest (a.put o.dst undef) w') : wpList P ops Q (o :: rest) a W := by
  refine wpList_plain hgd fun K hK => ?_
  unfold Oper.wp execOp
  simp only [ho, hx, hy, Instr.storeAt, Instr.sureAddr, Sem.run_bind, Sem.run_pure, Result.andThen_ok, run_storeVar_row W g T T' (vec n F0) (vec n F) hb (by rw [hi, vec_size]) (by simp [vec_size]) (vec_one n F)]
  refine hK _ _ (h _ (setRow_heap W g _ _ T (0, 0) hb) ⟨rfl, rfl, rfl, by simp, fun k hk hr => setRow_other W g k _ (fun e => hr (by rw [e]))⟩ (by simp))

/-- A new variable of zeros. -/
theorem wpList_allocVec {P : Program} {ops : Array Oper} {rest : List Oper} {o : Oper} {a : Act} {Q : Exit → Act → World → Prop} {W : World} {T : TypeId} (n : Nat)
    (d : Tmp) (_hd : o.dst = some d) (hgd : o.guard = none) (ho : o.op = .alloc T) (hz : ∀ w, (zeroValue T).run P w = .ok (.agg (vec n fun _ => 0)) w)
    (h : ∀ w', Blk w' W.heap.size T n (fun _ => 0) → Below W.heap.size W w' → w'.heap.size = W.heap.size + 1 → wpList P ops Q rest (a.put o.dst (.pointer (some ⟨W.heap.size, 0, none⟩))) w') : wpList P ops Q (o :: rest) a W := by
  refine wpList_plain hgd fun K hK => ?_
  unfold Oper.wp execOp
  simp only [ho, Instr.alloc, Sem.run_bind, hz, Result.andThen_ok]
  simp [newVar, newRow, Value.cells]
  exact hK _ _ (h _ (blk_new W n T _) ((Below.refl _ _).alloc (Nat.le_refl _) _) (by simp))

/-- A value of integers goes into a new variable. -/
theorem wpList_boxVec {P : Program} {ops : Array Oper} {rest : List Oper} {o : Oper} {a : Act} {Q : Exit → Act → World → Prop} {W : World} {T : TypeId} (n : Nat) (F : Nat → Int)
    (d : Tmp) (_hd : o.dst = some d) (hgd : o.guard = none) (x : Operand) (ho : o.op = .box T x) (hx : a.eval x = .agg (vec n F))
    (h : ∀ w', Blk w' W.heap.size T n F → Below W.heap.size W w' → w'.heap.size = W.heap.size + 1 → wpList P ops Q rest (a.put o.dst (.pointer (some ⟨W.heap.size, 0, none⟩))) w') : wpList P ops Q (o :: rest) a W := by
  refine wpList_plain hgd fun K hK => ?_
  unfold Oper.wp execOp
  simp only [ho, hx, Instr.box, Sem.run_bind]
  simp [newVar, newRow, Value.cells]
  exact hK _ _ (h _ (blk_new W n T _) ((Below.refl _ _).alloc (Nat.le_refl _) _) (by simp))

/-- A value of zeros, written out as 'T{}'. -/
theorem wpList_buildVec {P : Program} {ops : Array Oper} {rest : List Oper} {o : Oper} {a : Act} {Q : Exit → Act → World → Prop} {W : World} {T : TypeId} {n : Nat} {F : Nat → Int} (d : Tmp) (_hd : o.dst = some d)
    (hgd : o.guard = none) (ho : o.op = .build T #[]) (hz : P.built T [] = some (vec n F)) (h : wpList P ops Q rest (a.put o.dst (.agg (vec n F))) W) : wpList P ops Q (o :: rest) a W := by
  refine wpList_plain hgd fun K hK => ?_
  unfold Oper.wp execOp
  simp [ho, run_build W T #[] _ hz, Result.andThen_ok]
  exact hK _ _ h
/-- The first n elements of a variable, as a slice. -/
theorem wpList_sliceVec {P : Program} {ops : Array Oper} {rest : List Oper} {o : Oper} {a : Act} {Q : Exit → Act → World → Prop} {W : World} {T E : TypeId} {g b m s : Nat} (n : Nat) (d : Tmp) (_hd : o.dst = some d)
    (hgd : o.guard = none) (x i : Operand) (ho : o.op = .slice T x none (some i) none) (hx : a.eval x = .pointer (some ⟨g, b, none⟩)) (hi : a.eval i = .int .i64 n) (hu : P.underlying T = some (.array m E)) (hs : ∀ w, (sizeOf E).run P w = .ok s w)
    (hn : n ≤ m) (h : wpList P ops Q rest (a.put o.dst (.slice (some ⟨g, b, none⟩) n m)) W) : wpList P ops Q (o :: rest) a W := by
  refine wpList_plain hgd fun K hK => ?_
  unfold Oper.wp execOp
  have hle : (0 : Int) ≤ n ∧ (n : Int) ≤ m := ⟨by omega, by omega⟩
  simp only [ho, Option.map_some, Option.map_none, hx, hi, Instr.sliceAt, Instr.sureAddr, Sem.run_bind, Sem.run_pure, Result.andThen_ok, run_underlying hu, Instr.sliceBounds, Instr.sliceBound, asIntOf, if_pos hle, hs, Int.toNat_natCast, Nat.zero_mul, addr_add, Nat.add_zero, Nat.sub_zero, ite_self]
  exact hK _ _ h
/-- An element of a value of integers. -/
theorem wpList_indexVec {P : Program} {ops : Array Oper} {rest : List Oper} {o : Oper} {a : Act} {Q : Exit → Act → World → Prop} {W : World} {T E : TypeId} {n : Nat} {F : Nat → Int} (k : Nat)
    (d : Tmp) (_hd : o.dst = some d) (hgd : o.guard = none) (x i : Operand) (ho : o.op = .index T x i) (hx : a.eval x = .agg (vec n F)) (hi : a.eval i = .int .i64 k) (hu : P.underlying T = some (.array n E)) (hE : ∀ w, (isAgg E).run P w = .ok false w) (hs : ∀ w, (sizeOf E).run P w = .ok 1 w)
    (hk : k < n) (h : wpList P ops Q rest (a.put o.dst (.int .i64 (F k))) W) : wpList P ops Q (o :: rest) a W := by
  refine wpList_plain hgd fun K hK => ?_
  unfold Oper.wp execOp
  simp only [ho, hx, hi, Instr.index, Sem.run_bind, asIntOf, Sem.run_pure, Result.andThen_ok, run_underlying hu]
  rw [if_pos ⟨by omega, by omega⟩]
  simp only [Sem.run_bind, hs, hE, Result.andThen_ok, part, Int.toNat_natCast, Nat.mul_one]
  simp [vec_at n F k hk]
  exact hK _ _ h
/-- A row of a value of rows of integers. -/
theorem wpList_indexRow {P : Program} {ops : Array Oper} {rest : List Oper} {o : Oper} {a : Act} {Q : Exit → Act → World → Prop} {W : World} {T E : TypeId} {n m s : Nat} {F : Nat → Int} (k : Nat)
    (d : Tmp) (_hd : o.dst = some d) (hgd : o.guard = none) (x i : Operand) (ho : o.op = .index T x i) (hx : a.eval x = .agg (vec n F)) (hi : a.eval i = .int .i64 k) (hu : P.underlying T = some (.array m E)) (hE : ∀ w, (isAgg E).run P w = .ok true w) (hs : ∀ w, (sizeOf E).run P w = .ok s w)
    (hk : k < m) (hn : k * s + s ≤ n) (h : wpList P ops Q rest (a.put o.dst (.agg (vec s fun j => F (k * s + j)))) W) : wpList P ops Q (o :: rest) a W := by
  refine wpList_plain hgd fun K hK => ?_
  unfold Oper.wp execOp
  simp only [ho, hx, hi, Instr.index, Sem.run_bind, asIntOf, Sem.run_pure, Result.andThen_ok, run_underlying hu]
  rw [if_pos ⟨by omega, by omega⟩]
  simp only [Sem.run_bind, hs, hE, Result.andThen_ok, part, Int.toNat_natCast, if_true, vec_part n F (k * s) s hn]
  simp
  exact hK _ _ h
/-- The address of an element of a variable. -/
theorem wpList_indexAt {P : Program} {ops : Array Oper} {rest : List Oper} {o : Oper} {a : Act} {Q : Exit → Act → World → Prop} {W : World} {T E : TypeId} {g b m s : Nat} (k : Nat)
    (d : Tmp) (_hd : o.dst = some d) (hgd : o.guard = none) (x i : Operand) (ho : o.op = .indexAddr T x i) (hx : a.eval x = .pointer (some ⟨g, b, none⟩)) (hi : a.eval i = .int .i64 k) (hu : P.underlying T = some (.array m E)) (hs : ∀ w, (sizeOf E).run P w = .ok s w)
    (hk : k < m) (h : wpList P ops Q rest (a.put o.dst (.pointer (some ⟨g, b + k * s, none⟩))) W) : wpList P ops Q (o :: rest) a W := by
  refine wpList_plain hgd fun K hK => ?_
  unfold Oper.wp execOp
  simp only [ho, hx, hi, Instr.indexAt, Instr.sureAddr, Sem.run_bind, asIntOf, Sem.run_pure, Result.andThen_ok, run_underlying hu]
  rw [if_pos ⟨by omega, by omega⟩]
  simp only [Sem.run_bind, hs, Result.andThen_ok, Int.toNat_natCast, addr_add]
  simp
  exact hK _ _ h
end Go.Proofs.Ytnhijmhambggbaa
