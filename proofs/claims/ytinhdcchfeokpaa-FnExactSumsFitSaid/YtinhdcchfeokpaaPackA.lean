/-
  Texts of this claim, one behind the other: Mem, Vec, Mat, IntS, IntSS.
-/
import Derived.Test.YtinhdcchfeokpaaRows
import Derived.WalkKit
import Derived.WalkSpells
import Derived.WalkLawsBesides
import Derived.BigQuiet
import Derived.Deep.QuietTactic
import Derived.Deep.RegionHeld3
import Derived.Deep.AppendLies
import Derived.Deep.MidRow
import Derived.Deep.WholeRow
/-
  Small lemmas on slices that a call owns.
-/
namespace Go.Proofs.Ytinhdcchfeokpaa
open Go.RowKit

theorem hide {p : Prop} (h : p) : Hid p := h
theorem ret_bool {a b : Bool} (h : a = b) : Ending.returned (.bool a) = .returned (.bool b) := by rw [h]
theorem ret_int {k : IntKind} {a b : Int} (h : a = b) : Ending.returned (.int k a) = .returned (.int k b) := by rw [h]
theorem ret_string {a b : ByteArray} (h : a = b) : Ending.returned (.string a) = .returned (.string b) := by rw [h]

theorem addr_add (g o i : Nat) : (⟨g, o, none⟩ : Addr).add i = ⟨g, o + i, none⟩ := by unfold Addr.add; split <;> simp_all
theorem own_below {w w' : World} {base e n : Nat} {v : Value} {xs : List Value} (h : w.ownsRow base e 1 v n xs) (hb : Below w.heap.size w w') : w'.ownsRow base e 1 v n xs := by
  refine ⟨h.1, ?_⟩
  rcases h.2 with hn | ⟨g, cap, cur, hv, hbg, hg, r⟩
  · exact .inl hn
  · exact .inr ⟨g, cap, cur, hv, hbg, by rw [hb.block g (Array.getElem?_eq_some_iff.1 hg).1]; exact hg, r⟩

theorem own_base {w : World} {base base' e n : Nat} {v : Value} {xs : List Value} (h : w.ownsRow base e 1 v n xs) (hb : base' ≤ base) : w.ownsRow base' e 1 v n xs := by
  refine ⟨h.1, ?_⟩
  rcases h.2 with hn | ⟨g, cap, cur, hv, hbg, hg, r⟩
  · exact .inl hn
  · exact .inr ⟨g, cap, cur, hv, by omega, hg, r⟩

/-- An owned slice that is not empty lies somewhere. -/
theorem own_some {w : World} {base e n : Nat} {v : Value} {xs : List Value} (h : w.ownsRow base e 1 v n xs) (hn : 0 < n) :
    ∃ g cap, v = .slice (some ⟨g, 0, none⟩) n cap ∧ base ≤ g ∧ g < w.heap.size ∧ n ≤ cap ∧ cap ≤ maxLen ∧ (∀ j, j < n → w.cell? ⟨g, j, none⟩ = xs[j]?) ∧ (∀ j, w.frozen? ⟨g, j, none⟩ = false) := by
  rcases h.2 with ⟨_, h0⟩ | ⟨g, cap, cur, rfl, hbg, hg, hc, hm, _⟩
  · omega
  · exact ⟨g, cap, rfl, hbg, (Array.getElem?_eq_some_iff.1 hg).1, hc, hm, fun j hj => h.cellAt j (by omega), fun j => h.frozenAt j⟩

/-- An empty owned slice. -/
theorem own_none {w : World} {base e : Nat} {v : Value} {xs : List Value} (h : w.ownsRow base e 1 v 0 xs) : ∃ a cap, v = .slice a 0 cap := by
  rcases h.2 with ⟨rfl, _⟩ | ⟨g, cap, cur, rfl, _⟩
  · exact ⟨_, _, rfl⟩
  · exact ⟨_, _, rfl⟩

theorem own_slice {w : World} {base e n : Nat} {v : Value} {xs : List Value} (h : w.ownsRow base e 1 v n xs) : ∃ a cap, v = .slice a n cap := by
  rcases h.2 with ⟨rfl, rfl⟩ | ⟨g, cap, cur, rfl, _⟩
  · exact ⟨_, _, rfl⟩
  · exact ⟨_, _, rfl⟩

theorem below_draws {B : Nat} {a w : World} (h : Below B a w) (n : Nat) : Below B a (w.drewN n) := ⟨h.os, h.tape, h.output, h.size, h.block⟩
theorem below_drew {B : Nat} {a w : World} (h : Below B a w) : Below B a w.drew := ⟨h.os, h.tape, h.output, h.size, h.block⟩
theorem grown_trans {a b c : World} {row : Option Nat} (h : a.grownBy b row) (k : b.grownBy c row) : a.grownBy c row :=
  ⟨k.os.trans h.os, k.tape.trans h.tape, k.output.trans h.output, Nat.le_trans h.size k.size, fun i hi hr => (k.block i (Nat.lt_of_lt_of_le hi h.size) hr).trans (h.block i hi hr)⟩
theorem grown_of_below {w w' : World} (h : Below w.heap.size w w') (row : Option Nat) : w.grownBy w' row := ⟨h.os, h.tape, h.output, h.size, fun k hk _ => h.block k hk⟩
theorem cell_held {w : World} {base e n g c j : Nat} {xs : List Value} (h : w.ownsRow base e 1 (.slice (some ⟨g, 0, none⟩) n c) n xs) (hj : j < n) :
    w.cell? ⟨g, j, none⟩ = some (xs.getD j undef) := by
  have hl := h.1
  rw [h.cellAt j (by omega), List.getD_eq_getElem?_getD, List.getElem?_eq_getElem (by omega)]; rfl
theorem own_draws {w : World} {base e n : Nat} {v : Value} {xs : List Value} (h : w.ownsRow base e 1 v n xs) (k : Nat) : (w.drewN k).ownsRow base e 1 v n xs := h
theorem below_cell {w w' : World} (hb : Below w.heap.size w w') {g o : Nat} (hg : g < w.heap.size) {u : Option Value} (h : w.cell? ⟨g, o, none⟩ = u) : w'.cell? ⟨g, o, none⟩ = u := by
  rw [hb.cell (p := ⟨g, o, none⟩) hg]; exact h
theorem below_frozen {w w' : World} (hb : Below w.heap.size w w') {g o : Nat} (hg : g < w.heap.size) {u : Bool} (h : w.frozen? ⟨g, o, none⟩ = u) : w'.frozen? ⟨g, o, none⟩ = u := by
  rw [hb.frozen (p := ⟨g, o, none⟩) hg]; exact h

theorem below_step {B : Nat} {w a b : World} {n : Nat} (h : Below B w a) (k : Below B (a.drewN n) b) : Below B w b := (below_draws h n).trans k
/-- Two owned slices, the second made when the first lay already, lie in two blocks. -/
theorem own_apart {w w' : World} {b0 e0 n0 e1 n1 : Nat} {v0 v1 : Value} {xs ys : List Value} (h0 : w.ownsRow b0 e0 1 v0 n0 xs) (h1 : w'.ownsRow w.heap.size e1 1 v1 n1 ys) : v0.ownBlock = none ∨ v0.ownBlock ≠ v1.ownBlock := by
  cases e : v0.ownBlock with
  | none => exact .inl rfl
  | some k =>
    refine .inr fun e1 => ?_
    have := (h0.lt k e).2; have := (h1.lt k e1.symm).1; omega
theorem below_mark {w a b w1 : World} {B e n : Nat} {v : Value} {xs : List Value} (h : Below w.heap.size w a) (hg : a.grownBy b v.ownBlock) (ho : w1.ownsRow B e 1 v n xs) (hB : w.heap.size ≤ B) (_ : w.heap.size ≤ B) : Below w.heap.size w b :=
  h.grown hg h.size fun k hk => Nat.le_trans hB (ho.lt k hk).1
theorem new_cell (W : World) (y : Value) (T : TypeId) : ∀ j u, [y][j]? = some u → (W.alloc (.cells #[y] T)).cell? ((⟨W.heap.size, 0, none⟩ : Addr).add j) = some u :=
  World.news_of_block (cs := #[y]) (t := T) (fr := (0, 0)) (heap_alloc_new W _)

/-- 'v = append(v, y)' at a slice of the call's own, y of one cell: it owns one element more; below its base nothing turns; of what there was its own block alone may be written. -/
theorem wpList_push {P : Program} {ops : Array Oper} {rest : List Oper} {o : Oper} {a : Act} {Q : Exit → Act → World → Prop} {W : World} {base n bytes : Nat} {E T : TypeId} {v : Value} {xs : List Value}
    (hown : W.ownsRow base E 1 v n xs) (y z : Value) (hgd : o.guard = none) (s x : Operand)
    (ho : o.op = .call { callee := .builtin .append, args := #[s, x], argTypes := #[T, T] })
    (ht : P.underlying T = some (.slice E)) (hinfo : (P.info? E).map (fun i => (i.zero, i.size, i.bytes)) = some (some z, 1, bytes)) (hz : z.cells.size = 1) (hby : bytes ≤ 32)
    (hs : a.eval s = v) (hx : a.eval x = .slice (some ⟨W.heap.size, 0, none⟩) 1 1) (hy : y.oneCell' = true) (hn : n < 4000000) (hbase : base ≤ W.heap.size)
    (h : ∀ v' w', w'.ownsRow base E 1 v' (n + 1) (xs ++ [y]) → Below base W w' → W.grownBy w' v.ownBlock → wpList P ops Q rest (a.put o.dst v') w') :
    wpList P ops Q (o :: rest) a (W.alloc (.cells #[y] E)) := by
  obtain ⟨i0, hi, hz0, hz1, hz2⟩ := info_parts hinfo
  refine wpList_append_own _ hgd s x T ho base E i0 z 1 bytes ht hi hz0 hz1 hz2 hz (by decide) v n xs hs (hown.alloc _) ⟨W.heap.size, 0, none⟩ 1 1 [y] hx rfl (new_cell W y E) (by simpa using hy)
    (by unfold maxLen; omega) (by have : (n + 1) * bytes ≤ 4000000 * 32 := Nat.mul_le_mul (by omega) hby; omega) (by simp; omega) ?_
  intro v' w' hown' hg _
  have hlt := hown.lt
  have hal : Below base W (W.alloc (.cells #[y] E)) := (Below.refl _ _).alloc hbase _
  refine h v' w' hown' (hal.grown hg (by simp; omega) (fun k hk => (hlt k hk).1)) ?_
  exact grown_trans (World.grownBy_alloc W _ _) hg

/-- 'make([]T, n)', T of one cell: the call owns n zeros; below the base nothing turns. -/
theorem wpList_new {P : Program} {ops : Array Oper} {rest : List Oper} {o : Oper} {a : Act} {Q : Exit → Act → World → Prop} {W : World} (base n : Nat) {bytes : Nat} {E T : TypeId} (z : Value) (hgd : o.guard = none) (l c : Operand)
    (hop : o.op = Op.makeSlice T l c) (ht : P.underlying T = some (.slice E)) (hinfo : (P.info? E).map (fun i => (i.zero, i.size, i.bytes)) = some (some z, 1, bytes)) (hz : z.cells = #[z]) (hby : bytes ≤ 32)
    (hl : a.eval l = .int .i64 n) (hc : a.eval c = .int .i64 n) (hn : n < 4000000) (hbase : base ≤ W.heap.size)
    (h : ∀ w', w'.ownsRow base E 1 (.slice (some ⟨W.heap.size, 0, none⟩) n n) n (List.replicate n z) → Below base W w' → W.grownBy w' none → wpList P ops Q rest (a.put o.dst (.slice (some ⟨W.heap.size, 0, none⟩) n n)) w') :
    wpList P ops Q (o :: rest) a W := by
  obtain ⟨i0, hi, hz0, hz1, hz2⟩ := info_parts hinfo
  refine wpList_make_full W hgd l c T hop base E i0 z 1 ht hi hz0 hz1 .i64 .i64 n n n hl hc rfl rfl (by rw [hz2]; have : bytes * n ≤ 32 * 4000000 := Nat.mul_le_mul hby (by omega); omega) (by unfold maxLen; omega) hbase ?_
  intro w' ho hg
  rw [hz, Nat.mul_one, toList_madeCells_one] at ho
  exact h w' ho ((Below.refl _ _).grown hg hbase (fun k hk => by cases hk)) hg

/-- The first k cells of l, zeros behind them. -/
def fillTo (l : List Value) (k : Nat) (z : Value) : List Value := l.take k ++ List.replicate (l.length - k) z
theorem fill_zero (l : List Value) (z : Value) : fillTo l 0 z = List.replicate l.length z := by simp [fillTo]
theorem fill_all (l : List Value) (k : Nat) (z : Value) (h : l.length ≤ k) : fillTo l k z = l := by
  rw [fillTo, List.take_of_length_le h, show l.length - k = 0 by omega]; simp
theorem fill_len (l : List Value) (k : Nat) (z : Value) (h : k ≤ l.length) : (fillTo l k z).length = l.length := by simp [fillTo]; omega
theorem fill_set (l : List Value) (k : Nat) (z : Value) (h : k < l.length) (y : Value) (hy : l[k] = y) : (fillTo l k z).set k y = fillTo l (k + 1) z := by
  rw [fillTo, List.set_append_right _ _ (by simp; omega), List.length_take, Nat.min_eq_left (by omega), Nat.sub_self, show l.length - k = (l.length - (k + 1)) + 1 by omega, List.replicate_succ, List.set_cons_zero, fillTo,
    List.take_succ_eq_append_getElem h, hy, List.append_assoc]; rfl
theorem fill_at (l : List Value) (k j : Nat) (z : Value) (h : j < k) (hk : k ≤ l.length) : (fillTo l k z)[j]? = l[j]? := by
  rw [fillTo, List.getElem?_append_left (by simp; omega), List.getElem?_take, if_pos h]
end Go.Proofs.Ytinhdcchfeokpaa
/-
  Rows of integers that lie in one block or in one value: arrays, arrays of arrays; what reads and writes them.
-/
namespace Go.Proofs.Ytinhdcchfeokpaa
open Go.RowKit

/-- n cells of integers, by their index. -/
def vecL (n : Nat) (F : Nat → Int) : List Value := (List.range n).map fun i => .int .i64 (F i)
def vec (n : Nat) (F : Nat → Int) : Array Value := (vecL n F).toArray
theorem vecL_len (n : Nat) (F : Nat → Int) : (vecL n F).length = n := by simp [vecL]
theorem vec_size (n : Nat) (F : Nat → Int) : (vec n F).size = n := by simp [vec, vecL]
theorem vec_at (n : Nat) (F : Nat → Int) (i : Nat) (h : i < n) : (vec n F)[i]? = some (.int .i64 (F i)) := by simp [vec, vecL, h]
theorem vec_congr {n : Nat} {F G : Nat → Int} (h : ∀ i, i < n → F i = G i) : vec n F = vec n G := by
  rw [vec, vec, vecL, vecL, List.map_congr_left fun i hi => by rw [h i (List.mem_range.1 hi)]]
theorem vec_set (n : Nat) (F : Nat → Int) (i : Nat) (v : Int) : (vec n F).setIfInBounds i (.int .i64 v) = vec n fun j => if j = i then v else F j := by
  apply Array.ext
  · simp [vec_size]
  · intro k h1 h2
    have hk : k < n := by simpa [vec_size] using h2
    rw [Array.getElem_setIfInBounds]
    by_cases e : i = k
    · subst e; simp [vec, vecL]
    · simp [e, Ne.symm e, vec, vecL]
    · simpa [vec_size] using hk
theorem vec_part (n : Nat) (F : Nat → Int) (o k : Nat) (h : o + k ≤ n) : (vec n F).extract o (o + k) = vec k fun j => F (o + j) := by
  apply Array.ext
  · simp [vec_size]; omega
  · intro j h1 h2
    simp [vec, vecL]
theorem vec_one (n : Nat) (F : Nat → Int) : (vec n F).all (·.oneCell') = true := by
  refine Array.all_eq_true_iff_forall_mem.2 fun v hv => ?_
  simp only [vec, vecL, List.mem_toArray, List.mem_map] at hv
  obtain ⟨i, -, rfl⟩ := hv; rfl
theorem vecL_one (n : Nat) (F : Nat → Int) : ∀ v ∈ vecL n F, v.oneCell' = true := by
  intro v hv
  simp only [vecL, List.mem_map] at hv
  obtain ⟨i, -, rfl⟩ := hv; rfl
theorem vec_const (n : Nat) (c : Int) : vec n (fun _ => c) = Array.replicate n (.int .i64 c) := by
  apply Array.ext
  · simp [vec_size]
  · intro j h1 h2; simp [vec, vecL]

/-- Block g is a variable of n integers. -/
def Blk (w : World) (g : Nat) (T : TypeId) (n : Nat) (F : Nat → Int) : Prop := w.heap[g]? = some (.cells (vec n F) T (0, 0))
theorem blk_lt {w : World} {g n : Nat} {T : TypeId} {F : Nat → Int} (h : Blk w g T n F) : g < w.heap.size := (Array.getElem?_eq_some_iff.1 h).1
theorem blk_cell {w : World} {g n : Nat} {T : TypeId} {F : Nat → Int} (h : Blk w g T n F) (i : Nat) (hi : i < n) : w.cell? ⟨g, i, none⟩ = some (.int .i64 (F i)) := by
  rw [cell_of_row w g i _ _ _ h, vec_at n F i hi]
theorem blk_frozen {w : World} {g n : Nat} {T : TypeId} {F : Nat → Int} (h : Blk w g T n F) (i : Nat) : w.frozen? ⟨g, i, none⟩ = false := frozen_of_row w g i _ _ h
theorem blk_set {w : World} {g n : Nat} {T : TypeId} {F : Nat → Int} (h : Blk w g T n F) (i : Nat) (v : Int) : Blk (w.setCell ⟨g, i, none⟩ (.int .i64 v)) g T n fun j => if j = i then v else F j := by
  have := heap_setCell_same w g i _ T (.int .i64 v) h
  rw [vec_set] at this; exact this
theorem blk_other {w : World} {g n : Nat} {T : TypeId} {F : Nat → Int} (h : Blk w g T n F) (a : Addr) (v : Value) (hne : g ≠ a.block) : Blk (w.setCell a v) g T n F := by
  unfold Blk; rw [heap_setCell_other w a g v hne]; exact h
theorem blk_congr {w : World} {g n : Nat} {T : TypeId} {F G : Nat → Int} (h : Blk w g T n F) (e : ∀ i, i < n → F i = G i) : Blk w g T n G := by
  unfold Blk; rw [← vec_congr e]; exact h
theorem blk_below {w w' : World} {g n : Nat} {T : TypeId} {F : Nat → Int} (h : Blk w g T n F) (hb : Below w.heap.size w w') : Blk w' g T n F := by
  unfold Blk; rw [hb.block g (blk_lt h)]; exact h
theorem blk_grown {w w' : World} {g n : Nat} {T : TypeId} {F : Nat → Int} {row : Option Nat} (h : Blk w g T n F) (hb : w.grownBy w' row) (hr : row ≠ some g) : Blk w' g T n F := by
  unfold Blk; rw [hb.block g (blk_lt h) (Ne.symm hr)]; exact h
theorem blk_draws {w : World} {g n : Nat} {T : TypeId} {F : Nat → Int} (h : Blk w g T n F) (k : Nat) : Blk (w.drewN k) g T n F := h
theorem blk_new (w : World) (n : Nat) (T : TypeId) (F : Nat → Int) : Blk (w.alloc (.cells (vec n F) T)) w.heap.size T n F := heap_alloc_new w _
theorem grown_below {w w' : World} {B : Nat} {row : Option Nat} (h : w.grownBy w' row) (hr : ∀ k, row = some k → B ≤ k) (hB : B ≤ w.heap.size) : Below B w w' := (Below.refl _ _).grown h hB hr

/-- The whole variable is read. -/
theorem wpList_loadVec {P : Program} {ops : Array Oper} {rest : List Oper} {o : Oper} {a : Act} {Q : Exit → Act → World → Prop} {W : World} {g n m : Nat} {T T' e : TypeId} {F : Nat → Int} (hb : Blk W g T n F)
    (d : Tmp) (_hd : o.dst = some d) (hgd : o.guard = none) (x : Operand) (ho : o.op = .load T' x) (hx : a.eval x = .pointer (some ⟨g, 0, none⟩)) (hu : P.underlying T' = some (.array m e)) (hi : (P.info? T').map (·.size) = some n)
    (h : wpList P ops Q rest (a.put o.dst (.agg (vec n F))) W) : wpList P ops Q (o :: rest) a W :=
  wpList_load_row hgd T' x ho g hx T (vec n F) (0, 0) _ hb hu rfl (by rw [hi, vec_size]) h

/-- The whole variable is written. -/
theorem wpList_storeVec {P : Program} {ops : Array Oper} {rest : List Oper} {o : Oper} {a : Act} {Q : Exit → Act → World → Prop} {W : World} {g n : Nat} {T T' : TypeId} {F0 F : Nat → Int} (hb : Blk W g T n F0)
    (hgd : o.guard = none) (x y : Operand) (ho : o.op = .store T' x y) (hx : a.eval x = .pointer (some ⟨g, 0, none⟩)) (hy : a.eval y = .agg (vec n F)) (hi : (P.info? T').map (·.size) = some n)
    (h : ∀ w', Blk w' g T n F → W.grownBy w' (some g) → w'.heap.size = W.heap.size → wpList P ops Q rest (a.put o.dst undef) w') : wpList P ops Q (o :: rest) a W := by
  refine wpList_plain hgd fun K hK => ?_
  unfold Oper.wp execOp
  simp only [ho, hx, hy, Instr.storeAt, Instr.sureAddr, Sem.run_bind, Sem.run_pure, Result.andThen_ok, run_storeVar_row W g T T' (vec n F0) (vec n F) hb (by rw [hi, vec_size]) (by simp [vec_size]) (vec_one n F)]
  refine hK _ _ (h _ (setRow_heap W g _ _ T (0, 0) hb) ⟨rfl, rfl, rfl, by simp, fun k hk hr => setRow_other W g k _ (fun e => hr (by rw [e]))⟩ (by simp))

/-- A new variable of zeros. -/
theorem wpList_allocVec {P : Program} {ops : Array Oper} {rest : List Oper} {o : Oper} {a : Act} {Q : Exit → Act → World → Prop} {W : World} {T : TypeId} (n : Nat)
    (d : Tmp) (_hd : o.dst = some d) (hgd : o.guard = none) (ho : o.op = .alloc T) (hz : ∀ w, (zeroValue T).run P w = .ok (.agg (vec n fun _ => 0)) w)
    (h : ∀ w', Blk w' W.heap.size T n (fun _ => 0) → Below W.heap.size W w' → w'.heap.size = W.heap.size + 1 → wpList P ops Q rest (a.put o.dst (.pointer (some ⟨W.heap.size, 0, none⟩))) w') : wpList P ops Q (o :: rest) a W := by
  refine wpList_plain hgd fun K hK => ?_
  unfold Oper.wp execOp
  simp only [ho, Instr.alloc, Sem.run_bind, hz, Result.andThen_ok]
  simp [newVar, newRow, Value.cells]
  exact hK _ _ (h _ (blk_new W n T _) ((Below.refl _ _).alloc (Nat.le_refl _) _) (by simp))

/-- A value of integers goes into a new variable. -/
theorem wpList_boxVec {P : Program} {ops : Array Oper} {rest : List Oper} {o : Oper} {a : Act} {Q : Exit → Act → World → Prop} {W : World} {T : TypeId} (n : Nat) (F : Nat → Int)
    (d : Tmp) (_hd : o.dst = some d) (hgd : o.guard = none) (x : Operand) (ho : o.op = .box T x) (hx : a.eval x = .agg (vec n F))
    (h : ∀ w', Blk w' W.heap.size T n F → Below W.heap.size W w' → w'.heap.size = W.heap.size + 1 → wpList P ops Q rest (a.put o.dst (.pointer (some ⟨W.heap.size, 0, none⟩))) w') : wpList P ops Q (o :: rest) a W := by
  refine wpList_plain hgd fun K hK => ?_
  unfold Oper.wp execOp
  simp only [ho, hx, Instr.box, Sem.run_bind]
  simp [newVar, newRow, Value.cells]
  exact hK _ _ (h _ (blk_new W n T _) ((Below.refl _ _).alloc (Nat.le_refl _) _) (by simp))

/-- A value of zeros, written out as 'T{}'. -/
theorem wpList_buildVec {P : Program} {ops : Array Oper} {rest : List Oper} {o : Oper} {a : Act} {Q : Exit → Act → World → Prop} {W : World} {T : TypeId} {n : Nat} {F : Nat → Int} (d : Tmp) (_hd : o.dst = some d)
    (hgd : o.guard = none) (ho : o.op = .build T #[]) (hz : P.built T [] = some (vec n F)) (h : wpList P ops Q rest (a.put o.dst (.agg (vec n F))) W) : wpList P ops Q (o :: rest) a W := by
  refine wpList_plain hgd fun K hK => ?_
  unfold Oper.wp execOp
  simp [ho, run_build W T #[] _ hz, Result.andThen_ok]
  exact hK _ _ h
/-- The first n elements of a variable, as a slice. -/
theorem wpList_sliceVec {P : Program} {ops : Array Oper} {rest : List Oper} {o : Oper} {a : Act} {Q : Exit → Act → World → Prop} {W : World} {T E : TypeId} {g b m s : Nat} (n : Nat) (d : Tmp) (_hd : o.dst = some d)
    (hgd : o.guard = none) (x i : Operand) (ho : o.op = .slice T x none (some i) none) (hx : a.eval x = .pointer (some ⟨g, b, none⟩)) (hi : a.eval i = .int .i64 n) (hu : P.underlying T = some (.array m E)) (hs : ∀ w, (sizeOf E).run P w = .ok s w)
    (hn : n ≤ m) (h : wpList P ops Q rest (a.put o.dst (.slice (some ⟨g, b, none⟩) n m)) W) : wpList P ops Q (o :: rest) a W := by
  refine wpList_plain hgd fun K hK => ?_
  unfold Oper.wp execOp
  have hle : (0 : Int) ≤ n ∧ (n : Int) ≤ m := ⟨by omega, by omega⟩
  simp only [ho, Option.map_some, Option.map_none, hx, hi, Instr.sliceAt, Instr.sureAddr, Sem.run_bind, Sem.run_pure, Result.andThen_ok, run_underlying hu, Instr.sliceBounds, Instr.sliceBound, asIntOf, if_pos hle, hs, Int.toNat_natCast, Nat.zero_mul, addr_add, Nat.add_zero, Nat.sub_zero, ite_self]
  exact hK _ _ h
/-- An element of a value of integers. -/
theorem wpList_indexVec {P : Program} {ops : Array Oper} {rest : List Oper} {o : Oper} {a : Act} {Q : Exit → Act → World → Prop} {W : World} {T E : TypeId} {n : Nat} {F : Nat → Int} (k : Nat)
    (d : Tmp) (_hd : o.dst = some d) (hgd : o.guard = none) (x i : Operand) (ho : o.op = .index T x i) (hx : a.eval x = .agg (vec n F)) (hi : a.eval i = .int .i64 k) (hu : P.underlying T = some (.array n E)) (hE : ∀ w, (isAgg E).run P w = .ok false w) (hs : ∀ w, (sizeOf E).run P w = .ok 1 w)
    (hk : k < n) (h : wpList P ops Q rest (a.put o.dst (.int .i64 (F k))) W) : wpList P ops Q (o :: rest) a W := by
  refine wpList_plain hgd fun K hK => ?_
  unfold Oper.wp execOp
  simp only [ho, hx, hi, Instr.index, Sem.run_bind, asIntOf, Sem.run_pure, Result.andThen_ok, run_underlying hu]
  rw [if_pos ⟨by omega, by omega⟩]
  simp only [Sem.run_bind, hs, hE, Result.andThen_ok, part, Int.toNat_natCast, Nat.mul_one]
  simp [vec_at n F k hk]
  exact hK _ _ h
/-- A row of a value of rows of integers. -/
theorem wpList_indexRow {P : Program} {ops : Array Oper} {rest : List Oper} {o : Oper} {a : Act} {Q : Exit → Act → World → Prop} {W : World} {T E : TypeId} {n m s : Nat} {F : Nat → Int} (k : Nat)
    (d : Tmp) (_hd : o.dst = some d) (hgd : o.guard = none) (x i : Operand) (ho : o.op = .index T x i) (hx : a.eval x = .agg (vec n F)) (hi : a.eval i = .int .i64 k) (hu : P.underlying T = some (.array m E)) (hE : ∀ w, (isAgg E).run P w = .ok true w) (hs : ∀ w, (sizeOf E).run P w = .ok s w)
    (hk : k < m) (hn : k * s + s ≤ n) (h : wpList P ops Q rest (a.put o.dst (.agg (vec s fun j => F (k * s + j)))) W) : wpList P ops Q (o :: rest) a W := by
  refine wpList_plain hgd fun K hK => ?_
  unfold Oper.wp execOp
  simp only [ho, hx, hi, Instr.index, Sem.run_bind, asIntOf, Sem.run_pure, Result.andThen_ok, run_underlying hu]
  rw [if_pos ⟨by omega, by omega⟩]
  simp only [Sem.run_bind, hs, hE, Result.andThen_ok, part, Int.toNat_natCast, if_true, vec_part n F (k * s) s hn]
  simp
  exact hK _ _ h
/-- The address of an element of a variable. -/
theorem wpList_indexAt {P : Program} {ops : Array Oper} {rest : List Oper} {o : Oper} {a : Act} {Q : Exit → Act → World → Prop} {W : World} {T E : TypeId} {g b m s : Nat} (k : Nat)
    (d : Tmp) (_hd : o.dst = some d) (hgd : o.guard = none) (x i : Operand) (ho : o.op = .indexAddr T x i) (hx : a.eval x = .pointer (some ⟨g, b, none⟩)) (hi : a.eval i = .int .i64 k) (hu : P.underlying T = some (.array m E)) (hs : ∀ w, (sizeOf E).run P w = .ok s w)
    (hk : k < m) (h : wpList P ops Q rest (a.put o.dst (.pointer (some ⟨g, b + k * s, none⟩))) W) : wpList P ops Q (o :: rest) a W := by
  refine wpList_plain hgd fun K hK => ?_
  unfold Oper.wp execOp
  simp only [ho, hx, hi, Instr.indexAt, Instr.sureAddr, Sem.run_bind, asIntOf, Sem.run_pure, Result.andThen_ok, run_underlying hu]
  rw [if_pos ⟨by omega, by omega⟩]
  simp only [Sem.run_bind, hs, Result.andThen_ok, Int.toNat_natCast, addr_add]
  simp
  exact hK _ _ h
end Go.Proofs.Ytinhdcchfeokpaa
/-
  Lists of lists of integers in memory: what came in, and what the call owns.
-/
namespace Go.Proofs.Ytinhdcchfeokpaa
open Go.RowKit

def ints (r : List Int) : List Value := r.map (.int .i64)
theorem ints_len (r : List Int) : (ints r).length = r.length := by simp [ints]
theorem ints_at (r : List Int) (i : Nat) (h : i < r.length) : (ints r)[i]? = some (.int .i64 r[i]) := by simp [ints, h]
theorem ints_set (r : List Int) (i : Nat) (x : Int) : (ints r).set i (.int .i64 x) = ints (r.set i x) := by simp [ints, List.map_set]
theorem Try.infoInt : (Try.prog.info? 3).map (fun i => (i.zero, i.size, i.bytes)) = some (some (.int .i64 0), 1, 8) := by kernel_rfl
theorem Try.infoInts : (Try.prog.info? 22).map (fun i => (i.zero, i.size, i.bytes)) = some (some (.slice none 0 0), 1, 24) := by kernel_rfl

/-- The slice v reads as the integers r. -/
def InRow (w : World) (v : Value) (r : List Int) : Prop :=
  ∃ a c, v = .slice a r.length c ∧ r.length ≤ maxLen ∧ (r.length = 0 ∨ ∃ g o, a = some ⟨g, o, none⟩ ∧ g < w.heap.size ∧ ∀ i, (h : i < r.length) → w.cell? ⟨g, o + i, none⟩ = some (.int .i64 r[i]))
/-- The slice of slices v reads as m. -/
def InMat (w : World) (v : Value) (m : List (List Int)) : Prop :=
  ∃ a c, v = .slice a m.length c ∧ m.length ≤ maxLen ∧ (m.length = 0 ∨ ∃ g o, a = some ⟨g, o, none⟩ ∧ g < w.heap.size ∧ ∀ i, (h : i < m.length) → ∃ u, w.cell? ⟨g, o + i, none⟩ = some u ∧ InRow w u m[i])

theorem inRow_below {w w' : World} {v : Value} {r : List Int} (h : InRow w v r) (hb : Below w.heap.size w w') : InRow w' v r := by
  obtain ⟨a, c, hv, hm, hp⟩ := h
  refine ⟨a, c, hv, hm, ?_⟩
  rcases hp with h0 | ⟨g, o, ha, hg, hc⟩
  · exact .inl h0
  · exact .inr ⟨g, o, ha, Nat.lt_of_lt_of_le hg hb.size, fun i hi => below_cell hb hg (hc i hi)⟩
theorem inMat_below {w w' : World} {v : Value} {m : List (List Int)} (h : InMat w v m) (hb : Below w.heap.size w w') : InMat w' v m := by
  obtain ⟨a, c, hv, hm, hp⟩ := h
  refine ⟨a, c, hv, hm, ?_⟩
  rcases hp with h0 | ⟨g, o, ha, hg, hc⟩
  · exact .inl h0
  · refine .inr ⟨g, o, ha, Nat.lt_of_lt_of_le hg hb.size, fun i hi => ?_⟩
    obtain ⟨u, hu, hr⟩ := hc i hi
    exact ⟨u, below_cell hb hg hu, inRow_below hr hb⟩
theorem inRow_nil (w : World) : InRow w (.slice none 0 0) [] := ⟨none, 0, rfl, Nat.zero_le _, .inl rfl⟩
theorem inMat_nil (w : World) : InMat w (.slice none 0 0) [] := ⟨none, 0, rfl, Nat.zero_le _, .inl rfl⟩

/-- What 'open_int_rows' hands over. -/
theorem inMat_of {w : World} {base : Nat} {a : Addr} {len cap : Nat} {A : Nat → Option Addr} {L C : Nat → Nat} {Z : Nat → List Int} (hl : len ≤ cap) (hm : cap ≤ maxLen)
    (h : ∀ r, r < cap → w.cell? (a.add r) = some (.slice (A r) (L r) (C r)) ∧ L r ≤ C r ∧ C r ≤ maxLen ∧ (Z r).length = C r ∧ (∀ n ∈ Z r, (Lit.int .i64 n).wf = true) ∧ (A r = none → C r = 0) ∧
      ∀ a', A r = some a' → base ≤ a'.block ∧ ∀ c, c < C r → w.cell? (a'.add c) = some (.int .i64 ((Z r).getD c 0))) : ∃ m, InMat w (.slice (some a) len cap) m := by
  refine ⟨(List.range len).map fun r => (Z r).take (L r), some a, cap, by simp, by simp; omega, ?_⟩
  by_cases h0 : len = 0
  · exact .inl (by simpa using h0)
  · refine .inr ?_
    obtain ⟨g, o, spot⟩ := a
    have hc := (h 0 (by omega)).1
    have hspot : spot = none := by simpa [Addr.add] using World.cell?_spot hc
    subst hspot
    refine ⟨g, o, rfl, by simpa [Addr.add] using World.block_lt_of_cell? w _ hc, fun i hi => ?_⟩
    simp only [List.length_map, List.length_range] at hi
    obtain ⟨h1, h2, h3, h4, -, h5, h6⟩ := h i (by omega)
    rw [addr_add] at h1
    refine ⟨_, h1, ?_⟩
    simp only [List.getElem_map, List.getElem_range]
    have hlen : ((Z i).take (L i)).length = L i := by rw [List.length_take]; omega
    refine ⟨A i, C i, by rw [hlen], by omega, ?_⟩
    by_cases hz : L i = 0
    · exact .inl (by omega)
    · refine .inr ?_
      cases ha : A i with
      | none => have := h5 ha; omega
      | some a' =>
        obtain ⟨-, h7⟩ := h6 a' ha
        obtain ⟨g', o', spot'⟩ := a'
        have hc' := h7 0 (by omega)
        have hspot' : spot' = none := by simpa [Addr.add] using World.cell?_spot hc'
        subst hspot'
        refine ⟨g', o', rfl, by simpa [Addr.add] using World.block_lt_of_cell? w _ hc', fun j hj => ?_⟩
        have := h7 j (by omega)
        rw [addr_add] at this
        rw [this, List.getElem_take, List.getD_eq_getElem?_getD, List.getElem?_eq_getElem (by omega)]; rfl

theorem inRow_own {w : World} {base : Nat} {v : Value} {r : List Int} (h : w.ownsRow base 3 1 v r.length (ints r)) : InRow w v r := by
  rcases h.2 with ⟨rfl, h0⟩ | ⟨g, cap, cur, rfl, hbg, hg, hc, hm, _⟩
  · exact ⟨none, 0, by rw [h0], by omega, .inl h0⟩
  · refine ⟨_, _, rfl, by omega, .inr ⟨g, 0, rfl, (Array.getElem?_eq_some_iff.1 hg).1, fun i hi => ?_⟩⟩
    rw [Nat.zero_add, h.cellAt i (by omega), ints_at r i hi]

/-- The call owns the list of lists: the blocks of the outer one and of its rows lie from lo up to hi, and apart. -/
def OwnMat (w : World) (lo hi : Nat) (v : Value) (m : List (List Int)) : Prop :=
  ∃ vs : List Value, w.ownsRow lo 22 1 v m.length vs ∧ (∀ k, v.ownBlock = some k → k < hi) ∧
    (∀ i, (h : i < m.length) → w.ownsRow lo 3 1 (vs.getD i undef) m[i].length (ints m[i]) ∧ ∀ k, (vs.getD i undef).ownBlock = some k → k < hi) ∧
    ∀ i j, i < j → j < m.length → (vs.getD i undef).ownBlock = none ∨ (vs.getD i undef).ownBlock ≠ (vs.getD j undef).ownBlock
theorem ownMat_nil (w : World) (lo hi : Nat) : OwnMat w lo hi (.slice none 0 0) [] :=
  ⟨[], World.ownsRow_nil _ _ _ _, (fun k h => by simp [Value.ownBlock] at h), (fun i h => absurd h (Nat.not_lt_zero _)), fun i j _ h => absurd h (Nat.not_lt_zero _)⟩
theorem own_types {w : World} {b1 b2 e1 e2 n1 n2 : Nat} {v1 v2 : Value} {xs ys : List Value} (h1 : w.ownsRow b1 e1 1 v1 n1 xs) (h2 : w.ownsRow b2 e2 1 v2 n2 ys) (hne : e1 ≠ e2) : v1.ownBlock = none ∨ v1.ownBlock ≠ v2.ownBlock := by
  rcases h1.2 with ⟨rfl, _⟩ | ⟨g1, c1, cur1, rfl, _, hg1, _⟩
  · exact .inl rfl
  · rcases h2.2 with ⟨rfl, _⟩ | ⟨g2, c2, cur2, rfl, _, hg2, _⟩
    · exact .inr (by simp [Value.ownBlock])
    · refine .inr fun e => ?_
      simp only [Value.ownBlock, Option.some.injEq] at e
      subst e
      rw [hg1] at hg2
      simp only [Option.some.injEq, Obj.cells.injEq] at hg2
      exact hne hg2.2.1
theorem inMat_own {w : World} {lo hi : Nat} {v : Value} {m : List (List Int)} (h : OwnMat w lo hi v m) : InMat w v m := by
  obtain ⟨vs, ho, -, hr, -⟩ := h
  rcases ho.2 with ⟨rfl, h0⟩ | ⟨g, cap, cur, rfl, hbg, hg, hc, hm, _⟩
  · exact ⟨none, 0, by rw [h0], by omega, .inl h0⟩
  · refine ⟨_, _, rfl, by omega, .inr ⟨g, 0, rfl, (Array.getElem?_eq_some_iff.1 hg).1, fun i hi => ⟨vs.getD i undef, ?_, inRow_own (hr i hi).1⟩⟩⟩
    rw [Nat.zero_add]; exact cell_held ho hi

/-- What has turned lies from lo up to hi, or is new. -/
structure Within (lo hi : Nat) (w w' : World) : Prop where
  os : w'.os = w.os
  tape : w'.tape = w.tape
  output : w'.output = w.output
  size : w.heap.size ≤ w'.heap.size
  block : ∀ k, k < w.heap.size → (k < lo ∨ hi ≤ k) → w'.heap[k]? = w.heap[k]?
theorem within_refl (lo hi : Nat) (w : World) : Within lo hi w w := ⟨rfl, rfl, rfl, Nat.le_refl _, fun _ _ _ => rfl⟩
theorem within_trans {lo hi : Nat} {a b c : World} (h : Within lo hi a b) (k : Within lo hi b c) : Within lo hi a c :=
  ⟨k.os.trans h.os, k.tape.trans h.tape, k.output.trans h.output, Nat.le_trans h.size k.size, fun i hi hr => (k.block i (Nat.lt_of_lt_of_le hi h.size) hr).trans (h.block i hi hr)⟩
theorem within_below {lo hi : Nat} {w w' : World} (h : Below w.heap.size w w') : Within lo hi w w' := ⟨h.os, h.tape, h.output, h.size, fun k hk _ => h.block k hk⟩
theorem within_grown {lo hi : Nat} {w w' : World} {row : Option Nat} (h : w.grownBy w' row) (hr : ∀ k, row = some k → lo ≤ k ∧ k < hi) : Within lo hi w w' :=
  ⟨h.os, h.tape, h.output, h.size, fun k hk ho => h.block k hk fun e => by have := hr k e.symm; omega⟩
theorem below_within {lo hi B : Nat} {w w' : World} (h : Within lo hi w w') (hB : B ≤ lo) (hw : B ≤ w.heap.size) : Below B w w' :=
  ⟨h.os, h.tape, h.output, h.size, fun k hk => h.block k (by omega) (.inl (by omega))⟩
theorem own_within {lo hi base e n : Nat} {w w' : World} {v : Value} {xs : List Value} (h : w.ownsRow base e 1 v n xs) (hw : Within lo hi w w') (hk : ∀ k, v.ownBlock = some k → k < lo ∨ hi ≤ k) : w'.ownsRow base e 1 v n xs := by
  refine ⟨h.1, ?_⟩
  rcases h.2 with hn | ⟨g, cap, cur, rfl, hbg, hg, r⟩
  · exact .inl hn
  · exact .inr ⟨g, cap, cur, rfl, hbg, by rw [hw.block g (Array.getElem?_eq_some_iff.1 hg).1 (hk g rfl)]; exact hg, r⟩
theorem ownMat_within {lo hi lo' hi' : Nat} {w w' : World} {v : Value} {m : List (List Int)} (h : OwnMat w lo hi v m) (hw : Within lo' hi' w w') (ha : hi ≤ lo' ∨ hi' ≤ lo) : OwnMat w' lo hi v m := by
  obtain ⟨vs, ho, hoh, hr, hap⟩ := h
  refine ⟨vs, own_within ho hw (fun k e => ?_), hoh, fun i hi => ⟨own_within (hr i hi).1 hw (fun k e => ?_), (hr i hi).2⟩, hap⟩
  · have h1 := (ho.lt k e).1; have h2 := hoh k e; omega
  · have h1 := ((hr i hi).1.lt k e).1; have h2 := (hr i hi).2 k e; omega
theorem ownMat_below {lo hi : Nat} {w w' : World} {v : Value} {m : List (List Int)} (h : OwnMat w lo hi v m) (hw : Below w.heap.size w w') : OwnMat w' lo hi v m := by
  obtain ⟨vs, ho, hoh, hr, hap⟩ := h
  exact ⟨vs, own_below ho hw, hoh, fun i hi => ⟨own_below (hr i hi).1 hw, (hr i hi).2⟩, hap⟩
theorem ownMat_mono {lo hi lo' hi' : Nat} {w : World} {v : Value} {m : List (List Int)} (h : OwnMat w lo hi v m) (hl : lo' ≤ lo) (hh : hi ≤ hi') : OwnMat w lo' hi' v m := by
  obtain ⟨vs, ho, hoh, hr, hap⟩ := h
  exact ⟨vs, own_base ho hl, fun k e => Nat.lt_of_lt_of_le (hoh k e) hh, fun i hi => ⟨own_base (hr i hi).1 hl, fun k e => Nat.lt_of_lt_of_le ((hr i hi).2 k e) hh⟩, hap⟩

/-- A row of it. -/
theorem ownMat_row {w : World} {lo hi g n c : Nat} {m : List (List Int)} (h : OwnMat w lo hi (.slice (some ⟨g, 0, none⟩) n c) m) (i : Nat) (h' : i < m.length) :
    ∃ u, w.cell? ⟨g, i, none⟩ = some u ∧ w.frozen? ⟨g, i, none⟩ = false ∧ w.ownsRow lo 3 1 u m[i].length (ints m[i]) ∧ (∀ k, u.ownBlock = some k → k < hi) ∧
      ∀ w' r', w'.ownsRow lo 3 1 u m[i].length (ints r') → r'.length = m[i].length → w.grownBy w' u.ownBlock → OwnMat w' lo hi (.slice (some ⟨g, 0, none⟩) n c) (m.set i r') := by
  obtain ⟨vs, ho, hoh, hr, hap⟩ := h
  have hn : n = m.length := by
    rcases ho.2 with ⟨e, _⟩ | ⟨g', cap, cur, e, _⟩
    · cases e
    · cases e; rfl
  subst hn
  refine ⟨vs.getD i undef, cell_held ho h', ho.frozenAt i, (hr i h').1, (hr i h').2, fun w' r' hown hl hg => ⟨vs, ?_, hoh, fun j hj => ?_, fun a b hab hb => hap a b hab (by simpa using hb)⟩⟩
  · rw [List.length_set]
    exact ho.kept hg (own_types ho (hr i h').1 (by decide))
  · have hj' : j < m.length := by simpa using hj
    by_cases e : i = j
    · subst e
      simp only [List.getElem_set_self]
      exact ⟨hl ▸ hown, (hr i h').2⟩
    · simp only [List.getElem_set_ne e]
      refine ⟨(hr j hj').1.kept hg ?_, (hr j hj').2⟩
      by_cases hij : i < j
      · rcases hap i j hij hj' with h0 | h0
        · cases hv : (vs.getD j undef).ownBlock with
          | none => exact .inl rfl
          | some k => rw [h0]; exact .inr (by simp)
        · exact .inr (Ne.symm h0)
      · rcases hap j i (by omega) h' with h0 | h0
        · exact .inl h0
        · exact .inr h0

/-- A new row in the place of an old one. -/
theorem ownMat_put {w : World} {lo hi hi' g n c : Nat} {m : List (List Int)} {r : List Int} {u : Value} (h : OwnMat w lo hi (.slice (some ⟨g, 0, none⟩) n c) m) (i : Nat) (h' : i < m.length)
    (hu : w.ownsRow hi 3 1 u r.length (ints r)) (hlo : lo ≤ hi) (hsz : w.heap.size ≤ hi') (hh : hi ≤ hi') : OwnMat (w.setCell ⟨g, i, none⟩ u) lo hi' (.slice (some ⟨g, 0, none⟩) n c) (m.set i r) := by
  obtain ⟨vs, ho, hoh, hr, hap⟩ := h
  have hl : vs.length = m.length := by have := ho.1; omega
  have hn : n = m.length := by
    rcases ho.2 with ⟨e, _⟩ | ⟨g', cap, cur, e, _⟩
    · cases e
    · cases e; rfl
  subst hn
  obtain ⟨h1, h2⟩ := ho.stored i u
  refine ⟨vs.set i u, by rw [List.length_set]; exact h1, fun k e => Nat.lt_of_lt_of_le (hoh k e) hh, fun j hj => ?_, fun a b hab hb => ?_⟩
  · have hj' : j < m.length := by simpa using hj
    by_cases e : i = j
    · subst e
      have e1 : (vs.set i u).getD i undef = u := by simp [List.getD_eq_getElem?_getD, hl, h']
      rw [e1]; simp only [List.getElem_set_self]
      exact ⟨own_base (hu.kept h2 (own_types hu ho (by decide))) hlo, fun k hk => Nat.lt_of_lt_of_le (hu.lt k hk).2 hsz⟩
    · have e1 : (vs.set i u).getD j undef = vs.getD j undef := by simp [List.getD_eq_getElem?_getD, e]
      rw [e1]; simp only [List.getElem_set_ne e]
      exact ⟨(hr j hj').1.kept h2 (own_types (hr j hj').1 ho (by decide)), fun k hk => Nat.lt_of_lt_of_le ((hr j hj').2 k hk) hh⟩
  · have hb' : b < m.length := by simpa using hb
    by_cases ea : i = a
    · subst ea
      have e1 : (vs.set i u).getD i undef = u := by simp [List.getD_eq_getElem?_getD, hl, h']
      have e2 : (vs.set i u).getD b undef = vs.getD b undef := by simp [List.getD_eq_getElem?_getD, show i ≠ b by omega]
      rw [e1, e2]
      cases hk : u.ownBlock with
      | none => exact .inl rfl
      | some k =>
        refine .inr fun e => ?_
        have q1 := (hu.lt k hk).1; have q2 := (hr b hb').2 k e.symm; omega
    · have e1 : (vs.set i u).getD a undef = vs.getD a undef := by simp [List.getD_eq_getElem?_getD, ea]
      rw [e1]
      by_cases eb : i = b
      · subst eb
        have e2 : (vs.set i u).getD i undef = u := by simp [List.getD_eq_getElem?_getD, hl, h']
        rw [e2]
        cases hk : (vs.getD a undef).ownBlock with
        | none => exact .inl rfl
        | some k =>
          refine .inr fun e => ?_
          have q1 := (hu.lt k e.symm).1; have q2 := (hr a (by omega)).2 k hk; omega
      · have e2 : (vs.set i u).getD b undef = vs.getD b undef := by simp [List.getD_eq_getElem?_getD, eb]
        rw [e2]; exact hap a b hab hb'
/-- A new list of n empty rows. -/
theorem ownMat_fresh {w : World} {lo g n c : Nat} (hi : Nat) (h : w.ownsRow lo 22 1 (.slice (some ⟨g, 0, none⟩) n c) n (List.replicate n (.slice none 0 0))) (hg : g < hi) : OwnMat w lo hi (.slice (some ⟨g, 0, none⟩) n c) (List.replicate n []) := by
  refine ⟨_, by rw [List.length_replicate]; exact h, fun k e => ?_, fun i hi => ?_, fun i j _ hj => ?_⟩
  · simp only [Value.ownBlock, Option.some.injEq] at e; omega
  · have hi' : i < n := by simpa using hi
    have e1 : (List.replicate n (Value.slice none 0 0)).getD i undef = .slice none 0 0 := by simp [List.getD_eq_getElem?_getD, hi']
    rw [e1]; simp only [List.getElem_replicate]
    exact ⟨World.ownsRow_nil _ _ _ _, fun k e => by simp [Value.ownBlock] at e⟩
  · have hj' : j < n := by simpa using hj
    have e1 : (List.replicate n (Value.slice none 0 0)).getD i undef = .slice none 0 0 := by simp [List.getD_eq_getElem?_getD, show i < n by omega]
    rw [e1]; exact .inl rfl

/-- One row more: its slice has been appended. -/
theorem ownMat_push {w w' : World} {lo hi hi' : Nat} {v v' u : Value} {m : List (List Int)} {r : List Int} {vs : List Value}
    (hr : ∀ i, (h : i < m.length) → w.ownsRow lo 3 1 (vs.getD i undef) m[i].length (ints m[i]) ∧ ∀ k, (vs.getD i undef).ownBlock = some k → k < hi)
    (hap : ∀ i j, i < j → j < m.length → (vs.getD i undef).ownBlock = none ∨ (vs.getD i undef).ownBlock ≠ (vs.getD j undef).ownBlock)
    (hv : w.ownsRow lo 22 1 v m.length vs) (hu : w.ownsRow hi 3 1 u r.length (ints r)) (hlo : lo ≤ hi) (hsz : w.heap.size ≤ hi') (hh : hi ≤ hi')
    (hg : w.grownBy w' v.ownBlock) (ho : w'.ownsRow lo 22 1 v' (m.length + 1) (vs ++ [u])) (hoh : ∀ k, v'.ownBlock = some k → k < hi') : OwnMat w' lo hi' v' (m ++ [r]) := by
  have hl : vs.length = m.length := by have := hv.1; omega
  refine ⟨vs ++ [u], by simpa using ho, hoh, fun i h => ?_, fun i j hij hj => ?_⟩
  · by_cases e : i < m.length
    · have e1 : (vs ++ [u]).getD i undef = vs.getD i undef := by simp [List.getD_eq_getElem?_getD, List.getElem?_append_left (show i < vs.length by omega)]
      have e2 : (m ++ [r])[i] = m[i] := List.getElem_append_left e
      rw [e1, e2]
      refine ⟨(hr i e).1.kept hg ?_, fun k hk => Nat.lt_of_lt_of_le ((hr i e).2 k hk) hh⟩
      exact own_types (hr i e).1 hv (by decide)
    · have e0 : i = m.length := by simp at h; omega
      subst e0
      have e1 : (vs ++ [u]).getD m.length undef = u := by rw [← hl]; simp [List.getD_eq_getElem?_getD]
      have e2 : (m ++ [r])[m.length] = r := by simp
      rw [e1, e2]
      exact ⟨own_base (hu.kept hg (own_types hu hv (by decide))) hlo, fun k hk => Nat.lt_of_lt_of_le (hu.lt k hk).2 hsz⟩
  · have hi' : i < m.length := by simp at hj; omega
    have e1 : (vs ++ [u]).getD i undef = vs.getD i undef := by simp [List.getD_eq_getElem?_getD, List.getElem?_append_left (show i < vs.length by omega)]
    rw [e1]
    by_cases e : j < m.length
    · have e2 : (vs ++ [u]).getD j undef = vs.getD j undef := by simp [List.getD_eq_getElem?_getD, List.getElem?_append_left (show j < vs.length by omega)]
      rw [e2]; exact hap i j hij e
    · have e0 : j = m.length := by simp at hj; omega
      subst e0
      have e2 : (vs ++ [u]).getD m.length undef = u := by rw [← hl]; simp [List.getD_eq_getElem?_getD]
      rw [e2]
      cases hb : (vs.getD i undef).ownBlock with
      | none => exact .inl rfl
      | some k =>
        refine .inr fun e => ?_
        have h1 := (hr i hi').2 k hb; have h2 := (hu.lt k e.symm).1; omega
end Go.Proofs.Ytinhdcchfeokpaa
/-
  The helpers of the exact laws on lists of integers: szIntS, toIntS, eqIntS, markIntS, heldIntS.
-/
namespace Go.Proofs.Ytinhdcchfeokpaa
open Go.RowKit

theorem szIntS_any (v : Value) (r : List Int) (left : Nat) (w : World) (hleft : left ≤ 2000000) (hin : InRow w v r) :
    Calls Try.prog 20 #[v, .int .i64 left] w fun e w' => e = .returned (.int .i64 (if left < r.length then -1 else (left - r.length : Nat))) ∧ w = w' := by
  obtain ⟨a, c, rfl, hm, -⟩ := hin
  unfold maxLen at hm
  by_cases h : left < r.length
  · go_enter Try.func20, Try.ntmps20
    go_wp2
    go_ret
    exact ⟨by simp, rfl⟩
  · go_enter Try.func20, Try.ntmps20
    go_wp2
    go_ret
    exact ⟨ret_int (by omega), rfl⟩

set_option maxHeartbeats 400000 in
theorem toIntS_any (v : Value) (r : List Int) (w : World) (hn : r.length ≤ 2000000) (hin : InRow w v r) :
    Calls Try.prog 7 #[v] w fun e w' => ∃ v', e = .returned v' ∧ w'.ownsRow w.heap.size 3 1 v' r.length (ints r) ∧ Below w.heap.size w w' := by
  obtain ⟨a, c, rfl, hm, hpl⟩ := hin
  unfold maxLen at hm
  rcases hpl with h0 | ⟨g, o, rfl, hg, hcell⟩
  · have hr : r = [] := List.eq_nil_of_length_eq_zero h0
    subst hr
    clear hm h0
    go_enter Try.func7, Try.ntmps7
    go_wp2_with (at_make; refine wpList_new w.heap.size 0 (.int .i64 0) rfl _ _ rfl Try.underlying22 Try.infoInt rfl (by decide) rfl rfl (by omega) (Nat.le_refl _) ?_; intro w1 hown1 hb1 hg1)
    have HO := hide hown1; have HB := hide hb1
    clear hown1 hb1 hg1
    go_wp2
    go_loop [4] (fun i => i = .int .i64 0) (fun _ => 0)
    case atStart => rfl
    case round =>
      obtain rfl := hrel
      go_wp2
      go_ret
      exact ⟨_, rfl, HO.out, HB.out⟩
  · have HC := hide hcell
    clear hcell
    obtain ⟨n, hnl⟩ : ∃ n, n = r.length := ⟨_, rfl⟩
    have hlen := hide hnl
    rw [← hnl] at hn hm ⊢
    clear hnl
    go_enter Try.func7, Try.ntmps7
    go_wp2_with (at_make; refine wpList_new w.heap.size n (.int .i64 0) rfl _ _ rfl Try.underlying22 Try.infoInt rfl (by decide) rfl rfl (by omega) (Nat.le_refl _) ?_; intro w1 hown1 hb1 hg1)
    have HO := hide hown1; have HB := hide hb1
    clear hown1 hb1 hg1
    go_wp2
    go_loopw [4] (fun i w' => ∃ k : Nat, k ≤ n ∧ i = .int .i64 k ∧ w'.ownsRow w.heap.size 3 1 (.slice (some ⟨w.heap.size, 0, none⟩) n n) n (fillTo (ints r) k (.int .i64 0)) ∧ Below w.heap.size w w') (fun i _ => n - (intOf i).toNat)
    case atStart => exact ⟨0, Nat.zero_le _, rfl, by rw [fill_zero, ints_len, ← hlen.out]; exact HO.out, HB.out⟩
    case round =>
      clear HO HB
      obtain ⟨k, hk, rfl, hown, hb⟩ := hrel
      have HO := hide hown; have HB := hide hb
      clear hown hb
      by_cases hlt : k < n
      · have hk' : k < r.length := by rw [← hlen.out]; exact hlt
        have hx : wr.cell? ⟨g, o + k, none⟩ = some (.int .i64 r[k]) := below_cell HB.out hg (HC.out k hk')
        have hx2 := cell_held HO.out hlt
        have hf2 := HO.out.frozenAt k
        have HS := HO.out.stored k (.int .i64 r[k])
        rw [fill_set _ k _ (by rw [ints_len]; exact hk') (.int .i64 r[k]) (by simp [ints])] at HS
        have HS := hide HS
        obtain ⟨y, hy⟩ : ∃ y, y = r[k] := ⟨_, rfl⟩
        rw [← hy] at hx HS
        clear hy
        go_wp2
        go_roundw
        case rel => exact ⟨k + 1, by omega, by go_num, HS.out.1, HB.out.setCell (Nat.le_refl _) _⟩
        case measure => simp [intOf]; omega
      · have HE : Hid (fillTo (ints r) k (.int .i64 0) = ints r) := hide (fill_all _ _ _ (by rw [ints_len, ← hlen.out]; omega))
        go_wp2
        go_ret
        exact ⟨_, rfl, by have := HO.out; rw [HE.out] at this; exact this, HB.out⟩

set_option maxHeartbeats 400000 in
theorem eqIntS_same (va vb : Value) (r : List Int) (w : World) (ha : InRow w va r) (hb : InRow w vb r) :
    Calls Try.prog 9 #[va, vb] w fun e w' => e = .returned (.bool true) ∧ Below w.heap.size w w' := by
  obtain ⟨a, ca, rfl, hm, hpa⟩ := ha
  obtain ⟨b, cb, rfl, -, hpb⟩ := hb
  unfold maxLen at hm
  by_cases h0 : r.length = 0
  · have hr : r = [] := List.eq_nil_of_length_eq_zero h0
    subst hr
    clear hpa hpb hm h0
    go_enter Try.func9, Try.ntmps9
    go_wp2
    go_loop [5] (fun i => i = .int .i64 0) (fun _ => 0)
    case atStart => rfl
    case round =>
      obtain rfl := hrel
      go_wp2
      go_ret
      exact ⟨rfl, Below.refl _ _⟩
  · obtain ⟨ga, oa, rfl, hga, hca⟩ := hpa.resolve_left h0
    obtain ⟨gb, ob, rfl, hgb, hcb⟩ := hpb.resolve_left h0
    have HA := hide hca; have HB := hide hcb
    clear hpa hpb hca hcb h0
    go_enter Try.func9, Try.ntmps9
    go_wp2
    go_loopw [5] (fun i w' => ∃ k : Nat, k ≤ r.length ∧ i = .int .i64 k ∧ Below w.heap.size w w') (fun i _ => r.length - (intOf i).toNat)
    case atStart => exact ⟨0, Nat.zero_le _, rfl, Below.refl _ _⟩
    case round =>
      obtain ⟨k, hk, rfl, hb⟩ := hrel
      by_cases hlt : k < r.length
      · have hxa : wr.cell? ⟨ga, oa + k, none⟩ = some (.int .i64 r[k]) := below_cell hb hga (HA.out k hlt)
        have hxb : wr.cell? ⟨gb, ob + k, none⟩ = some (.int .i64 r[k]) := below_cell hb hgb (HB.out k hlt)
        obtain ⟨y, hy⟩ : ∃ y, y = r[k] := ⟨_, rfl⟩
        rw [← hy] at hxa hxb
        clear hy
        have hb := hide hb
        go_wp2
        go_quiet (fail)
        go_wp2
        go_roundw
        case rel => exact ⟨k + 1, by omega, by go_num, below_draws hb.out _⟩
        case measure => simp [intOf]; omega
      · go_wp2
        go_ret
        exact ⟨rfl, hb⟩

/-- What markIntS leaves: n numbers from q on. -/
def markR (n q : Nat) : List Int := (List.range n).map fun i => ((q + i : Nat) : Int)
theorem markR_len (n q : Nat) : (markR n q).length = n := by simp [markR]
theorem markR_at (n q j : Nat) (h : j < (markR n q).length) : (markR n q)[j] = ((q + j : Nat) : Int) := by simp [markR]
theorem markR_set (n q j : Nat) (xs : List Value) (h : xs.length = n) (hj : j < n) : (ints (markR j q) ++ xs.drop j).set j (.int .i64 (q + j : Nat)) = ints (markR (j + 1) q) ++ xs.drop (j + 1) := by
  rw [List.set_append_right _ _ (by rw [ints_len, markR_len]; omega), ints_len, markR_len, Nat.sub_self, List.drop_eq_getElem_cons (by omega), List.set_cons_zero]
  rw [show markR (j + 1) q = markR j q ++ [((q + j : Nat) : Int)] by rw [markR, List.range_succ, List.map_append]; rfl, ints, ints, List.map_append, List.append_assoc]; rfl

/-- What returns the integers r, in memory of the call's own. -/
def IntsRes (r : List Int) (w : World) (e : Ending) (w' : World) : Prop := ∃ v, e = .returned v ∧ w'.ownsRow w.heap.size 3 1 v r.length (ints r) ∧ Below w.heap.size w w'
theorem intsRes_nil {w w' : World} (h : Below w.heap.size w w') : IntsRes [] w (.returned (.slice none 0 0)) w' := ⟨_, rfl, World.ownsRow_nil _ _ _ _, h⟩
end Go.Proofs.Ytinhdcchfeokpaa
/-
  The helpers of the exact laws on lists of lists of integers: szIntSS, toIntSS, eqIntSS, markIntSS, heldIntSS.
-/
namespace Go.Proofs.Ytinhdcchfeokpaa
open Go.RowKit

def cellsM (m : List (List Int)) : Nat := (m.map (·.length)).sum
theorem cells_snoc (m : List (List Int)) (k : Nat) (h : k < m.length) : cellsM (m.take (k + 1)) = cellsM (m.take k) + m[k].length := by
  rw [List.take_succ_eq_append_getElem h]; simp only [cellsM, List.map_append, List.sum_append, List.map_cons, List.map_nil, List.sum_cons, List.sum_nil]; omega
theorem cells_all (m : List (List Int)) (k : Nat) (h : m.length ≤ k) : cellsM (m.take k) = cellsM m := by rw [List.take_of_length_le h]
theorem cells_take (m : List (List Int)) (k : Nat) : cellsM (m.take k) ≤ cellsM m := by
  have h : m = m.take k ++ m.drop k := (List.take_append_drop k m).symm
  have : cellsM m = cellsM (m.take k) + cellsM (m.drop k) := by
    conv => lhs; rw [h]
    simp only [cellsM, List.map_append, List.sum_append]
  omega
theorem cells_row (m : List (List Int)) (k : Nat) (h : k < m.length) : m[k].length ≤ cellsM m := by
  have := cells_snoc m k h; have := cells_take m (k + 1); omega

/-- What szIntSS answers: a number that is negative only if the list is longer than 'left'. -/
def SizeI (w : World) (left : Nat) (m : List (List Int)) (e : Ending) (w' : World) : Prop := ∃ r : Int, e = .returned (.int .i64 r) ∧ ((r = -1) ∨ (m.length + cellsM m ≤ left ∧ r = (left - m.length - cellsM m : Nat))) ∧ Below w.heap.size w w'

set_option maxHeartbeats 400000 in
theorem szIntSS_any (v : Value) (m : List (List Int)) (left : Nat) (w : World) (hleft : left ≤ 2000000) (hin : InMat w v m) :
    Calls Try.prog 10 #[v, .int .i64 left] w (SizeI w left m) := by
  obtain ⟨a, c, rfl, hm, hp⟩ := hin
  unfold maxLen at hm
  by_cases hbig : left < m.length
  · clear hp
    go_enter Try.func10, Try.ntmps10
    go_wp2
    go_ret
    exact ⟨_, rfl, .inl rfl, Below.refl _ _⟩
  · by_cases h0 : m.length = 0
    · have hss : m = [] := List.eq_nil_of_length_eq_zero h0
      subst hss
      clear hp hm h0
      go_enter Try.func10, Try.ntmps10
      go_wp2
      go_loop [1, 5] (fun r i => i = .int .i64 0 ∧ r = .int .i64 left) (fun _ _ => 0)
      case atStart => exact ⟨rfl, by simp⟩
      case round =>
        obtain ⟨rfl, rfl⟩ := hrel
        go_wp2
        go_ret
        exact ⟨_, rfl, .inr ⟨by simp [cellsM], by simp [cellsM]⟩, Below.refl _ _⟩
    · obtain ⟨g, o, rfl, hg, hcell⟩ := hp.resolve_left h0
      have HC := hide hcell
      clear hp hcell h0
      go_enter Try.func10, Try.ntmps10
      go_wp2
      go_loop [1, 5] (fun r i => ∃ k t : Nat, k ≤ m.length ∧ i = .int .i64 k ∧ r = .int .i64 (left - m.length - t : Nat) ∧ cellsM (m.take k) = t ∧ m.length + t ≤ left) (fun _ i => m.length - (intOf i).toNat)
      case atStart => exact ⟨0, 0, Nat.zero_le _, rfl, (by go_num), by simp [cellsM], (by omega)⟩
      case round =>
        obtain ⟨k, t, hk, rfl, rfl, ht, hle⟩ := hrel
        have HT := hide ht
        clear ht
        by_cases hlt : k < m.length
        · obtain ⟨u, hx, hr⟩ := HC.out k hlt
          have HS := hide (cells_snoc m k hlt)
          have HR := hide hr
          obtain ⟨a', c', rfl, hm', -⟩ := hr
          obtain ⟨n', hn'⟩ : ∃ n', n' = m[k].length := ⟨_, rfl⟩
          have HN := hide hn'
          unfold maxLen at hm'
          by_cases hfit : left - m.length - t < n'
          · have hfit' : left - m.length - t < m[k].length := by omega
            clear hn'
            go_wp2_with (go_at_call 20; refine (szIntS_any _ _ (left - m.length - t) _ (by omega) HR.out).mono ?_; rw [if_pos hfit']; rintro e w' ⟨rfl, rfl⟩)
            go_ret
            exact ⟨_, rfl, .inl rfl, Below.refl _ _⟩
          · have hfit' : ¬ left - m.length - t < m[k].length := by omega
            rw [← hn'] at HS
            clear hn'
            go_wp2_with (go_at_call 20; refine (szIntS_any _ _ (left - m.length - t) _ (by omega) HR.out).mono ?_; rw [if_neg hfit', ← HN.out]; rintro e w' ⟨rfl, rfl⟩)
            go_round
            case rel => exact ⟨k + 1, t + n', by omega, by go_num, by go_num, by rw [HS.out, HT.out], by omega⟩
            case measure => simp [intOf]; omega
        · have HA := hide (cells_all m k (by omega))
          go_wp2
          go_ret
          exact ⟨_, rfl, .inr ⟨by rw [← HA.out, HT.out]; omega, by rw [← HA.out, HT.out]⟩, Below.refl _ _⟩

set_option maxHeartbeats 400000 in
theorem eqIntSS_same (va vb : Value) (m : List (List Int)) (w : World) (ha : InMat w va m) (hb : InMat w vb m) :
    Calls Try.prog 14 #[va, vb] w fun e w' => e = .returned (.bool true) ∧ Below w.heap.size w w' := by
  obtain ⟨a, ca, rfl, hm, hpa⟩ := ha
  obtain ⟨b, cb, rfl, -, hpb⟩ := hb
  unfold maxLen at hm
  by_cases h0 : m.length = 0
  · have hr : m = [] := List.eq_nil_of_length_eq_zero h0
    subst hr
    clear hpa hpb hm h0
    go_enter Try.func14, Try.ntmps14
    go_wp2
    go_loop [5] (fun i => i = .int .i64 0) (fun _ => 0)
    case atStart => rfl
    case round =>
      obtain rfl := hrel
      go_wp2
      go_ret
      exact ⟨rfl, Below.refl _ _⟩
  · obtain ⟨ga, oa, rfl, hga, hca⟩ := hpa.resolve_left h0
    obtain ⟨gb, ob, rfl, hgb, hcb⟩ := hpb.resolve_left h0
    have HA := hide hca; have HB := hide hcb
    clear hpa hpb hca hcb h0
    go_enter Try.func14, Try.ntmps14
    go_wp2
    go_loopw [5] (fun i w' => ∃ k : Nat, k ≤ m.length ∧ i = .int .i64 k ∧ Below w.heap.size w w') (fun i _ => m.length - (intOf i).toNat)
    case atStart => exact ⟨0, Nat.zero_le _, rfl, Below.refl _ _⟩
    case round =>
      obtain ⟨k, hk, rfl, hb⟩ := hrel
      by_cases hlt : k < m.length
      · obtain ⟨ua, hxa, hra⟩ := HA.out k hlt
        obtain ⟨ub, hxb, hrb⟩ := HB.out k hlt
        have hxa := below_cell hb hga hxa
        have hxb := below_cell hb hgb hxb
        have HRA := hide (inRow_below hra hb)
        have HRB := hide (inRow_below hrb hb)
        have hgra : ga < wr.heap.size := Nat.lt_of_lt_of_le hga hb.size
        have hgrb : gb < wr.heap.size := Nat.lt_of_lt_of_le hgb hb.size
        clear hra hrb
        have hb := hide hb
        go_wp2
        go_region_held3 (fun w' => w'.cell? ⟨ga, oa + k, none⟩ = some ua ∧ w'.cell? ⟨gb, ob + k, none⟩ = some ub ∧ Below wr.heap.size wr w') (first | exact ⟨hxa, hxb, (Below.refl _ _).drew⟩ | exact ⟨below_cell (w := wr) ((Below.refl _ _).drew.trans hb') hgra hxa, below_cell (w := wr) ((Below.refl _ _).drew.trans hb') hgrb hxb, (Below.refl _ _).drew.trans hb'⟩) (first | (go_at_call 9; refine (eqIntS_same _ _ _ _ (inRow_below HRA.out ((Below.refl _ _).drew)) (inRow_below HRB.out ((Below.refl _ _).drew))).mono ?_; rintro e w' ⟨rfl, hb'⟩))
        go_wp2
        obtain ⟨-, -, hS⟩ := ‹World.cell? _ _ = _ ∧ World.cell? _ _ = _ ∧ Below _ _ _›
        go_roundw
        case rel => exact ⟨k + 1, by omega, by go_num, hb.out.trans (hS.mono hb.out.size)⟩
        case measure => simp [intOf]; omega
      · go_wp2
        go_ret
        exact ⟨rfl, hb⟩

/-- The first k rows, empty rows behind them. -/
def fillM (m : List (List Int)) (k : Nat) : List (List Int) := m.take k ++ List.replicate (m.length - k) []
theorem fillM_zero (m : List (List Int)) : fillM m 0 = List.replicate m.length [] := by simp [fillM]
theorem fillM_all (m : List (List Int)) (k : Nat) (h : m.length ≤ k) : fillM m k = m := by
  rw [fillM, List.take_of_length_le h, show m.length - k = 0 by omega]; simp
theorem fillM_len (m : List (List Int)) (k : Nat) (h : k ≤ m.length) : (fillM m k).length = m.length := by simp [fillM]; omega
theorem fillM_set (m : List (List Int)) (k : Nat) (h : k < m.length) : (fillM m k).set k m[k] = fillM m (k + 1) := by
  rw [fillM, List.set_append_right _ _ (by simp; omega), List.length_take, Nat.min_eq_left (by omega), Nat.sub_self, show m.length - k = (m.length - (k + 1)) + 1 by omega, List.replicate_succ, List.set_cons_zero, fillM,
    List.take_succ_eq_append_getElem h, List.append_assoc]; rfl

set_option maxHeartbeats 400000 in
theorem toIntSS_any (v : Value) (m : List (List Int)) (w : World) (hn : m.length + cellsM m ≤ 2000000) (hin : InMat w v m) :
    Calls Try.prog 12 #[v] w fun e w' => ∃ v', e = .returned v' ∧ OwnMat w' w.heap.size w'.heap.size v' m ∧ Below w.heap.size w w' := by
  obtain ⟨a, c, rfl, hm, hp⟩ := hin
  unfold maxLen at hm
  by_cases h0 : m.length = 0
  · have hr : m = [] := List.eq_nil_of_length_eq_zero h0
    subst hr
    clear hp hm h0 hn
    go_enter Try.func12, Try.ntmps12
    go_wp2_with (at_make; refine wpList_new w.heap.size 0 (.slice none 0 0) rfl _ _ rfl Try.underlying25 Try.infoInts rfl (by decide) rfl rfl (by omega) (Nat.le_refl _) ?_; intro w1 hown1 hb1 hg1)
    have HO := hide hown1; have HB := hide hb1
    clear hown1 hb1 hg1
    go_wp2
    go_loop [4] (fun i => i = .int .i64 0) (fun _ => 0)
    case atStart => rfl
    case round =>
      obtain rfl := hrel
      go_wp2
      go_ret
      exact ⟨_, rfl, ownMat_fresh (n := 0) _ HO.out (HO.out.lt _ rfl).2, HB.out⟩
  · obtain ⟨g, o, rfl, hg, hcell⟩ := hp.resolve_left h0
    have HC := hide hcell
    clear hp hcell h0
    go_enter Try.func12, Try.ntmps12
    go_wp2_with (at_make; refine wpList_new w.heap.size m.length (.slice none 0 0) rfl _ _ rfl Try.underlying25 Try.infoInts rfl (by decide) rfl rfl (by omega) (Nat.le_refl _) ?_; intro w1 hown1 hb1 hg1)
    have HO := hide hown1; have HB := hide hb1
    clear hown1 hb1 hg1
    go_wp2
    go_loopw [4] (fun i w' => ∃ k : Nat, k ≤ m.length ∧ i = .int .i64 k ∧ OwnMat w' w.heap.size w'.heap.size (.slice (some ⟨w.heap.size, 0, none⟩) m.length m.length) (fillM m k) ∧ Below w.heap.size w w') (fun i _ => m.length - (intOf i).toNat)
    case atStart => exact ⟨0, Nat.zero_le _, rfl, by rw [fillM_zero]; exact ownMat_fresh _ HO.out (HO.out.lt _ rfl).2, HB.out⟩
    case round =>
      clear HO HB
      obtain ⟨k, hk, rfl, hown, hb⟩ := hrel
      have HO := hide hown; have HB := hide hb
      clear hown hb
      by_cases hlt : k < m.length
      · obtain ⟨u, hx, hr⟩ := HC.out k hlt
        have hx : wr.cell? ⟨g, o + k, none⟩ = some u := below_cell HB.out hg hx
        have HR := hide (inRow_below hr HB.out)
        have hfl := fillM_len m k hk
        have HF := hide (fillM_set m k hlt)
        have hrow : m[k].length ≤ 2000000 := by have := cells_row m k hlt; omega
        clear hr
        have HL := hide hfl
        clear hfl
        go_wp2_with (go_at_call 7; refine (toIntS_any _ _ _ hrow HR.out).mono ?_; rintro e w2 ⟨v2, rfl, ho2, hb2⟩; obtain ⟨a2, c2, rfl⟩ := own_slice ho2; have HO2 := hide ho2; have HB2 := hide hb2; clear ho2 hb2; have HM := hide (ownMat_below HO.out HB2.out); obtain ⟨u0, hx2, hf2, -, -, -⟩ := ownMat_row HM.out k (by rw [HL.out]; exact hlt))
        go_roundw
        case rel =>
          have hp := ownMat_put (hi' := w2.heap.size) HM.out k (by rw [HL.out]; exact hlt) HO2.out HB.out.size (Nat.le_refl _) HB2.out.size
          rw [HF.out] at hp
          exact ⟨k + 1, by omega, by go_num, ownMat_mono hp (Nat.le_refl _) (by simp), (HB.out.trans (HB2.out.mono HB.out.size)).setCell (Nat.le_refl _) _⟩
        case measure => simp [intOf]; omega
      · have HE : Hid (fillM m k = m) := hide (fillM_all _ _ (by omega))
        go_wp2
        go_ret
        exact ⟨_, rfl, by have := HO.out; rw [HE.out] at this; exact this, HB.out⟩

/-- The first k rows marked, from q on. -/
def markTo (m : List (List Int)) (q : Nat) : Nat → List (List Int)
  | 0 => m
  | k + 1 => (markTo m q k).set k (markR (m.getD k []).length (q + cellsM (m.take k)))
def markM (m : List (List Int)) (q : Nat) : List (List Int) := markTo m q m.length
theorem markTo_len (m : List (List Int)) (q k : Nat) : (markTo m q k).length = m.length := by
  induction k with
  | zero => rfl
  | succ k ih => rw [markTo, List.length_set, ih]
theorem markTo_at (m : List (List Int)) (q k i : Nat) (h : i < (markTo m q k).length) (hm : i < m.length) : (markTo m q k)[i] = if i < k then markR m[i].length (q + cellsM (m.take i)) else m[i] := by
  induction k with
  | zero => simp [markTo]
  | succ k ih =>
    simp only [markTo]
    by_cases e : k = i
    · subst e
      simp only [List.getElem_set_self]
      rw [if_pos (by omega), List.getD_eq_getElem?_getD, List.getElem?_eq_getElem hm]; rfl
    · rw [List.getElem_set_ne e, ih (by rw [markTo_len]; exact hm)]
      by_cases hl : i < k
      · rw [if_pos hl, if_pos (by omega)]
      · rw [if_neg hl, if_neg (by omega)]
theorem markM_len (m : List (List Int)) (q : Nat) : (markM m q).length = m.length := markTo_len m q _
theorem markM_at (m : List (List Int)) (q i : Nat) (h : i < (markM m q).length) (hm : i < m.length) : (markM m q)[i] = markR m[i].length (q + cellsM (m.take i)) := by
  have := markTo_at m q m.length i h hm
  rw [if_pos hm] at this; exact this

end Go.Proofs.Ytinhdcchfeokpaa
