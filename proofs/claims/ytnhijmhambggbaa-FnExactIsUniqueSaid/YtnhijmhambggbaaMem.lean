/-
  Small lemmas on slices that a call owns.
-/
import Derived.Test.YtnhijmhambggbaaRows
import Derived.WalkKit
import Derived.WalkSpells
import Derived.WalkLawsBesides
import Derived.BigQuiet
import Derived.Deep.QuietTactic
import Derived.Deep.RegionHeld3
import Derived.Deep.AppendLies
namespace Go.Proofs.Ytnhijmhambggbaa
open Go.RowKit

theorem hide {p : Prop} (h : p) : Hid p := h
theorem ret_bool {a b : Bool} (h : a = b) : Ending.returned (.bool a) = .returned (.bool b) := by rw [h]
theorem ret_int {k : IntKind} {a b : Int} (h : a = b) : Ending.returned (.int k a) = .returned (.int k b) := by rw [h]
theorem ret_string {a b : ByteArray} (h : a = b) : Ending.returned (.string a) = .returned (.string b) := by rw [h]

theorem addr_add (g o i : Nat) : (⟨g, o, none⟩ : Addr).add i = ⟨g, o + i, none⟩ := by unfold Addr.add; split <;> simp_all
theorem own_below {w w' : World} {base e n : Nat} {v : Value} {xs : List Value} (h : w.ownsRow base e 1 v n xs) (hb : Below w.heap.size w w') : w'.ownsRow base e 1 v n xs := by
  refine ⟨h.1, ?_⟩
  rcases h.2 with hn | ⟨g, cap, cur, hv, hbg, hg, r⟩
  · exact .inl hn
  · exact .inr ⟨g, cap, cur, hv, hbg, by rw [hb.block g (Array.getElem?_eq_some_iff.1 hg).1]; exact hg, r⟩

theorem own_base {w : World} {base base' e n : Nat} {v : Value} {xs : List Value} (h : w.ownsRow base e 1 v n xs) (hb : base' ≤ base) : w.ownsRow base' e 1 v n xs := by
  refine ⟨h.1, ?_⟩
  rcases h.2 with hn | ⟨g, cap, cur, hv, hbg, hg, r⟩
  · exact .inl hn
  · exact .inr ⟨g, cap, cur, hv, by omega, hg, r⟩

/-- An owned slice that is not empty lies somewhere. -/
theorem own_some {w : World} {base e n : Nat} {v : Value} {xs : List Value} (h : w.ownsRow base e 1 v n xs) (hn : 0 < n) :
    ∃ g cap, v = .slice (some ⟨g, 0, none⟩) n cap ∧ base ≤ g ∧ g < w.heap.size ∧ n ≤ cap ∧ cap ≤ maxLen ∧ (∀ j, j < n → w.cell? ⟨g, j, none⟩ = xs[j]?) ∧ (∀ j, w.frozen? ⟨g, j, none⟩ = false) := by
  rcases h.2 with ⟨_, h0⟩ | ⟨g, cap, cur, rfl, hbg, hg, hc, hm, _⟩
  · omega
  · exact ⟨g, cap, rfl, hbg, (Array.getElem?_eq_some_iff.1 hg).1, hc, hm, fun j hj => h.cellAt j (by omega), fun j => h.frozenAt j⟩

/-- An empty owned slice. -/
theorem own_none {w : World} {base e : Nat} {v : Value} {xs : List Value} (h : w.ownsRow base e 1 v 0 xs) : ∃ a cap, v = .slice a 0 cap := by
  rcases h.2 with ⟨rfl, _⟩ | ⟨g, cap, cur, rfl, _⟩
  · exact ⟨_, _, rfl⟩
  · exact ⟨_, _, rfl⟩

theorem own_slice {w : World} {base e n : Nat} {v : Value} {xs : List Value} (h : w.ownsRow base e 1 v n xs) : ∃ a cap, v = .slice a n cap := by
  rcases h.2 with ⟨rfl, rfl⟩ | ⟨g, cap, cur, rfl, _⟩
  · exact ⟨_, _, rfl⟩
  · exact ⟨_, _, rfl⟩

theorem below_draws {B : Nat} {a w : World} (h : Below B a w) (n : Nat) : Below B a (w.drewN n) := ⟨h.os, h.tape, h.output, h.size, h.block⟩
theorem below_drew {B : Nat} {a w : World} (h : Below B a w) : Below B a w.drew := ⟨h.os, h.tape, h.output, h.size, h.block⟩
theorem grown_trans {a b c : World} {row : Option Nat} (h : a.grownBy b row) (k : b.grownBy c row) : a.grownBy c row :=
  ⟨k.os.trans h.os, k.tape.trans h.tape, k.output.trans h.output, Nat.le_trans h.size k.size, fun i hi hr => (k.block i (Nat.lt_of_lt_of_le hi h.size) hr).trans (h.block i hi hr)⟩
theorem grown_of_below {w w' : World} (h : Below w.heap.size w w') (row : Option Nat) : w.grownBy w' row := ⟨h.os, h.tape, h.output, h.size, fun k hk _ => h.block k hk⟩
theorem cell_held {w : World} {base e n g c j : Nat} {xs : List Value} (h : w.ownsRow base e 1 (.slice (some ⟨g, 0, none⟩) n c) n xs) (hj : j < n) :
    w.cell? ⟨g, j, none⟩ = some (xs.getD j undef) := by
  have hl := h.1
  rw [h.cellAt j (by omega), List.getD_eq_getElem?_getD, List.getElem?_eq_getElem (by omega)]; rfl
theorem own_draws {w : World} {base e n : Nat} {v : Value} {xs : List Value} (h : w.ownsRow base e 1 v n xs) (k : Nat) : (w.drewN k).ownsRow base e 1 v n xs := h
theorem below_cell {w w' : World} (hb : Below w.heap.size w w') {g o : Nat} (hg : g < w.heap.size) {u : Option Value} (h : w.cell? ⟨g, o, none⟩ = u) : w'.cell? ⟨g, o, none⟩ = u := by
  rw [hb.cell (p := ⟨g, o, none⟩) hg]; exact h
theorem below_frozen {w w' : World} (hb : Below w.heap.size w w') {g o : Nat} (hg : g < w.heap.size) {u : Bool} (h : w.frozen? ⟨g, o, none⟩ = u) : w'.frozen? ⟨g, o, none⟩ = u := by
  rw [hb.frozen (p := ⟨g, o, none⟩) hg]; exact h

theorem below_step {B : Nat} {w a b : World} {n : Nat} (h : Below B w a) (k : Below B (a.drewN n) b) : Below B w b := (below_draws h n).trans k
/-- Two owned slices, the second made when the first lay already, lie in two blocks. -/
theorem own_apart {w w' : World} {b0 e0 n0 e1 n1 : Nat} {v0 v1 : Value} {xs ys : List Value} (h0 : w.ownsRow b0 e0 1 v0 n0 xs) (h1 : w'.ownsRow w.heap.size e1 1 v1 n1 ys) : v0.ownBlock = none ∨ v0.ownBlock ≠ v1.ownBlock := by
  cases e : v0.ownBlock with
  | none => exact .inl rfl
  | some k =>
    refine .inr fun e1 => ?_
    have := (h0.lt k e).2; have := (h1.lt k e1.symm).1; omega
theorem below_mark {w a b w1 : World} {B e n : Nat} {v : Value} {xs : List Value} (h : Below w.heap.size w a) (hg : a.grownBy b v.ownBlock) (ho : w1.ownsRow B e 1 v n xs) (hB : w.heap.size ≤ B) (_ : w.heap.size ≤ B) : Below w.heap.size w b :=
  h.grown hg h.size fun k hk => Nat.le_trans hB (ho.lt k hk).1
theorem new_cell (W : World) (y : Value) (T : TypeId) : ∀ j u, [y][j]? = some u → (W.alloc (.cells #[y] T)).cell? ((⟨W.heap.size, 0, none⟩ : Addr).add j) = some u :=
  World.news_of_block (cs := #[y]) (t := T) (fr := (0, 0)) (heap_alloc_new W _)

/-- 'v = append(v, y)' at a slice of the call's own, y of one cell: it owns one element more; below its base nothing turns; of what there was its own block alone may be written. -/
theorem wpList_push {P : Program} {ops : Array Oper} {rest : List Oper} {o : Oper} {a : Act} {Q : Exit → Act → World → Prop} {W : World} {base n bytes : Nat} {E T : TypeId} {v : Value} {xs : List Value}
    (hown : W.ownsRow base E 1 v n xs) (y z : Value) (hgd : o.guard = none) (s x : Operand)
    (ho : o.op = .call { callee := .builtin .append, args := #[s, x], argTypes := #[T, T] })
    (ht : P.underlying T = some (.slice E)) (hinfo : (P.info? E).map (fun i => (i.zero, i.size, i.bytes)) = some (some z, 1, bytes)) (hz : z.cells.size = 1) (hby : bytes ≤ 32)
    (hs : a.eval s = v) (hx : a.eval x = .slice (some ⟨W.heap.size, 0, none⟩) 1 1) (hy : y.oneCell' = true) (hn : n < 4000000) (hbase : base ≤ W.heap.size)
    (h : ∀ v' w', w'.ownsRow base E 1 v' (n + 1) (xs ++ [y]) → Below base W w' → W.grownBy w' v.ownBlock → wpList P ops Q rest (a.put o.dst v') w') :
    wpList P ops Q (o :: rest) a (W.alloc (.cells #[y] E)) := by
  obtain ⟨i0, hi, hz0, hz1, hz2⟩ := info_parts hinfo
  refine wpList_append_own _ hgd s x T ho base E i0 z 1 bytes ht hi hz0 hz1 hz2 hz (by decide) v n xs hs (hown.alloc _) ⟨W.heap.size, 0, none⟩ 1 1 [y] hx rfl (new_cell W y E) (by simpa using hy)
    (by unfold maxLen; omega) (by have : (n + 1) * bytes ≤ 4000000 * 32 := Nat.mul_le_mul (by omega) hby; omega) (by simp; omega) ?_
  intro v' w' hown' hg _
  have hlt := hown.lt
  have hal : Below base W (W.alloc (.cells #[y] E)) := (Below.refl _ _).alloc hbase _
  refine h v' w' hown' (hal.grown hg (by simp; omega) (fun k hk => (hlt k hk).1)) ?_
  exact grown_trans (World.grownBy_alloc W _ _) hg

/-- 'make([]T, n)', T of one cell: the call owns n zeros; below the base nothing turns. -/
theorem wpList_new {P : Program} {ops : Array Oper} {rest : List Oper} {o : Oper} {a : Act} {Q : Exit → Act → World → Prop} {W : World} (base n : Nat) {bytes : Nat} {E T : TypeId} (z : Value) (hgd : o.guard = none) (l c : Operand)
    (hop : o.op = Op.makeSlice T l c) (ht : P.underlying T = some (.slice E)) (hinfo : (P.info? E).map (fun i => (i.zero, i.size, i.bytes)) = some (some z, 1, bytes)) (hz : z.cells = #[z]) (hby : bytes ≤ 32)
    (hl : a.eval l = .int .i64 n) (hc : a.eval c = .int .i64 n) (hn : n < 4000000) (hbase : base ≤ W.heap.size)
    (h : ∀ w', w'.ownsRow base E 1 (.slice (some ⟨W.heap.size, 0, none⟩) n n) n (List.replicate n z) → Below base W w' → W.grownBy w' none → wpList P ops Q rest (a.put o.dst (.slice (some ⟨W.heap.size, 0, none⟩) n n)) w') :
    wpList P ops Q (o :: rest) a W := by
  obtain ⟨i0, hi, hz0, hz1, hz2⟩ := info_parts hinfo
  refine wpList_make_full W hgd l c T hop base E i0 z 1 ht hi hz0 hz1 .i64 .i64 n n n hl hc rfl rfl (by rw [hz2]; have : bytes * n ≤ 32 * 4000000 := Nat.mul_le_mul hby (by omega); omega) (by unfold maxLen; omega) hbase ?_
  intro w' ho hg
  rw [hz, Nat.mul_one, toList_madeCells_one] at ho
  exact h w' ho ((Below.refl _ _).grown hg hbase (fun k hk => by cases hk)) hg

/-- The first k cells of l, zeros behind them. -/
def fillTo (l : List Value) (k : Nat) (z : Value) : List Value := l.take k ++ List.replicate (l.length - k) z
theorem fill_zero (l : List Value) (z : Value) : fillTo l 0 z = List.replicate l.length z := by simp [fillTo]
theorem fill_all (l : List Value) (k : Nat) (z : Value) (h : l.length ≤ k) : fillTo l k z = l := by
  rw [fillTo, List.take_of_length_le h, show l.length - k = 0 by omega]; simp
theorem fill_len (l : List Value) (k : Nat) (z : Value) (h : k ≤ l.length) : (fillTo l k z).length = l.length := by simp [fillTo]; omega
theorem fill_set (l : List Value) (k : Nat) (z : Value) (h : k < l.length) (y : Value) (hy : l[k] = y) : (fillTo l k z).set k y = fillTo l (k + 1) z := by
  rw [fillTo, List.set_append_right _ _ (by simp; omega), List.length_take, Nat.min_eq_left (by omega), Nat.sub_self, show l.length - k = (l.length - (k + 1)) + 1 by omega, List.replicate_succ, List.set_cons_zero, fillTo,
    List.take_succ_eq_append_getElem h, hy, List.append_assoc]; rfl
theorem fill_at (l : List Value) (k j : Nat) (z : Value) (h : j < k) (hk : k ≤ l.length) : (fillTo l k z)[j]? = l[j]? := by
  rw [fillTo, List.getElem?_append_left (by simp; omega), List.getElem?_take, if_pos h]
end Go.Proofs.Ytnhijmhambggbaa
