/-
  Texts of this claim, one behind the other: DrL, DrH, DrE, OwnD, DrO, TailG, DirsI, DirsS.
-/
import Derived.Test.YtjnnoabaepmcnaaPackD
import Derived.Test.YtjnnoabaepmcnaaPackB
import Derived.Test.YtjnnoabaepmcnaaPackA
import Derived.Test.YtjnnoabaepmcnaaPackC
/-
  Lists of directions in memory.
-/
namespace Go.Proofs.Ytjnnoabaepmcnaa
open Go.RowKit

def drV (d : Int × Int) : Value := .agg #[.int .i64 d.1, .int .i64 d.2]
def drA (d : Int × Int) : Array Value := #[.int .i64 d.1, .int .i64 d.2]
def cellsD (l : List (Int × Int)) : List Value := l.flatMap fun d => [.int .i64 d.1, .int .i64 d.2]
theorem cellsD_len (l : List (Int × Int)) : (cellsD l).length = l.length * 2 := by
  induction l with
  | nil => rfl
  | cons s l ih =>
    simp only [cellsD, List.flatMap_cons, List.length_append, List.length_cons, List.length_nil] at ih ⊢
    omega
theorem cellsD_snoc (l : List (Int × Int)) (s : Int × Int) : cellsD (l ++ [s]) = cellsD l ++ (drA s).toList := by
  simp [cellsD, drA]
theorem cellsD_at : ∀ (l : List (Int × Int)) (i : Nat) (h : i < l.length), (cellsD l)[i * 2]? = some (.int .i64 l[i].1) ∧ (cellsD l)[i * 2 + 1]? = some (.int .i64 l[i].2)
  | [], i, h => absurd h (Nat.not_lt_zero _)
  | s :: l, 0, _ => ⟨rfl, rfl⟩
  | s :: l, i + 1, h => by
    have := cellsD_at l i (by simpa using h)
    have e : cellsD (s :: l) = [.int .i64 s.1, .int .i64 s.2] ++ cellsD l := by simp [cellsD]
    rw [e]
    simp only [List.getElem_cons_succ]
    refine ⟨?_, ?_⟩
    · rw [List.getElem?_append_right (by simp; omega)]
      simpa [show (i + 1) * 2 - 2 = i * 2 by omega] using this.1
    · rw [List.getElem?_append_right (by simp; omega)]
      simpa [show (i + 1) * 2 + 1 - 2 = i * 2 + 1 by omega] using this.2
/-- The two cells of a direction. -/
def DrC (w : World) (g k : Nat) (s : Int × Int) : Prop := w.cell? ⟨g, k, none⟩ = some (.int .i64 s.1) ∧ w.cell? ⟨g, k + 1, none⟩ = some (.int .i64 s.2)
theorem drC_below {w w' : World} {g k : Nat} {s : Int × Int} (h : DrC w g k s) (hb : Below w.heap.size w w') (hg : g < w.heap.size) : DrC w' g k s :=
  ⟨below_cell hb hg h.1, below_cell hb hg h.2⟩
theorem drC_at {w : World} {g : Nat} {dx dy : Int} (h : DirAt w g dx dy) : DrC w g 0 (dx, dy) := by
  refine ⟨?_, ?_⟩
  · rw [cell_of_row w g 0 _ _ _ h]; rfl
  · rw [cell_of_row w g 1 _ _ _ h]; rfl
theorem wpList_loadDrC {ops : Array Oper} {rest : List Oper} {o : Oper} {a : Act} {Q : Exit → Act → World → Prop} {W : World} {g k : Nat} {s : Int × Int} (hb : DrC W g k s)
    (d : Tmp) (_hd : o.dst = some d) (hgd : o.guard = none) (x : Operand) (ho : o.op = .load 29 x) (hx : a.eval x = .pointer (some ⟨g, k, none⟩))
    (h : wpList Try.prog ops Q rest (a.put o.dst (drV s)) W) : wpList Try.prog ops Q (o :: rest) a W := by
  obtain ⟨h0, h1⟩ := hb
  refine wpList_plain hgd fun K hK => ?_
  have : (execOp a.eval o).run Try.prog W = .ok (.value (drV s)) W := by
    unfold execOp
    simp only [ho, hx]
    go_simp
    rfl
  unfold Oper.wp
  rw [this]
  exact hK _ _ h
/-- The slice v reads as the switches l. -/
def InDrs (w : World) (v : Value) (l : List (Int × Int)) : Prop :=
  ∃ a c, v = .slice a l.length c ∧ l.length ≤ maxLen ∧ (l.length = 0 ∨ ∃ g o, a = some ⟨g, o, none⟩ ∧ g < w.heap.size ∧ ∀ i, (h : i < l.length) → DrC w g (o + i * 2) l[i])
theorem inDrs_below {w w' : World} {v : Value} {l : List (Int × Int)} (h : InDrs w v l) (hb : Below w.heap.size w w') : InDrs w' v l := by
  obtain ⟨a, c, hv, hm, hp⟩ := h
  refine ⟨a, c, hv, hm, ?_⟩
  rcases hp with h0 | ⟨g, o, ha, hg, hc⟩
  · exact .inl h0
  · exact .inr ⟨g, o, ha, Nat.lt_of_lt_of_le hg hb.size, fun i hi => drC_below (hc i hi) hb hg⟩
theorem inDrs_nil (w : World) : InDrs w (.slice none 0 0) [] := ⟨none, 0, rfl, Nat.zero_le _, .inl rfl⟩
/-- The call owns the switches. -/
def OwnDrs (w : World) (lo : Nat) (v : Value) (l : List (Int × Int)) : Prop := w.ownsRow lo 29 2 v l.length (cellsD l)
theorem ownDrs_below {w w' : World} {lo : Nat} {v : Value} {l : List (Int × Int)} (h : OwnDrs w lo v l) (hb : Below w.heap.size w w') : OwnDrs w' lo v l := ownA_below h hb
theorem ownDrs_base {w : World} {lo lo' : Nat} {v : Value} {l : List (Int × Int)} (h : OwnDrs w lo v l) (hb : lo' ≤ lo) : OwnDrs w lo' v l := ownA_base h hb
theorem ownDrs_nil (w : World) (lo : Nat) : OwnDrs w lo (.slice none 0 0) [] := World.ownsRow_nil _ _ _ _
theorem ownDrs_cells {w : World} {lo g n c : Nat} {l : List (Int × Int)} (h : OwnDrs w lo (.slice (some ⟨g, 0, none⟩) n c) l) (i : Nat) (hi : i < l.length) : DrC w g (i * 2) l[i] := by
  have hn : n = l.length := by
    rcases h.2 with ⟨e, _⟩ | ⟨g', cap, cur, e, _⟩
    · cases e
    · cases e; rfl
  subst hn
  obtain ⟨h0, h1⟩ := cellsD_at l i hi
  exact ⟨by rw [World.ownsRow.cellAt h _ (by omega)]; exact h0, by rw [World.ownsRow.cellAt h _ (by omega)]; exact h1⟩
theorem inDrs_own {w : World} {lo : Nat} {v : Value} {l : List (Int × Int)} (h : OwnDrs w lo v l) : InDrs w v l := by
  have h' := h
  rcases h.2 with ⟨rfl, h0⟩ | ⟨g, cap, cur, rfl, hbg, hg, hc, hm, _⟩
  · exact ⟨none, 0, by rw [h0], by omega, .inl h0⟩
  · exact ⟨_, _, rfl, by omega, .inr ⟨g, 0, rfl, (Array.getElem?_eq_some_iff.1 hg).1, fun i hi => by rw [Nat.zero_add]; exact ownDrs_cells h' i hi⟩⟩
theorem Try.infoDr : (Try.prog.info? 29).map (fun i => (i.zero, i.size, i.bytes)) = some (some (.agg #[.int .i64 0, .int .i64 0]), 2, 16) := by kernel_rfl
/-- The call answers switches of its own. -/
def DrsRes (l : List (Int × Int)) (w : World) (e : Ending) (w' : World) : Prop := ∃ v, e = .returned v ∧ OwnDrs w' w.heap.size v l ∧ Below w.heap.size w w'
end Go.Proofs.Ytjnnoabaepmcnaa
/-
  The exact laws' helpers at directions: toDirectionS, szDirectionS, markDirectionS, heldDirectionS.
-/
namespace Go.Proofs.Ytjnnoabaepmcnaa
open Go.RowKit

def set2 (xs : List Value) (k : Nat) (s : Int × Int) : List Value := (xs.set k (.int .i64 s.1)).set (k + 1) (.int .i64 s.2)
theorem set2_len (xs : List Value) (k : Nat) (s : Int × Int) : (set2 xs k s).length = xs.length := by simp [set2]
theorem set2_fill {l : List (Int × Int)} {xs : List Value} {k : Nat} (h : xs.length = l.length * 2) (hk : k < l.length) : set2 (cellsD (l.take k) ++ xs.drop (k * 2)) (k * 2) l[k] = cellsD (l.take (k + 1)) ++ xs.drop ((k + 1) * 2) := by
  have hl : (cellsD (l.take k)).length = k * 2 := by rw [cellsD_len, List.length_take]; omega
  obtain ⟨a, b, r, hr⟩ : ∃ a b r, xs.drop (k * 2) = a :: b :: r := by
    have : 2 ≤ (xs.drop (k * 2)).length := by rw [List.length_drop]; omega
    match hx : xs.drop (k * 2), this with
    | a :: b :: r, _ => exact ⟨a, b, r, rfl⟩
  have hd : xs.drop ((k + 1) * 2) = r := by
    rw [show (k + 1) * 2 = k * 2 + 2 by omega, ← List.drop_drop, hr]; rfl
  rw [hd, hr, List.take_succ_eq_append_getElem hk, cellsD_snoc]
  unfold set2
  rw [List.set_append_right _ _ (by omega), List.set_append_right _ _ (by omega), hl]
  rw [show k * 2 - k * 2 = 0 by omega, show k * 2 + 1 - k * 2 = 1 by omega]
  simp [drA]
/-- A switch is stored in a slice of the call's own. -/
theorem exec_storeDrOwn {ρ : Operand → Value} {o : Oper} {w : World} {x y : Operand} {base e g n c i : Nat} {xs : List Value} {s : Int × Int} (ho : o.op = .store 29 x y) (hx : ρ x = .pointer (some ⟨g, i * 2, none⟩)) (hy : ρ y = drV s)
    (h : w.ownsRow base e 2 (.slice (some ⟨g, 0, none⟩) n c) n xs) (hi : i < n) : ∃ w', (execOp ρ o).run Try.prog w = .ok .skip w' ∧ w'.ownsRow base e 2 (.slice (some ⟨g, 0, none⟩) n c) n (set2 xs (i * 2) s) ∧ w.grownBy w' (some g) := by
  have hl := h.1
  have hc : ∀ j, j < n * 2 → ∃ u, w.cell? ⟨g, j, none⟩ = some u := fun j hj => ⟨xs[j], by rw [h.cellAt j hj, List.getElem?_eq_getElem (by omega)]⟩
  obtain ⟨u0, h0⟩ := hc (i * 2) (by omega); obtain ⟨u1, h1⟩ := hc (i * 2 + 1) (by omega)
  have f0 := h.frozenAt (i * 2); have f1 := h.frozenAt (i * 2 + 1)
  obtain ⟨a1, b1⟩ := h.stored (i * 2) (.int .i64 s.1)
  obtain ⟨a2, b2⟩ := a1.stored (i * 2 + 1) (.int .i64 s.2)
  refine ⟨_, ?_, a2, grown_trans b1 b2⟩
  unfold execOp
  simp only [ho, hx, hy, drV]
  go_simp
theorem wpList_storeDrOwn {ops : Array Oper} {rest : List Oper} {o : Oper} {a : Act} {Q : Exit → Act → World → Prop} {W : World} {base e g n c i : Nat} {xs : List Value} {s : Int × Int} (h : W.ownsRow base e 2 (.slice (some ⟨g, 0, none⟩) n c) n xs) (hi : i < n)
    (hgd : o.guard = none) (x y : Operand) (ho : o.op = .store 29 x y) (hx : a.eval x = .pointer (some ⟨g, i * 2, none⟩)) (hy : a.eval y = drV s)
    (hK : ∀ w', w'.ownsRow base e 2 (.slice (some ⟨g, 0, none⟩) n c) n (set2 xs (i * 2) s) → W.grownBy w' (some g) → wpList Try.prog ops Q rest (a.put o.dst undef) w') : wpList Try.prog ops Q (o :: rest) a W := by
  refine wpList_plain hgd fun K hk => ?_
  obtain ⟨w', h1, h2, h3⟩ := exec_storeDrOwn (ρ := a.eval) ho hx hy h hi
  unfold Oper.wp
  rw [h1]
  exact hk _ _ (hK w' h2 h3)

def SizeD (n left : Nat) (w : World) (e : Ending) (w' : World) : Prop := ∃ r : Int, e = .returned (.int .i64 r) ∧ ((r = -1) ∨ (n ≤ left ∧ r = (left - n : Nat))) ∧ w = w'
/-- The cells are marked one after the other. -/
theorem mark_cellD (q j m : Nat) (xs : List Value) (hl : xs.length = m) (hj : j < m) : (ints (markR j q) ++ xs.drop j).set j (.int .i64 ((q + j : Nat) : Int)) = ints (markR (j + 1) q) ++ xs.drop (j + 1) := markR_set m q j xs hl hj
end Go.Proofs.Ytjnnoabaepmcnaa
/-
  eqDirection, eqDirectionS of the exact laws, at the same switches.
-/
namespace Go.Proofs.Ytjnnoabaepmcnaa
open Go.RowKit

theorem wpList_boxDr {P : Program} {ops : Array Oper} {rest : List Oper} {o : Oper} {a : Act} {Q : Exit → Act → World → Prop} {W : World} (s : Int × Int)
    (d : Tmp) (_hd : o.dst = some d) (hgd : o.guard = none) (x : Operand) (ho : o.op = .box 29 x) (hx : a.eval x = drV s)
    (h : ∀ w', DirAt w' W.heap.size s.1 s.2 → Below W.heap.size W w' → w'.heap.size = W.heap.size + 1 → wpList P ops Q rest (a.put o.dst (.pointer (some ⟨W.heap.size, 0, none⟩))) w') : wpList P ops Q (o :: rest) a W := by
  refine wpList_plain hgd fun K hK => ?_
  unfold Oper.wp execOp
  simp only [ho, hx, Instr.box, Sem.run_bind]
  simp [newVar, newRow, Value.cells, drV]
  exact hK _ _ (h _ (heap_alloc_new W _) ((Below.refl _ _).alloc (Nat.le_refl _) _) (by simp))
theorem exec_loadDrC {ρ : Operand → Value} {o : Oper} {w : World} {x : Operand} {g k : Nat} {s : Int × Int} (ho : o.op = .load 29 x) (hx : ρ x = .pointer (some ⟨g, k, none⟩)) (hb : DrC w g k s) : (execOp ρ o).run Try.prog w = .ok (.value (drV s)) w := by
  obtain ⟨h0, h1⟩ := hb
  unfold execOp
  simp only [ho, hx]
  go_simp
  rfl
theorem exec_indexDr {ρ : Operand → Value} {o : Oper} {w : World} {x i : Operand} {g b n c k : Nat} (ho : o.op = .indexAddr 26 x i) (hx : ρ x = .slice (some ⟨g, b, none⟩) n c) (hi : ρ i = .int .i64 k) (hk : k < n) : (execOp ρ o).run Try.prog w = .ok (.value (.pointer (some ⟨g, b + k * 2, none⟩))) w := by
  have hkI : (k : Int) < n := by omega
  unfold execOp
  simp only [ho, hx, hi]
  go_simp

theorem exec_notD {P : Program} {ρ : Operand → Value} {o : Oper} {w : World} {x : Operand} {T : TypeId} {b : Bool} (ho : o.op = .unOp .not T x) (hx : ρ x = .bool b) : (execOp ρ o).run P w = .ok (.value (.bool !b)) w := by
  unfold execOp
  simp only [ho, hx]
  rfl
end Go.Proofs.Ytjnnoabaepmcnaa
/-
  Directiones that a call owns, from one block up to another; what lies within.
-/
namespace Go.Proofs.Ytjnnoabaepmcnaa
open Go.RowKit

theorem ownAD_within {lo hi base e n z : Nat} {w w' : World} {v : Value} {xs : List Value} (h : w.ownsRow base e z v n xs) (hw : Within lo hi w w') (hk : ∀ k, v.ownBlock = some k → k < lo ∨ hi ≤ k) : w'.ownsRow base e z v n xs := by
  refine ⟨h.1, ?_⟩
  rcases h.2 with hn | ⟨g, cap, cur, rfl, hbg, hg, r⟩
  · exact .inl hn
  · exact .inr ⟨g, cap, cur, rfl, hbg, by rw [hw.block g (Array.getElem?_eq_some_iff.1 hg).1 (hk g rfl)]; exact hg, r⟩
/-- Directiones of the call's own, in a block from lo up to hi. -/
def OwnD2 (w : World) (lo hi : Nat) (v : Value) (l : List (Int × Int)) : Prop := OwnDrs w lo v l ∧ ∀ k, v.ownBlock = some k → k < hi
theorem ownD2_of {w : World} {lo : Nat} {v : Value} {l : List (Int × Int)} (h : OwnDrs w lo v l) : OwnD2 w lo w.heap.size v l := ⟨h, fun k e => (World.ownsRow.lt h k e).2⟩
theorem ownD2_below {w w' : World} {lo hi : Nat} {v : Value} {l : List (Int × Int)} (h : OwnD2 w lo hi v l) (hb : Below w.heap.size w w') : OwnD2 w' lo hi v l := ⟨ownDrs_below h.1 hb, h.2⟩
theorem ownD2_within {w w' : World} {lo hi lo' hi' : Nat} {v : Value} {l : List (Int × Int)} (h : OwnD2 w lo hi v l) (hw : Within lo' hi' w w') (ha : hi ≤ lo' ∨ hi' ≤ lo) : OwnD2 w' lo hi v l :=
  ⟨ownAD_within h.1 hw fun k e => by have := h.2 k e; have := (World.ownsRow.lt h.1 k e).1; omega, h.2⟩
theorem within_ownD {w w' : World} {lo hi : Nat} {v : Value} {l : List (Int × Int)} (h : OwnD2 w lo hi v l) (hg : w.grownBy w' v.ownBlock) : Within lo hi w w' := within_grown hg fun k e => ⟨(World.ownsRow.lt h.1 k e).1, h.2 k e⟩
end Go.Proofs.Ytjnnoabaepmcnaa
/-
  Lists of directions: whether they are valid and different, of the model and of the program.
-/
namespace Go.Proofs.Ytjnnoabaepmcnaa
open Go.RowKit
set_option linter.unusedVariables false
set_option maxRecDepth 100000

/-- The slice v reads as the directions l, within its capacity. -/
def DrsC (w : World) (v : Value) (l : List (Int × Int)) : Prop :=
  ∃ a c, v = .slice a l.length c ∧ l.length ≤ c ∧ c ≤ maxLen ∧ (l.length = 0 ∨ ∃ g o, a = some ⟨g, o, none⟩ ∧ g < w.heap.size ∧ ∀ i, (h : i < l.length) → DrC w g (o + i * 2) l[i])
theorem drsC_below {w w' : World} {v : Value} {l : List (Int × Int)} (h : DrsC w v l) (hb : Below w.heap.size w w') : DrsC w' v l := by
  obtain ⟨a, c, hv, hl, hm, hp⟩ := h
  refine ⟨a, c, hv, hl, hm, ?_⟩
  rcases hp with h0 | ⟨g, o, ha, hg, hc⟩
  · exact .inl h0
  · exact .inr ⟨g, o, ha, Nat.lt_of_lt_of_le hg hb.size, fun i hi => drC_below (hc i hi) hb hg⟩
theorem drsC_in {w : World} {v : Value} {l : List (Int × Int)} (h : DrsC w v l) : InDrs w v l := by
  obtain ⟨a, c, hv, hl, hm, hp⟩ := h
  exact ⟨a, c, hv, by omega, hp⟩
theorem drsC_own {w : World} {lo : Nat} {v : Value} {l : List (Int × Int)} (h : OwnDrs w lo v l) : DrsC w v l := by
  have h' := h
  rcases h.2 with ⟨rfl, h0⟩ | ⟨g, cap, cur, rfl, hbg, hg, hc, hm, _⟩
  · exact ⟨none, 0, by rw [h0], by omega, by unfold maxLen; omega, .inl h0⟩
  · exact ⟨_, _, rfl, hc, hm, .inr ⟨g, 0, rfl, (Array.getElem?_eq_some_iff.1 hg).1, fun i hi => by rw [Nat.zero_add]; exact ownDrs_cells h' i hi⟩⟩

theorem getD_at {l : List (Int × Int)} {i : Nat} (hi : i < l.length) : l.getD i (0, 0) = l[i] := by simp [hi]
/-- Direction number i is valid and none of those before it. -/
def freshD (l : List (Int × Int)) (i : Nat) : Bool := dirOk (l.getD i (0, 0)).1 (l.getD i (0, 0)).2 && !((l.take i).contains (l.getD i (0, 0)))
/-- From 1 to 4 directions, all valid and different. -/
def dirsB (l : List (Int × Int)) : Bool := decide (1 ≤ l.length ∧ l.length ≤ 4) && (List.range l.length).all (freshD l)
theorem dirsB_yes {l : List (Int × Int)} (h : ∀ i, i < l.length → freshD l i = true) (h1 : 1 ≤ l.length ∧ l.length ≤ 4) : dirsB l = true := by
  rw [dirsB, decide_eq_true h1, Bool.true_and, List.all_eq_true]
  intro i hi
  exact h i (List.mem_range.1 hi)
theorem dirsB_no {l : List (Int × Int)} {i : Nat} (hi : i < l.length) (h : freshD l i = false) : dirsB l = false := by
  rw [dirsB, Bool.and_eq_false_iff]
  right
  rw [List.all_eq_false]
  exact ⟨i, List.mem_range.2 hi, by simp [h]⟩
theorem dirsB_len {l : List (Int × Int)} (h : dirsB l = true) : 1 ≤ l.length ∧ l.length ≤ 4 := by
  unfold dirsB at h
  rw [Bool.and_eq_true] at h
  exact of_decide_eq_true h.1
theorem dirsB_at {l : List (Int × Int)} (h : dirsB l = true) {i : Nat} (hi : i < l.length) : dirOk l[i].1 l[i].2 = true ∧ l[i] ∉ l.take i := by
  unfold dirsB at h
  rw [Bool.and_eq_true, List.all_eq_true] at h
  have := h.2 i (List.mem_range.2 hi)
  simp only [freshD, Bool.and_eq_true] at this
  rw [getD_at hi] at this
  refine ⟨this.1, fun hm => ?_⟩
  have := this.2
  rw [List.contains_iff_mem.2 hm] at this
  cases this
theorem freshD_at {l : List (Int × Int)} {i : Nat} (hi : i < l.length) : freshD l i = (dirOk l[i].1 l[i].2 && !((l.take i).contains l[i])) := by
  rw [freshD, getD_at hi]
theorem drV_eq (a b : Int × Int) : drV a = drV b ↔ a = b := by
  constructor
  · intro h
    obtain ⟨a1, a2⟩ := a
    obtain ⟨b1, b2⟩ := b
    simp only [drV, Value.agg.injEq, Array.mk.injEq, List.cons.injEq, Value.int.injEq, true_and, and_true] at h
    rw [h.1, h.2]
  · rintro rfl; rfl
theorem Try.cellsDr : Try.prog.cellsOf 29 = 2 := by kernel_rfl
theorem Try.cellsIDr : Try.prog.cellsOf 3 = 1 := by kernel_rfl
theorem Try.keyTyDr : Try.prog.keyType 29 = true := by kernel_rfl
def wfD (s : Int × Int) : Prop := (Lit.int .i64 s.1).wf = true ∧ (Lit.int .i64 s.2).wf = true
theorem wfD_of {s : Int × Int} (h : dirOk s.1 s.2 = true) : wfD s := by
  have hn := near_of h
  exact ⟨WalkArith.wf_i64 (by have := hn.x1; have := hn.x2; omega), WalkArith.wf_i64 (by have := hn.y1; have := hn.y2; omega)⟩
theorem intLitsD_mk (d : Nat) (x : Int) (h : (Lit.int .i64 x).wf = true) : Try.prog.keyLits (d + 1) 3 [.int .i64 x] = some [.int .i64 x] := by
  unfold Program.keyLits
  rw [Try.underlying3]
  simp only
  rw [if_pos ⟨trivial, h⟩]
theorem drLits_mk (d : Nat) (s : Int × Int) (h : wfD s) : Try.prog.keyLits (d + 2) 29 (drA s).toList = some [.int .i64 s.1, .int .i64 s.2] := by
  obtain ⟨h1, h2⟩ := h
  unfold Program.keyLits
  rw [Try.underlying29]
  simp only [drA]
  refine (if_pos ⟨by rw [Try.cellsDr]; rfl, by decide +kernel⟩).trans ?_
  simp only [Try.cellsIDr, List.mapM_cons, List.mapM_nil, List.drop_zero, List.take_succ_cons, List.take_zero, List.drop_succ_cons, bind, Option.bind, pure, Option.map, intLitsD_mk d _ h1, intLitsD_mk d _ h2]
  rfl
theorem run_eqDr {s u : Int × Int} (hs : wfD s) (hu : wfD u) (b : Bool) (hb : b = true ↔ s = u) (w : World) : (binOp .eql 29 (drV s) (drV u)).run Try.prog w = .ok (.bool b) w := by
  have hm : Try.prog.types.size + 1 ≤ 10000 := of_decide_eq_true (by kernel_rfl)
  have hf : ∀ s : Int × Int, (drV s).formed Try.prog 29 = true := fun s => by simp [drV, Value.formed, Try.underlying29, Try.cellsDr]
  obtain ⟨r, hr, hiff⟩ := run_equalIn_deep (10000 - (Try.prog.types.size + 1)) (Try.prog.types.size + 1) 29 Try.keyTyDr w 2 2 (drV s) (drV u) _ _ (hf s) (hf u) (drLits_mk 0 s hs) (drLits_mk 0 u hu)
  rw [show 10000 - (Try.prog.types.size + 1) + (Try.prog.types.size + 1) = 10000 by omega] at hr
  have he : b = r := by
    rw [Bool.eq_iff_iff, hb]
    have : r = true ↔ s = u := hiff.trans ⟨fun e => by obtain ⟨a1, a2⟩ := s; obtain ⟨b1, b2⟩ := u; simpa using e, fun e => by rw [e]⟩
    exact this.symm
  rw [he]
  unfold drV at hr ⊢
  simp only [binOp]
  simp [Op.equal, Op.maxDepth, hr]
theorem eqGuard_dr (s u : Int × Int) (x y : Operand) (w : World) : (eqGuard .eql 29 x y (drV s) (drV u)).run Try.prog w = .ok () w := by
  simp [eqGuard, drV, Result.andThen]

set_option maxRecDepth 100000 in
set_option maxHeartbeats 2000000 in
theorem indexDr_any (v : Value) (l : List (Int × Int)) (d : Int × Int) (w : World) (hin : DrsC w v l) (hl : ∀ e ∈ l, wfD e) (hd : wfD d) (hn : l.length ≤ 4) :
    Calls Try.prog 77 #[v, drV d] w fun e w' => (∃ k : Int, e = .returned (.int .i64 k) ∧ decide (k ≥ 0) = l.contains d) ∧ Below w.heap.size w w' := by
  obtain ⟨a, c, rfl, -, hm, hp⟩ := hin
  have HP := hide hp; have HL := hide hl; have HD := hide hd
  obtain ⟨n, hnn⟩ : ∃ n, n = l.length := ⟨_, rfl⟩
  have HN := hide hnn
  rw [← hnn] at hn ⊢
  clear hnn hp hl hd hm
  go_enter Try.func77, Try.ntmps77
  go_wp2_with ((with_reducible refine wpList_boxDr d 3 rfl rfl (.tmp 1) rfl rfl ?_); intro w1 h1 b1 s1; have HD1 := hide h1; have HB1 := hide b1; clear h1 b1 s1)
  go_loopw [8] (fun i w' => ∃ k : Nat, k ≤ n ∧ i = .int .i64 k ∧ Below w1.heap.size w1 w' ∧ ∀ t, (h : t < l.length) → t < k → l[t] ≠ d) (fun i _ => n - (intOf i).toNat)
  case atStart => exact ⟨0, Nat.zero_le _, rfl, Below.refl _ _, fun t _ h => absurd h (Nat.not_lt_zero _)⟩
  case round =>
    obtain ⟨k, hk, rfl, hb, hall⟩ := hrel
    have HB := hide hb; have HA := hide hall
    clear hb hall
    by_cases hlt : k < n
    · have hltI : (k : Int) < n := by omega
      have hkl : k < l.length := by rw [← HN.out]; exact hlt
      obtain ⟨g, o, rfl, hg, hcl⟩ := HP.out.resolve_left (by rw [← HN.out]; omega)
      have hq := drC_below (hcl k hkl) (HB1.out.trans (HB.out.mono HB1.out.size)) hg
      have hp1 := drC_below (drC_at HD1.out) HB.out (Array.getElem?_eq_some_iff.1 HD1.out).1
      obtain ⟨u, hu⟩ : ∃ u, u = l[k] := ⟨_, rfl⟩
      have HU := hide hu
      have HWU : Hid (wfD u) := hide (by rw [hu]; exact HL.out _ (List.getElem_mem hkl))
      rw [← hu] at hq
      obtain ⟨c0, c1⟩ := hp1
      obtain ⟨e0, e1⟩ := hq
      clear hu hcl
      by_cases he : u = d
      · have heq : ∀ w, (binOp .eql 29 (.agg #[.int .i64 d.1, .int .i64 d.2]) (.agg #[.int .i64 u.1, .int .i64 u.2])).run Try.prog w = .ok (.bool true) w := run_eqDr HD.out HWU.out true (by simp [he])
        have heg : ∀ w, (eqGuard .eql 29 (.tmp 11) (.tmp 15) (.agg #[.int .i64 d.1, .int .i64 d.2]) (.agg #[.int .i64 u.1, .int .i64 u.2])).run Try.prog w = .ok () w := eqGuard_dr d u _ _
        have HE := hide he
        clear he
        go_wp2
        go_quiet (fail)
        go_wp2
        go_ret
        refine ⟨⟨k, rfl, ?_⟩, HB1.out.trans ((below_draws HB.out _).mono HB1.out.size)⟩
        rw [decide_eq_true (by omega)]
        exact (List.contains_iff_mem.2 (by rw [← HE.out, HU.out]; exact List.getElem_mem hkl)).symm
      · have heq : ∀ w, (binOp .eql 29 (.agg #[.int .i64 d.1, .int .i64 d.2]) (.agg #[.int .i64 u.1, .int .i64 u.2])).run Try.prog w = .ok (.bool false) w := run_eqDr HD.out HWU.out false (by simp [Ne.symm he])
        have heg : ∀ w, (eqGuard .eql 29 (.tmp 11) (.tmp 15) (.agg #[.int .i64 d.1, .int .i64 d.2]) (.agg #[.int .i64 u.1, .int .i64 u.2])).run Try.prog w = .ok () w := eqGuard_dr d u _ _
        have HE := hide he
        clear he
        go_wp2
        go_quiet (fail)
        go_wp2
        go_roundw
        case rel => exact ⟨k + 1, by omega, by go_num, below_draws HB.out _, fun t ht h => by
          by_cases h2 : t < k
          · exact HA.out t ht h2
          · obtain rfl : t = k := by omega
            rw [← HU.out]; exact HE.out⟩
        case measure => simp [intOf]; omega
    · obtain rfl : k = n := by omega
      go_wp2
      go_ret
      refine ⟨⟨-1, rfl, ?_⟩, HB1.out.trans (HB.out.mono HB1.out.size)⟩
      rw [decide_eq_false (by omega)]
      refine (Bool.eq_false_iff.2 fun hc => ?_).symm
      obtain ⟨t, ht, he⟩ := List.getElem_of_mem (List.contains_iff_mem.1 hc)
      exact HA.out t ht (by rw [HN.out]; exact ht) he
set_option maxHeartbeats 1000000 in
theorem containsDr_any (v : Value) (l : List (Int × Int)) (d : Int × Int) (w : World) (hin : DrsC w v l) (hl : ∀ e ∈ l, wfD e) (hd : wfD d) (hn : l.length ≤ 4) :
    Calls Try.prog 50 #[v, drV d] w fun e w' => e = .returned (.bool (l.contains d)) ∧ Below w.heap.size w w' := by
  have HIN := hide hin
  have HC := hide fun w h => indexDr_any v l d w h hl hd hn
  obtain ⟨a, c, rfl, -⟩ := hin
  clear hl hd hn
  go_enter Try.func50, Try.ntmps50
  go_wp2_with (first | ((with_reducible refine wpList_boxDr d 3 rfl rfl (.tmp 1) rfl rfl ?_); intro w1 h1 b1 s1; have HD1 := hide h1; have HB1 := hide b1; clear h1 b1 s1) | (with_reducible refine wpList_loadDrC (drC_at HD1.out) 6 rfl rfl _ rfl rfl ?_) | ((with_reducible refine (HC.out _ (drsC_below HIN.out HB1.out)).mono ?_); rintro e w2 ⟨⟨k, rfl, hk⟩, hb⟩; have HK := hide hk; have HB2 := hide (HB1.out.trans (hb.mono HB1.out.size)); clear hb hk))
  go_ret
  exact ⟨ret_bool HK.out, HB2.out⟩
theorem exec_loadDrC0 {ρ : Operand → Value} {o : Oper} {w : World} {x : Operand} {g : Nat} {d : Int × Int} (ho : o.op = .load 29 x) (hx : ρ x = .pointer (some ⟨g, 0, none⟩)) (hd : DirAt w g d.1 d.2) :
    (execOp ρ o).run Try.prog w = .ok (.value (drV d)) w := exec_loadDir ho hx hd
end Go.Proofs.Ytjnnoabaepmcnaa
/-
  A region whose last operation waits for all others, some of them guarded: each guard decided ahead.
-/
namespace Go.Proofs.Ytjnnoabaepmcnaa
open Go.RowKit

def Obg (P : Program) (Q : Exit → Act → World → Prop) (base : List (Tmp × Value)) (dsts : List (Option Tmp)) (S : World → Prop) (fs : List FactP) (i : Nat) (o : Oper) : Prop :=
  ∀ (a : Act) (w : World), S w → (∀ t v, base.lookup t = some v → a.tmps.getD t undef = v) →
    (∀ j d, dsts[j]? = some (some d) → depT o j = true → factP fs j (a.tmps.getD d undef) w) →
    ∀ K : Act → World → Prop, (∀ v w', S w' → (∀ j u, factP fs j u w → factP fs j u w') → factP fs i v w' → K (a.put o.dst v) w') →
      ((o.guard = none ∨ ∃ j d b, o.guard = some (j, b) ∧ dsts[j]? = some (some d) ∧ a.tmps.getD d undef = .bool b) ∧ o.wp P a w K Q) ∨
      ((∃ j d b, o.guard = some (j, b) ∧ dsts[j]? = some (some d) ∧ a.tmps.getD d undef = .bool (!b)) ∧ K (a.put o.dst undef) w)
section
variable {P : Program} {Q : Exit → Act → World → Prop} {base : List (Tmp × Value)} {dsts : List (Option Tmp)} {S : World → Prop} {fs : List FactP} {i : Nat} {o : Oper}
/-- No guard. -/
theorem obg_of (hg : o.guard = none) (h : Obt P Q base dsts S fs i o) : Obg P Q base dsts S fs i o := fun a w hS hb hd K hK => .inl ⟨.inl hg, (h a w hS hb hd K hK).2⟩
/-- The guard says yes. -/
theorem obg_yes {d : Tmp} {b : Bool} (j : Nat) (hg : o.guard = some (j, b)) (hj : dsts[j]? = some (some d)) (hd : depT o j = true) (hf : factP fs j = isV (.bool b)) (h : Obt P Q base dsts S fs i { o with guard := none }) : Obg P Q base dsts S fs i o := fun a w hS hb hdep K hK => by
  have hv := hdep j d hj hd
  rw [hf] at hv
  exact .inl ⟨.inr ⟨j, d, b, hg, hj, hv⟩, (h a w hS hb hdep K hK).2⟩
/-- The guard says no: the operation is passed over. -/
theorem obg_no {d : Tmp} {b : Bool} (j : Nat) (hg : o.guard = some (j, b)) (hj : dsts[j]? = some (some d)) (hd : depT o j = true) (hf : factP fs j = isV (.bool (!b))) (hi : factP fs i = isV undef) : Obg P Q base dsts S fs i o := fun a w hS hb hdep K hK => by
  have hv := hdep j d hj hd
  rw [hf] at hv
  exact .inr ⟨⟨j, d, b, hg, hj, hv⟩, hK undef w hS (fun _ _ h => h) (by rw [hi]; rfl)⟩
/-- An operation that yields what its slot's fact asks for, out of its forerunners' facts. -/
theorem obt_any (hg : o.guard = none) (hr : ∀ (a : Act) (w : World), S w → (∀ x u, SrcT base dsts fs o x u → a.eval x = u) → (∀ j d, dsts[j]? = some (some d) → depT o j = true → factP fs j (a.tmps.getD d undef) w) → ∃ v, (execOp a.eval o).run P w = .ok (.value v) w ∧ factP fs i v w) : Obt P Q base dsts S fs i o := fun a w hS hB hD K hK => by
  obtain ⟨v, h1, h2⟩ := hr a w hS (fun x u hx => srt_val hx hB hD) hD
  exact ⟨.inl hg, run_value v h1 (hK _ _ hS (fun _ _ h => h) h2)⟩
theorem obt_pick_t {c x y : Operand} (v : Value) (ho : o.op = .pick c x y) (hf : factP fs i = isV v) (hg : o.guard = none) (hc : SrcT base dsts fs o c (.bool true)) (hx : SrcT base dsts fs o x v) : Obt P Q base dsts S fs i o :=
  obt_run v hf hg fun ρ w _ h => by
    unfold execOp
    simp only [ho, h _ _ hc, h _ _ hx]
    rfl
theorem obt_pick_f {c x y : Operand} (v : Value) (ho : o.op = .pick c x y) (hf : factP fs i = isV v) (hg : o.guard = none) (hc : SrcT base dsts fs o c (.bool false)) (hy : SrcT base dsts fs o y v) : Obt P Q base dsts S fs i o :=
  obt_run v hf hg fun ρ w _ h => by
    unfold execOp
    simp only [ho, h _ _ hc, h _ _ hy]
    rfl
/-- The last operation, run. -/
theorem exec_pick_t {ρ : Operand → Value} {o : Oper} {w : World} {c x y : Operand} {v : Value} (ho : o.op = .pick c x y) (hc : ρ c = .bool true) (hx : ρ x = v) : (execOp ρ o).run P w = .ok (.value v) w := by
  unfold execOp
  simp only [ho, hc, hx]
  rfl
theorem exec_pick_f {ρ : Operand → Value} {o : Oper} {w : World} {c x y : Operand} {v : Value} (ho : o.op = .pick c x y) (hc : ρ c = .bool false) (hy : ρ y = v) : (execOp ρ o).run P w = .ok (.value v) w := by
  unfold execOp
  simp only [ho, hc, hy]
  rfl
theorem exec_notg {ρ : Operand → Value} {o : Oper} {w : World} {x : Operand} {T : TypeId} {b : Bool} (ho : o.op = .unOp .not T x) (hx : ρ x = .bool b) : (execOp ρ o).run P w = .ok (.value (.bool !b)) w := by
  unfold execOp
  simp only [ho, hx]
  rfl
theorem exec_assigng {ρ : Operand → Value} {o : Oper} {w : World} {x : Operand} {v : Value} (ho : o.op = .assign x) (hx : ρ x = v) : (execOp ρ o).run P w = .ok (.value v) w := by
  unfold execOp
  simp only [ho, hx]
  rfl
theorem exec_moveg {ρ : Operand → Value} {o : Oper} {w : World} {x : Operand} {v : Value} (ho : o.op = .move x) (hx : ρ x = v) : (execOp ρ o).run P w = .ok (.value v) w := by
  unfold execOp
  simp only [ho, hx]
  rfl
theorem wp_region_g {ops : Array Oper} {id : Nat} {a : Act} {w : World} {S : World → Prop} (fs : List FactP) (base : List (Tmp × Value)) (dsts : List (Option Tmp)) (last : Oper) (k : Nat)
    (hm : P.follows .mixedOrders = true) (hk : ops.size = k + 1) (hlk : ops[k]? = some last) (ho : orderly .any a.tmps.size 0 [] ops.toList = true) (ht : tails .any ops.toList = true) (hd : ops.toList.map (·.dst) = dsts)
    (hbo : base.all (fun p => outside ops p.1) = true) (hb : ∀ t v, base.lookup t = some v → a.tmps.getD t undef = v)
    (hS : S w.drew) (hob : AllOps (Obg P Q base dsts S fs) 0 ops.toList.dropLast) (hgl : last.guard = none)
    (hlast : ∀ (a' : Act) (w' : World), a'.tmps.size = a.tmps.size → a'.defers = a.defers → (∀ t, outside ops t = true → a'.tmps.getD t undef = a.tmps.getD t undef) → S w' →
      (∀ j d, dsts[j]? = some (some d) → j < k → factP fs j (a'.tmps.getD d undef) w') → ∀ K : Act → World → Prop, (∀ v w2, Q .normal (a'.put last.dst v) w2 → K (a'.put last.dst v) w2) → last.wp P a' w' K Q) :
    (Code.region id ops true).wp P Q a w := by
  have hl : ops[ops.size - 1]? = some last := by rw [hk]; exact hlk
  have hdst' : ∀ (j : Nat) (d : Tmp), dsts[j]? = some (some d) → ∃ o, ops[j]? = some o ∧ o.dst = some d := fun j d h => by
    rw [← hd, List.getElem?_map] at h
    cases hj : ops.toList[j]? with
    | none => rw [hj] at h; simp at h
    | some o =>
      rw [hj] at h
      exact ⟨o, by simpa using hj, by simpa using h⟩
  have hmem : ∀ (t : Tmp) (v : Value) (l : List (Tmp × Value)), l.lookup t = some v → ∃ p ∈ l, p.1 = t := fun t v l => by
    induction l with
    | nil => intro h; simp at h
    | cons x r ih =>
      intro h
      rw [List.lookup_cons] at h
      by_cases e : t == x.1
      · exact ⟨x, List.mem_cons_self, (by simpa using e : t = x.1).symm⟩
      · have e' : (t == x.1) = false := by simpa using e
        rw [e'] at h
        obtain ⟨p, hp, hpt⟩ := ih h
        exact ⟨p, List.mem_cons_of_mem _ hp, hpt⟩
  have hstart : ∀ k, k ≤ ops.size → unl (Array.replicate ops.size false) k = k := by
    intro k
    induction k with
    | zero => intro _; rfl
    | succ k ih =>
      intro hk
      rw [unl, ih (by omega)]
      have : (Array.replicate ops.size false).getD k true = false := by simp [show k < ops.size by omega]
      rw [this]; rfl
  refine wp_region_any hm (wpAny_tail (F := fun i u w => factP fs i u w) ho ht hl (fun i o hi hil a' w' hts hds hout hSw hdep K hK => ?_) (fun a' w' h1 h2 h3 h4 h5 K hK => ?_) _ _ _ _ ⟨by simp, rfl, rfl, fun _ _ => rfl, hS, fun i o d hi _ hl => ?_⟩ (fun k o hk hlk => ?_) ?_ ?_)
  · have hbase : ∀ t v, base.lookup t = some v → a'.tmps.getD t undef = v := fun t v h => by
      obtain ⟨p, hp, rfl⟩ := hmem t v base h
      rw [List.all_eq_true] at hbo
      rw [hout p.1 (hbo p hp)]; exact hb p.1 v h
    have hdep' : ∀ j d, dsts[j]? = some (some d) → depT o j = true → factP fs j (a'.tmps.getD d undef) w' := fun j d h he => by
      unfold depT at he
      rw [Array.any_eq_true] at he
      obtain ⟨n, hn, he⟩ := he
      simp only [Bool.and_eq_true, beq_iff_eq] at he
      obtain ⟨oe, hoe, hde⟩ := hdst' j d h
      have := hdep (o.after[n]) (Array.getElem_mem hn) he.2 oe d (by rw [he.1]; exact hoe) hde
      rw [he.1] at this; exact this
    have hip : ops.toList.dropLast[i]? = some o := by
      have : ops.toList[i]? = some o := by simpa using hi
      rw [List.getElem?_dropLast, if_pos (by simpa using hil)]; exact this
    have hobi := allOps_at _ 0 hob i o hip
    rw [Nat.zero_add] at hobi
    rcases hobi a' w' hSw hbase hdep' K hK with ⟨hg, hwp⟩ | ⟨hg, hwp⟩
    · have hwant : Region.wanted o (yielded ops a'.tmps) = true := by
        rcases hg with hg | ⟨j, d, b, hg, hj, hv⟩
        · simp [Region.wanted, hg]
        · obtain ⟨oj, hoj, hdj⟩ := hdst' j d hj
          have h1 : a'.tmps[d]? = some (.bool b) := by
            cases h : a'.tmps[d]? with
            | none => simp [h] at hv; cases hv
            | some u => simp [h] at hv; rw [hv]
          simp [Region.wanted, hg, yielded, hoj, hdj, h1]
      unfold wpOp
      simp only [hi, hwant, if_true]
      exact .inl hwp
    · have hwant : Region.wanted o (yielded ops a'.tmps) = false := by
        obtain ⟨j, d, b, hg, hj, hv⟩ := hg
        obtain ⟨oj, hoj, hdj⟩ := hdst' j d hj
        have h1 : a'.tmps[d]? = some (.bool (!b)) := by
          cases h : a'.tmps[d]? with
          | none => simp [h] at hv; cases hv
          | some u => simp [h] at hv; rw [hv]
        cases b <;> simp [Region.wanted, hg, yielded, hoj, hdj, h1]
      unfold wpOp
      simp only [hi, hwant]
      exact hwp
  · have hw := hlast a' w' h1 h2 h3 h4 (fun j d h hj => by
      obtain ⟨o, ho', hd'⟩ := hdst' j d h
      exact h5 j o d ho' (by omega) hd') K fun v w2 hq => hK _ _ hq
    unfold wpOp
    have hwant : Region.wanted last (yielded ops a'.tmps) = true := by simp [Region.wanted, hgl]
    simp only [hl, hwant, if_true]
    exact .inl hw
  · exfalso
    have hlt : i < ops.size := (Array.getElem?_eq_some_iff.1 hi).1
    simp [hlt] at hl
  · exfalso
    have hlt : k < ops.size := (Array.getElem?_eq_some_iff.1 hk).1
    simp [hlt] at hlk
  · have hlt : ops.size - 1 < ops.size := by omega
    simp [hlt]
  · rw [hstart _ (Nat.le_refl _)]; exact Nat.le_refl _
end
end Go.Proofs.Ytjnnoabaepmcnaa
/-
  DirectionsOk of the program.
-/
namespace Go.Proofs.Ytjnnoabaepmcnaa
open Go.RowKit
set_option maxRecDepth 100000

theorem exec_sliceTo {ρ : Operand → Value} {o : Oper} {w : World} {x i : Operand} {a : Option Addr} {n c k : Nat} (ho : o.op = .slice 26 x none (some i) none) (hx : ρ x = .slice a n c) (hi : ρ i = .int .i64 k) (hk : k < n) (hn : n ≤ c) : (execOp ρ o).run Try.prog w = .ok (.value (.slice a k c)) w := by
  have hkI : (k : Int) ≤ c := by omega
  have hk0 : (0 : Int) ≤ k := by omega
  unfold execOp
  simp only [ho, hx]
  cases a <;> go_simp
theorem drsC_take {w : World} {a : Option Addr} {c : Nat} {l : List (Int × Int)} (h : DrsC w (.slice a l.length c) l) (k : Nat) (hk : k ≤ l.length) : DrsC w (.slice a k c) (l.take k) := by
  obtain ⟨a', c', hv, hl, hm, hp⟩ := h
  cases hv
  refine ⟨a, c, by rw [List.length_take, Nat.min_eq_left hk], by rw [List.length_take]; omega, hm, ?_⟩
  rcases hp with h0 | ⟨g, o, ha, hg, hc⟩
  · exact .inl (by rw [List.length_take]; omega)
  · refine .inr ⟨g, o, ha, hg, fun i hi => ?_⟩
    rw [List.length_take] at hi
    rw [List.getElem_take]; exact hc i (by omega)
set_option maxHeartbeats 4000000 in
theorem implDirsOk_any (v : Value) (l : List (Int × Int)) (w : World) (hin : DrsC w v l) :
    Calls Try.prog 21 #[v] w fun e w' => e = .returned (.bool (dirsB l)) ∧ Below w.heap.size w w' := by
  have HIN := hide hin
  obtain ⟨a, c, rfl, hlc, hm, hp⟩ := hin
  have HP := hide hp
  unfold maxLen at hm
  have hml : l.length ≤ 2 ^ 63 - 1 := by omega
  by_cases h0 : l.length = 0
  · have HR : Hid (dirsB l = false) := hide (by rw [dirsB, decide_eq_false (by omega), Bool.false_and])
    rw [HR.out]
    rw [h0] at hml hlc ⊢
    clear hp h0 HIN
    go_enter Try.func21, Try.ntmps21
    go_wp2
    go_ret
    exact ⟨rfl, Below.refl _ _⟩
  by_cases h4 : 4 < l.length
  · have HR : Hid (dirsB l = false) := hide (by rw [dirsB, decide_eq_false (by omega), Bool.false_and])
    rw [HR.out]
    obtain ⟨n, hn⟩ : ∃ n, n = l.length := ⟨_, rfl⟩
    rw [← hn] at hml hlc h0 h4 ⊢
    have h4I : (4 : Int) < n := by omega
    have h0I : ((n : Int) == 0) = false := by simp [h0]
    clear hp HIN hn HP
    go_enter Try.func21, Try.ntmps21
    go_wp2
    go_ret
    exact ⟨rfl, Below.refl _ _⟩
  obtain ⟨n, hn⟩ : ∃ n, n = l.length := ⟨_, rfl⟩
  have HN := hide hn
  rw [← hn] at hml hlc h0 h4 HIN ⊢
  have h4I : ¬ (4 : Int) < n := by omega
  have h0I : ((n : Int) == 0) = false := by simp [h0]
  obtain ⟨g, o, rfl, hg, -⟩ := hp.resolve_left (by omega)
  have HCL : Hid (∀ i, (h : i < l.length) → DrC w g (o + i * 2) l[i]) := hide (by
    obtain ⟨g', o', he, -, hc⟩ := HP.out.resolve_left (by omega)
    cases he; exact hc)
  clear hp hn HP
  go_enter Try.func21, Try.ntmps21
  go_wp2
  go_loopw [15] (fun i w' => ∃ k : Nat, k ≤ n ∧ i = .int .i64 k ∧ (∀ t, t < k → freshD l t = true) ∧ Below w.heap.size w w') (fun i _ => n - (intOf i).toNat)
  case atStart => exact ⟨0, Nat.zero_le _, rfl, fun t h => absurd h (Nat.not_lt_zero _), Below.refl _ _⟩
  case round =>
    obtain ⟨k, hk, rfl, hall, hb⟩ := hrel
    have HA := hide hall; have HB := hide hb
    clear hall hb
    by_cases hlt : k < n
    · have hltI : (k : Int) < n := by omega
      have hkl : k < l.length := by rw [← HN.out]; exact hlt
      obtain ⟨d, hd⟩ : ∃ d, d = l[k] := ⟨_, rfl⟩
      have HD := hide hd
      have hc := drC_below (HCL.out k hkl) HB.out hg
      rw [← hd] at hc
      have HF : Hid (freshD l k = (dirOk d.1 d.2 && (l.take k).contains d == false)) := hide (by rw [freshD_at hkl, ← hd]; cases (List.take k l).contains d <;> simp)
      have HWF : Hid (∀ e ∈ l.take k, wfD e) := hide fun e he => by
        obtain ⟨t, ht, rfl⟩ := List.getElem_of_mem he
        rw [List.length_take] at ht
        have h1 := HA.out t (by omega)
        rw [freshD_at (by omega)] at h1
        rw [List.getElem_take]
        exact wfD_of (Bool.and_eq_true _ _ ▸ h1).1
      clear hd
      have HBX : Hid (Below wr.heap.size wr (wr.alloc (.cells #[.int .i64 d.1, .int .i64 d.2] 29))) := hide ((Below.refl _ _).alloc (Nat.le_refl _) _)
      obtain ⟨c0, c1⟩ := hc
      cases hok : dirOk d.1 d.2 with
      | false =>
        have HOK := hide hok
        clear hok
        go_wp2
        obtain ⟨w1, hw1⟩ : ∃ w1, w1 = wr.alloc (.cells #[.int .i64 d.1, .int .i64 d.2] 29) := ⟨_, rfl⟩
        have HD1 : Hid (DirAt w1 wr.heap.size d.1 d.2) := hide (by rw [hw1]; exact heap_alloc_new wr _)
        have HB1 : Hid (Below w.heap.size w w1) := hide (by rw [hw1]; exact HB.out.trans (HBX.out.mono HB.out.size))
        rw [← hw1]
        clear hw1 HBX c0 c1
        obtain ⟨fs, hfs⟩ : ∃ fs : List FactP, fs = [(isV (drV d)), (isV (.bool false)), (isV (.bool true)), (isV (.bool true)), (isV (undef)), (isV (undef)), (isV (undef)), (isV (undef)), (isV (undef))] := ⟨_, rfl⟩
        have hst : ∀ f ∈ fs, StableP f := by
          rw [hfs]; intro f hf
          simp only [List.mem_cons, List.not_mem_nil, or_false] at hf
          rcases hf with rfl | rfl | rfl | rfl | rfl | rfl | rfl | rfl | rfl <;> exact stable_v _
        subst hfs
        refine wp_region_g (S := fun w2 => DirAt w2 wr.heap.size d.1 d.2 ∧ Below w1.heap.size w1 w2) [(isV (drV d)), (isV (.bool false)), (isV (.bool true)), (isV (.bool true)), (isV (undef)), (isV (undef)), (isV (undef)), (isV (undef)), (isV (undef))] [(4, .pointer (some ⟨wr.heap.size, 0, none⟩))] _ _ 9 (by kernel_rfl) rfl rfl (by kernel_rfl) (by kernel_rfl) rfl (by kernel_rfl) ?base ⟨HD1.out, below_drew (Below.refl _ _)⟩ ?ob rfl ?fin
        case base =>
          intro t v ht
          simp only [List.lookup_cons, List.lookup_nil] at ht
          repeat' split at ht
          all_goals first | (cases ht; done) | (obtain rfl := Option.some.inj ht; rename_i hh; obtain rfl := eq_of_beq hh; rfl)
        case ob =>
          exact ⟨obg_of rfl (obt_one (drV d) rfl rfl (srt_b 4 rfl) (fun ρ w2 hS hx => exec_loadDrC0 rfl hx hS.1)),
            obg_of rfl (obt_call hst [drV d] rfl Try.func10 (by kernel_rfl) (by kernel_rfl) rfl ⟨(srt_j 0 rfl (by kernel_rfl) rfl), trivial⟩ (fun w2 hS => (implDirectionOk_any d.1 d.2 w2).mono fun e w3 ⟨he, hh⟩ => ⟨_, he.trans (by rw [HOK.out]), ⟨dirAt_below hS.1 hh, hS.2.trans (hh.mono hS.2.size)⟩, hh, rfl⟩)),
            obg_of rfl (obt_one (.bool true) rfl rfl (srt_j 1 rfl (by kernel_rfl) rfl) (fun ρ w2 hS hx => by go_simp)),
            obg_of rfl (obt_move (.bool true) rfl rfl rfl (srt_j 2 rfl (by kernel_rfl) rfl)),
            obg_no 3 rfl rfl (by kernel_rfl) rfl rfl,
            obg_no 3 rfl rfl (by kernel_rfl) rfl rfl,
            obg_no 3 rfl rfl (by kernel_rfl) rfl rfl,
            obg_no 3 rfl rfl (by kernel_rfl) rfl rfl,
            obg_no 3 rfl rfl (by kernel_rfl) rfl rfl,
            trivial⟩
        case fin =>
          intro a' w' h1 h2 h3 hS h4 K hK
          have ha := frame_ov rfl h1 h2 h3 [(20, drV d), (21, .bool false), (22, .bool true), (23, .bool true), (24, undef), (25, undef), (26, undef), (27, undef), (28, undef), (29, a'.tmps.getD 29 undef)] (by kernel_rfl) ⟨h4 0 20 rfl (by decide), h4 1 21 rfl (by decide), h4 2 22 rfl (by decide), h4 3 23 rfl (by decide), h4 4 24 rfl (by decide), h4 5 25 rfl (by decide), h4 6 26 rfl (by decide), h4 7 27 rfl (by decide), h4 8 28 rfl (by decide), rfl, trivial⟩
          dsimp only [ov, List.lookup, Nat.reduceBEq, Nat.reduceAdd] at ha
          refine run_value (.bool true) (exec_pick_t (v := .bool true) rfl (h4 3 23 rfl (by decide)) (rfl)) (hK (.bool true) _ ?_)
          show Exit.then _ _ Exit.normal (Act.put a' (some 29) (.bool true)) _
          rw [ha]
          generalize a'.tmps.getD 29 undef = u29
          clear ha h1 h2 h3 h4 hst hK
          have HB2 := hide (HB1.out.trans (hS.2.mono HB1.out.size))
          clear hS HB1 HB HD1
          go_wp2
          go_ret
          exact ⟨ret_bool (dirsB_no hkl (by rw [HF.out, HOK.out, Bool.false_and])).symm, HB2.out⟩
      | true =>
        have HOK := hide hok
        clear hok
        cases hcn : (l.take k).contains d with
        | true =>
          have HCN := hide hcn
          clear hcn
          go_wp2
          obtain ⟨w1, hw1⟩ : ∃ w1, w1 = wr.alloc (.cells #[.int .i64 d.1, .int .i64 d.2] 29) := ⟨_, rfl⟩
          have HD1 : Hid (DirAt w1 wr.heap.size d.1 d.2) := hide (by rw [hw1]; exact heap_alloc_new wr _)
          have HB1 : Hid (Below w.heap.size w w1) := hide (by rw [hw1]; exact HB.out.trans (HBX.out.mono HB.out.size))
          rw [← hw1]
          clear hw1 HBX c0 c1
          obtain ⟨fs, hfs⟩ : ∃ fs : List FactP, fs = [(isV (drV d)), (isV (.bool true)), (isV (.bool false)), (isV (.bool false)), (isV (.slice (some ⟨g, o, none⟩) n c)), (isV (.int .i64 k)), (isV (.slice (some ⟨g, o, none⟩) k c)), (isV (drV d)), (isV (.bool true))] := ⟨_, rfl⟩
          have hst : ∀ f ∈ fs, StableP f := by
            rw [hfs]; intro f hf
            simp only [List.mem_cons, List.not_mem_nil, or_false] at hf
            rcases hf with rfl | rfl | rfl | rfl | rfl | rfl | rfl | rfl | rfl <;> exact stable_v _
          subst hfs
          refine wp_region_g (S := fun w2 => DirAt w2 wr.heap.size d.1 d.2 ∧ Below w1.heap.size w1 w2) [(isV (drV d)), (isV (.bool true)), (isV (.bool false)), (isV (.bool false)), (isV (.slice (some ⟨g, o, none⟩) n c)), (isV (.int .i64 k)), (isV (.slice (some ⟨g, o, none⟩) k c)), (isV (drV d)), (isV (.bool true))] [(0, .slice (some ⟨g, o, none⟩) n c), (3, .int .i64 k), (4, .pointer (some ⟨wr.heap.size, 0, none⟩))] _ _ 9 (by kernel_rfl) rfl rfl (by kernel_rfl) (by kernel_rfl) rfl (by kernel_rfl) ?base ⟨HD1.out, below_drew (Below.refl _ _)⟩ ?ob rfl ?fin
          case base =>
            intro t v ht
            simp only [List.lookup_cons, List.lookup_nil] at ht
            repeat' split at ht
            all_goals first | (cases ht; done) | (obtain rfl := Option.some.inj ht; rename_i hh; obtain rfl := eq_of_beq hh; rfl)
          case ob =>
            exact ⟨obg_of rfl (obt_one (drV d) rfl rfl (srt_b 4 rfl) (fun ρ w2 hS hx => exec_loadDrC0 rfl hx hS.1)),
              obg_of rfl (obt_call hst [drV d] rfl Try.func10 (by kernel_rfl) (by kernel_rfl) rfl ⟨(srt_j 0 rfl (by kernel_rfl) rfl), trivial⟩ (fun w2 hS => (implDirectionOk_any d.1 d.2 w2).mono fun e w3 ⟨he, hh⟩ => ⟨_, he.trans (by rw [HOK.out]), ⟨dirAt_below hS.1 hh, hS.2.trans (hh.mono hS.2.size)⟩, hh, rfl⟩)),
              obg_of rfl (obt_one (.bool false) rfl rfl (srt_j 1 rfl (by kernel_rfl) rfl) (fun ρ w2 hS hx => by go_simp)),
              obg_of rfl (obt_move (.bool false) rfl rfl rfl (srt_j 2 rfl (by kernel_rfl) rfl)),
              obg_yes 3 rfl rfl (by kernel_rfl) rfl (obt_move (.slice (some ⟨g, o, none⟩) n c) rfl rfl rfl (srt_b 0 rfl)),
              obg_yes 3 rfl rfl (by kernel_rfl) rfl (obt_move (.int .i64 k) rfl rfl rfl (srt_b 3 rfl)),
              obg_yes 3 rfl rfl (by kernel_rfl) rfl (obt_two (.slice (some ⟨g, o, none⟩) k c) rfl rfl (srt_j 4 rfl (by kernel_rfl) rfl) (srt_j 5 rfl (by kernel_rfl) rfl) (fun ρ w2 hS hx hy => exec_sliceTo rfl hx hy hlt hlc)),
              obg_yes 3 rfl rfl (by kernel_rfl) rfl (obt_one (drV d) rfl rfl (srt_b 4 rfl) (fun ρ w2 hS hx => exec_loadDrC0 rfl hx hS.1)),
              obg_yes 3 rfl rfl (by kernel_rfl) rfl (obt_call hst [.slice (some ⟨g, o, none⟩) k c, drV d] rfl Try.func50 (by kernel_rfl) (by kernel_rfl) rfl ⟨(srt_j 6 rfl (by kernel_rfl) rfl), (srt_j 7 rfl (by kernel_rfl) rfl), trivial⟩ (fun w2 hS => (containsDr_any _ (l.take k) d w2 (drsC_below (drsC_take (by have := HIN.out; rw [HN.out] at this; exact this) k (by omega)) (HB1.out.trans (hS.2.mono HB1.out.size))) HWF.out (wfD_of HOK.out) (by rw [List.length_take]; omega)).mono fun e w3 ⟨he, hh⟩ => ⟨_, he.trans (by rw [HCN.out]), ⟨dirAt_below hS.1 hh, hS.2.trans (hh.mono hS.2.size)⟩, hh, rfl⟩)),
              trivial⟩
          case fin =>
            intro a' w' h1 h2 h3 hS h4 K hK
            have ha := frame_ov rfl h1 h2 h3 [(20, drV d), (21, .bool true), (22, .bool false), (23, .bool false), (24, .slice (some ⟨g, o, none⟩) n c), (25, .int .i64 k), (26, .slice (some ⟨g, o, none⟩) k c), (27, drV d), (28, .bool true), (29, a'.tmps.getD 29 undef)] (by kernel_rfl) ⟨h4 0 20 rfl (by decide), h4 1 21 rfl (by decide), h4 2 22 rfl (by decide), h4 3 23 rfl (by decide), h4 4 24 rfl (by decide), h4 5 25 rfl (by decide), h4 6 26 rfl (by decide), h4 7 27 rfl (by decide), h4 8 28 rfl (by decide), rfl, trivial⟩
            dsimp only [ov, List.lookup, Nat.reduceBEq, Nat.reduceAdd] at ha
            refine run_value (.bool true) (exec_pick_f (v := .bool true) rfl (h4 3 23 rfl (by decide)) (h4 8 28 rfl (by decide))) (hK (.bool true) _ ?_)
            show Exit.then _ _ Exit.normal (Act.put a' (some 29) (.bool true)) _
            rw [ha]
            generalize a'.tmps.getD 29 undef = u29
            clear ha h1 h2 h3 h4 hst hK
            have HB2 := hide (HB1.out.trans (hS.2.mono HB1.out.size))
            clear hS HB1 HB HD1
            go_wp2
            go_ret
            exact ⟨ret_bool (dirsB_no hkl (by rw [HF.out, HCN.out]; simp)).symm, HB2.out⟩
        | false =>
          have HCN := hide hcn
          clear hcn
          go_wp2
          obtain ⟨w1, hw1⟩ : ∃ w1, w1 = wr.alloc (.cells #[.int .i64 d.1, .int .i64 d.2] 29) := ⟨_, rfl⟩
          have HD1 : Hid (DirAt w1 wr.heap.size d.1 d.2) := hide (by rw [hw1]; exact heap_alloc_new wr _)
          have HB1 : Hid (Below w.heap.size w w1) := hide (by rw [hw1]; exact HB.out.trans (HBX.out.mono HB.out.size))
          rw [← hw1]
          clear hw1 HBX c0 c1
          obtain ⟨fs, hfs⟩ : ∃ fs : List FactP, fs = [(isV (drV d)), (isV (.bool true)), (isV (.bool false)), (isV (.bool false)), (isV (.slice (some ⟨g, o, none⟩) n c)), (isV (.int .i64 k)), (isV (.slice (some ⟨g, o, none⟩) k c)), (isV (drV d)), (isV (.bool false))] := ⟨_, rfl⟩
          have hst : ∀ f ∈ fs, StableP f := by
            rw [hfs]; intro f hf
            simp only [List.mem_cons, List.not_mem_nil, or_false] at hf
            rcases hf with rfl | rfl | rfl | rfl | rfl | rfl | rfl | rfl | rfl <;> exact stable_v _
          subst hfs
          refine wp_region_g (S := fun w2 => DirAt w2 wr.heap.size d.1 d.2 ∧ Below w1.heap.size w1 w2) [(isV (drV d)), (isV (.bool true)), (isV (.bool false)), (isV (.bool false)), (isV (.slice (some ⟨g, o, none⟩) n c)), (isV (.int .i64 k)), (isV (.slice (some ⟨g, o, none⟩) k c)), (isV (drV d)), (isV (.bool false))] [(0, .slice (some ⟨g, o, none⟩) n c), (3, .int .i64 k), (4, .pointer (some ⟨wr.heap.size, 0, none⟩))] _ _ 9 (by kernel_rfl) rfl rfl (by kernel_rfl) (by kernel_rfl) rfl (by kernel_rfl) ?base ⟨HD1.out, below_drew (Below.refl _ _)⟩ ?ob rfl ?fin
          case base =>
            intro t v ht
            simp only [List.lookup_cons, List.lookup_nil] at ht
            repeat' split at ht
            all_goals first | (cases ht; done) | (obtain rfl := Option.some.inj ht; rename_i hh; obtain rfl := eq_of_beq hh; rfl)
          case ob =>
            exact ⟨obg_of rfl (obt_one (drV d) rfl rfl (srt_b 4 rfl) (fun ρ w2 hS hx => exec_loadDrC0 rfl hx hS.1)),
              obg_of rfl (obt_call hst [drV d] rfl Try.func10 (by kernel_rfl) (by kernel_rfl) rfl ⟨(srt_j 0 rfl (by kernel_rfl) rfl), trivial⟩ (fun w2 hS => (implDirectionOk_any d.1 d.2 w2).mono fun e w3 ⟨he, hh⟩ => ⟨_, he.trans (by rw [HOK.out]), ⟨dirAt_below hS.1 hh, hS.2.trans (hh.mono hS.2.size)⟩, hh, rfl⟩)),
              obg_of rfl (obt_one (.bool false) rfl rfl (srt_j 1 rfl (by kernel_rfl) rfl) (fun ρ w2 hS hx => by go_simp)),
              obg_of rfl (obt_move (.bool false) rfl rfl rfl (srt_j 2 rfl (by kernel_rfl) rfl)),
              obg_yes 3 rfl rfl (by kernel_rfl) rfl (obt_move (.slice (some ⟨g, o, none⟩) n c) rfl rfl rfl (srt_b 0 rfl)),
              obg_yes 3 rfl rfl (by kernel_rfl) rfl (obt_move (.int .i64 k) rfl rfl rfl (srt_b 3 rfl)),
              obg_yes 3 rfl rfl (by kernel_rfl) rfl (obt_two (.slice (some ⟨g, o, none⟩) k c) rfl rfl (srt_j 4 rfl (by kernel_rfl) rfl) (srt_j 5 rfl (by kernel_rfl) rfl) (fun ρ w2 hS hx hy => exec_sliceTo rfl hx hy hlt hlc)),
              obg_yes 3 rfl rfl (by kernel_rfl) rfl (obt_one (drV d) rfl rfl (srt_b 4 rfl) (fun ρ w2 hS hx => exec_loadDrC0 rfl hx hS.1)),
              obg_yes 3 rfl rfl (by kernel_rfl) rfl (obt_call hst [.slice (some ⟨g, o, none⟩) k c, drV d] rfl Try.func50 (by kernel_rfl) (by kernel_rfl) rfl ⟨(srt_j 6 rfl (by kernel_rfl) rfl), (srt_j 7 rfl (by kernel_rfl) rfl), trivial⟩ (fun w2 hS => (containsDr_any _ (l.take k) d w2 (drsC_below (drsC_take (by have := HIN.out; rw [HN.out] at this; exact this) k (by omega)) (HB1.out.trans (hS.2.mono HB1.out.size))) HWF.out (wfD_of HOK.out) (by rw [List.length_take]; omega)).mono fun e w3 ⟨he, hh⟩ => ⟨_, he.trans (by rw [HCN.out]), ⟨dirAt_below hS.1 hh, hS.2.trans (hh.mono hS.2.size)⟩, hh, rfl⟩)),
              trivial⟩
          case fin =>
            intro a' w' h1 h2 h3 hS h4 K hK
            have ha := frame_ov rfl h1 h2 h3 [(20, drV d), (21, .bool true), (22, .bool false), (23, .bool false), (24, .slice (some ⟨g, o, none⟩) n c), (25, .int .i64 k), (26, .slice (some ⟨g, o, none⟩) k c), (27, drV d), (28, .bool false), (29, a'.tmps.getD 29 undef)] (by kernel_rfl) ⟨h4 0 20 rfl (by decide), h4 1 21 rfl (by decide), h4 2 22 rfl (by decide), h4 3 23 rfl (by decide), h4 4 24 rfl (by decide), h4 5 25 rfl (by decide), h4 6 26 rfl (by decide), h4 7 27 rfl (by decide), h4 8 28 rfl (by decide), rfl, trivial⟩
            dsimp only [ov, List.lookup, Nat.reduceBEq, Nat.reduceAdd] at ha
            refine run_value (.bool false) (exec_pick_f (v := .bool false) rfl (h4 3 23 rfl (by decide)) (h4 8 28 rfl (by decide))) (hK (.bool false) _ ?_)
            show Exit.then _ _ Exit.normal (Act.put a' (some 29) (.bool false)) _
            rw [ha]
            generalize a'.tmps.getD 29 undef = u29
            clear ha h1 h2 h3 h4 hst hK
            have HB2 := hide (HB1.out.trans (hS.2.mono HB1.out.size))
            clear hS HB1 HD1
            go_wp2
            go_roundw
            case rel => exact ⟨k + 1, by omega, by go_num, fun t ht => by
              by_cases h2 : t < k
              · exact HA.out t h2
              · obtain rfl : t = k := by omega
                rw [HF.out, HOK.out, HCN.out]; rfl, HB2.out⟩
            case measure => simp [intOf]; omega
    · obtain rfl : k = n := by omega
      go_wp2
      go_ret
      exact ⟨ret_bool (dirsB_yes (fun t ht => HA.out t (by rw [HN.out]; exact ht)) (by rw [← HN.out]; omega)).symm, HB.out⟩
end Go.Proofs.Ytjnnoabaepmcnaa
/-
  DirectionsOk of the model.
-/
namespace Go.Proofs.Ytjnnoabaepmcnaa
open Go.RowKit
set_option maxRecDepth 100000

set_option maxHeartbeats 4000000 in
theorem specDirsOk_any (v : Value) (l : List (Int × Int)) (w : World) (hin : DrsC w v l) :
    Calls Try.prog 34 #[v] w fun e w' => e = .returned (.bool (dirsB l)) ∧ Below w.heap.size w w' := by
  obtain ⟨a, c, rfl, hlc, hm, hp⟩ := hin
  have HP := hide hp
  unfold maxLen at hm
  have hml : l.length ≤ 2 ^ 63 - 1 := by omega
  obtain ⟨n, hn⟩ : ∃ n, n = l.length := ⟨_, rfl⟩
  have HN := hide hn
  rw [← hn] at hml hlc ⊢
  clear hp hn
  by_cases h14 : 1 ≤ (n : Int) ∧ (n : Int) ≤ 4
  · have H14 := hide (decide_eq_true h14)
    obtain ⟨h1, h4⟩ := h14
    obtain ⟨g, o, rfl, hg, -⟩ := HP.out.resolve_left (by rw [← HN.out]; omega)
    have HCL : Hid (∀ i, (h : i < l.length) → DrC w g (o + i * 2) l[i]) := hide (by
      obtain ⟨g', o', he, -, hc⟩ := HP.out.resolve_left (by rw [← HN.out]; omega)
      cases he; exact hc)
    clear HP
    go_enter Try.func34, Try.ntmps34
    go_wp2_with ((with_reducible refine (l01In_any (n : Int) 1 4 _).mono ?_); rw [H14.out]; rintro e w' ⟨rfl, rfl⟩)
    go_loopw [13] (fun i w' => ∃ k : Nat, k ≤ n ∧ i = .int .i64 k ∧ (∀ t, t < k → freshD l t = true) ∧ Below w.heap.size w w') (fun i _ => n - (intOf i).toNat)
    case atStart => exact ⟨0, Nat.zero_le _, rfl, fun t h => absurd h (Nat.not_lt_zero _), Below.refl _ _⟩
    case round =>
      obtain ⟨wo, rfl⟩ : ∃ wo, wo = wr := ⟨_, rfl⟩
      obtain ⟨k, hk, rfl, hall, hb⟩ := hrel
      have HA := hide hall; have HB := hide hb
      clear hall hb
      by_cases hlt : k < n
      · have hltI : (k : Int) < n := by omega
        have hkl : k < l.length := by rw [← HN.out]; exact hlt
        obtain ⟨d, hd⟩ : ∃ d, d = l[k] := ⟨_, rfl⟩
        have HD := hide hd
        have hc := drC_below (HCL.out k hkl) HB.out hg
        rw [← hd] at hc
        have HF : Hid (freshD l k = (dirOk d.1 d.2 && (l.take k).contains d == false)) := hide (by rw [freshD_at hkl, ← hd]; cases (List.take k l).contains d <;> simp)
        have HWF : Hid (∀ t, (h : t < l.length) → t < k → wfD l[t]) := hide fun t ht htk => by
          have h1 := HA.out t htk
          rw [freshD_at ht] at h1
          exact wfD_of (Bool.and_eq_true _ _ ▸ h1).1
        clear hd
        have HBX : Hid (Below wo.heap.size wo (wo.alloc (.cells #[.int .i64 d.1, .int .i64 d.2] 29))) := hide ((Below.refl _ _).alloc (Nat.le_refl _) _)
        have HD1 : Hid (DirAt (wo.alloc (.cells #[.int .i64 d.1, .int .i64 d.2] 29)) wo.heap.size d.1 d.2) := hide (heap_alloc_new wo _)
        have hkc : (k : Int) ≤ c := by omega
        have hk0 : (0 : Int) ≤ k := by omega
        obtain ⟨c0, c1⟩ := hc
        cases hok : dirOk d.1 d.2 with
        | false =>
          have HOK := hide hok
          clear hok
          go_wp2_with (first | (with_reducible refine wpList_loadDir HD1.out rfl _ rfl rfl ?_) | ((with_reducible refine (specDirectionOk_any d.1 d.2 _).mono ?_); rw [HOK.out]; rintro e w2 ⟨rfl, hb⟩; have HB2 := hide (HB.out.trans ((HBX.out.trans (hb.mono HBX.out.size)).mono HB.out.size)); clear hb))
          go_ret
          exact ⟨ret_bool (dirsB_no hkl (by rw [HF.out, HOK.out, Bool.false_and])).symm, HB2.out⟩
        | true =>
          have HOK := hide hok
          clear hok
          go_wp2_with (first | (with_reducible refine wpList_loadDir HD1.out rfl _ rfl rfl ?_) | ((with_reducible refine (specDirectionOk_any d.1 d.2 _).mono ?_); rw [HOK.out]; rintro e w2 ⟨rfl, hb⟩; have HD2 := hide (dirAt_below HD1.out hb); have HB2 := hide (HB.out.trans ((HBX.out.trans (hb.mono HBX.out.size)).mono HB.out.size)); have hs2 := HBX.out.size; have hs3 := hb.size; clear hb))
          go_loopw [25] (fun i w' => ∃ j : Nat, j ≤ k ∧ i = .int .i64 j ∧ (∀ t, (h : t < l.length) → t < j → l[t] ≠ d) ∧ DirAt w' wo.heap.size d.1 d.2 ∧ Below w.heap.size w w') (fun i _ => k - (intOf i).toNat)
          case atStart => exact ⟨0, Nat.zero_le _, rfl, fun t _ h => absurd h (Nat.not_lt_zero _), HD2.out, HB2.out⟩
          case round =>
            obtain ⟨wi, rfl⟩ : ∃ wi, wi = wr := ⟨_, rfl⟩
            obtain ⟨j, hj, rfl, hall, hda, hb⟩ := hrel
            have HA2 := hide hall; have HD3 := hide hda; have HB3 := hide hb
            clear hall hda hb
            by_cases hlj : j < k
            · have hljI : (j : Int) < k := by omega
              have hjl : j < l.length := by rw [← HN.out]; omega
              have hq := drC_below (HCL.out j hjl) HB3.out hg
              obtain ⟨u, hu⟩ : ∃ u, u = l[j] := ⟨_, rfl⟩
              have HU := hide hu
              have HWU : Hid (wfD u) := hide (by rw [hu]; exact HWF.out j hjl hlj)
              rw [← hu] at hq
              clear hu
              obtain ⟨q0, q1⟩ := hq
              have HBY : Hid (Below wi.heap.size wi (wi.alloc (.cells #[.int .i64 u.1, .int .i64 u.2] 29))) := hide ((Below.refl _ _).alloc (Nat.le_refl _) _)
              have HE1 : Hid (DirAt (wi.alloc (.cells #[.int .i64 u.1, .int .i64 u.2] 29)) wi.heap.size u.1 u.2) := hide (heap_alloc_new wi _)
              have HD4 := hide (dirAt_below HD3.out HBY.out)
              have HB4 := hide (HB3.out.trans (HBY.out.mono HB3.out.size))
              by_cases he : u = d
              · have heq : ∀ w, (binOp .eql 29 (.agg #[.int .i64 u.1, .int .i64 u.2]) (.agg #[.int .i64 d.1, .int .i64 d.2])).run Try.prog w = .ok (.bool true) w := run_eqDr HWU.out (wfD_of HOK.out) true (by simp [he])
                have heg : ∀ w, (eqGuard .eql 29 (.tmp 29) (.tmp 30) (.agg #[.int .i64 u.1, .int .i64 u.2]) (.agg #[.int .i64 d.1, .int .i64 d.2])).run Try.prog w = .ok () w := eqGuard_dr u d _ _
                have HE := hide he
                clear he
                go_wp2_with (first | (with_reducible refine wpList_loadDir HE1.out rfl _ rfl rfl ?_) | (with_reducible refine wpList_loadDir HD4.out rfl _ rfl rfl ?_))
                go_ret
                exact ⟨ret_bool (dirsB_no hkl (by
                  rw [HF.out, HOK.out, List.contains_iff_mem.2]
                  · rfl
                  · rw [← HE.out, HU.out]
                    exact List.mem_take_iff_getElem.2 ⟨j, by rw [← HN.out]; omega, rfl⟩)).symm, HB4.out⟩
              · have heq : ∀ w, (binOp .eql 29 (.agg #[.int .i64 u.1, .int .i64 u.2]) (.agg #[.int .i64 d.1, .int .i64 d.2])).run Try.prog w = .ok (.bool false) w := run_eqDr HWU.out (wfD_of HOK.out) false (by simp [he])
                have heg : ∀ w, (eqGuard .eql 29 (.tmp 29) (.tmp 30) (.agg #[.int .i64 u.1, .int .i64 u.2]) (.agg #[.int .i64 d.1, .int .i64 d.2])).run Try.prog w = .ok () w := eqGuard_dr u d _ _
                have HE := hide he
                clear he
                go_wp2_with (first | (with_reducible refine wpList_loadDir HE1.out rfl _ rfl rfl ?_) | (with_reducible refine wpList_loadDir HD4.out rfl _ rfl rfl ?_))
                go_roundw
                case rel => exact ⟨j + 1, by omega, by go_num, fun t ht h => by
                  by_cases h2 : t < j
                  · exact HA2.out t ht h2
                  · obtain rfl : t = j := by omega
                    rw [← HU.out]; exact HE.out, HD4.out, HB4.out⟩
                case measure => simp [intOf]; omega
            · obtain rfl : j = k := by omega
              have HNC : Hid ((l.take j).contains d = false) := hide (Bool.eq_false_iff.2 fun hc => by
                obtain ⟨t, ht, he⟩ := List.getElem_of_mem (List.contains_iff_mem.1 hc)
                rw [List.getElem_take] at he
                rw [List.length_take] at ht
                exact HA2.out t (by omega) (by omega) he)
              go_wp2
              go_roundw
              case rel => exact ⟨j + 1, by omega, by go_num, fun t ht => by
                by_cases h2 : t < j
                · exact HA.out t h2
                · obtain rfl : t = j := by omega
                  rw [HF.out, HOK.out, HNC.out]; rfl, HB3.out⟩
              case measure => simp [intOf]; omega
      · obtain rfl : k = n := by omega
        go_wp2
        go_ret
        exact ⟨ret_bool (dirsB_yes (fun t ht => HA.out t (by rw [HN.out]; exact ht)) (by rw [← HN.out]; omega)).symm, HB.out⟩
  · have H14 := hide (decide_eq_false h14)
    have HR : Hid (dirsB l = false) := hide (by rw [dirsB, decide_eq_false (by rw [← HN.out]; omega), Bool.false_and])
    clear h14
    rw [HR.out]
    go_enter Try.func34, Try.ntmps34
    go_wp2_with ((with_reducible refine (l01In_any (n : Int) 1 4 _).mono ?_); rw [H14.out]; rintro e w' ⟨rfl, rfl⟩)
    go_ret
    exact ⟨rfl, Below.refl _ _⟩
end Go.Proofs.Ytjnnoabaepmcnaa
