/-
  Texts of this claim, one behind the other: SwV, SwL, Has, Swd, IMap, Pairs.
-/
import Derived.Test.YtcliiefedmiokaaPackI
import Derived.Test.YtcliiefedmiokaaPackF
import Derived.Test.YtcliiefedmiokaaPackJ
import Derived.Test.YtcliiefedmiokaaPackB
import Derived.Test.YtcliiefedmiokaaPackD
import Derived.DeepKeys5
import Derived.Maps.OwnSet
/-
  Switches as values and in variables; a cell of an image; whether a switch is one of an image.
-/
namespace Go.Proofs.Ytcliiefedmiokaa
open Go.RowKit

def swA (s : Sw) : Array Value := #[.int .i64 s.y1, .int .i64 s.y2, .int .i64 s.x1, .int .i64 s.x2]
def swV (s : Sw) : Value := .agg (swA s)
/-- A switch in a variable. -/
def SwAt (w : World) (g : Nat) (s : Sw) : Prop := w.heap[g]? = some (.cells (swA s) 45 (0, 0))
theorem swAt_lt {w : World} {g : Nat} {s : Sw} (h : SwAt w g s) : g < w.heap.size := (Array.getElem?_eq_some_iff.1 h).1
theorem swAt_below {w w' : World} {g : Nat} {s : Sw} (h : SwAt w g s) (hb : Below w.heap.size w w') : SwAt w' g s := by
  unfold SwAt; rw [hb.block g (swAt_lt h)]; exact h
theorem swAt_grown {w w' : World} {g : Nat} {s : Sw} {row : Option Nat} (h : SwAt w g s) (hg : w.grownBy w' row) (hr : row ≠ some g) : SwAt w' g s := by
  unfold SwAt; rw [hg.block g (swAt_lt h) (Ne.symm hr)]; exact h
theorem swAt_cells {w : World} {g : Nat} {s : Sw} (h : SwAt w g s) : w.cell? ⟨g, 0, none⟩ = some (.int .i64 s.y1) ∧ w.cell? ⟨g, 1, none⟩ = some (.int .i64 s.y2) ∧ w.cell? ⟨g, 2, none⟩ = some (.int .i64 s.x1) ∧ w.cell? ⟨g, 3, none⟩ = some (.int .i64 s.x2) :=
  ⟨by rw [cell_of_row w g 0 _ _ _ h]; rfl, by rw [cell_of_row w g 1 _ _ _ h]; rfl, by rw [cell_of_row w g 2 _ _ _ h]; rfl, by rw [cell_of_row w g 3 _ _ _ h]; rfl⟩
theorem Try.sizeSw : (Try.prog.info? 45).map (·.size) = some 4 := by kernel_rfl
theorem swA_size (s : Sw) : (swA s).size = 4 := rfl
theorem swA_one (s : Sw) : (swA s).all (·.oneCell') = true := by simp [swA, Value.oneCell']
theorem wpList_loadSw {ops : Array Oper} {rest : List Oper} {o : Oper} {a : Act} {Q : Exit → Act → World → Prop} {W : World} {g : Nat} {s : Sw} (hb : SwAt W g s)
    (d : Tmp) (_hd : o.dst = some d) (hgd : o.guard = none) (x : Operand) (ho : o.op = .load 45 x) (hx : a.eval x = .pointer (some ⟨g, 0, none⟩))
    (h : wpList Try.prog ops Q rest (a.put o.dst (swV s)) W) : wpList Try.prog ops Q (o :: rest) a W :=
  wpList_load_row hgd _ x ho g hx _ _ (0, 0) _ hb Try.underlying45 rfl Try.sizeSw h
theorem exec_loadSw {ρ : Operand → Value} {o : Oper} {w : World} {x : Operand} {g : Nat} {s : Sw} (ho : o.op = .load 45 x) (hx : ρ x = .pointer (some ⟨g, 0, none⟩)) (hb : SwAt w g s) : (execOp ρ o).run Try.prog w = .ok (.value (swV s)) w := by
  unfold execOp
  simp only [ho, hx]
  have hc := swAt_cells hb
  obtain ⟨h0, h1, h2, h3⟩ := hc
  go_simp
  rfl
theorem swAt_new (w : World) (s : Sw) : SwAt (w.alloc (.cells (swA s) 45)) w.heap.size s := heap_alloc_new w _
/-- A switch goes into a new variable. -/
theorem wpList_boxSw {P : Program} {ops : Array Oper} {rest : List Oper} {o : Oper} {a : Act} {Q : Exit → Act → World → Prop} {W : World} (s : Sw)
    (d : Tmp) (_hd : o.dst = some d) (hgd : o.guard = none) (x : Operand) (ho : o.op = .box 45 x) (hx : a.eval x = swV s)
    (h : ∀ w', SwAt w' W.heap.size s → Below W.heap.size W w' → w'.heap.size = W.heap.size + 1 → wpList P ops Q rest (a.put o.dst (.pointer (some ⟨W.heap.size, 0, none⟩))) w') : wpList P ops Q (o :: rest) a W := by
  refine wpList_plain hgd fun K hK => ?_
  unfold Oper.wp execOp
  simp only [ho, hx, Instr.box, Sem.run_bind]
  simp [newVar, newRow, Value.cells, swV]
  exact hK _ _ (h _ (swAt_new W s) ((Below.refl _ _).alloc (Nat.le_refl _) _) (by simp))

/-- The cell of five rows of five, -1 outside. -/
def cellF (F : Nat → Int) (y x : Int) : Int := if 0 ≤ y ∧ y < 5 ∧ 0 ≤ x ∧ x < 5 then F (5 * y.toNat + x.toNat) else -1
theorem cell_any (F : Nat → Int) (y x : Int) (w : World) :
    Calls Try.prog 118 #[.agg (vec 25 F), .int .i64 y, .int .i64 x] w fun e w' => e = .returned (.int .i64 (cellF F y x)) ∧ Below w.heap.size w w' := by
  by_cases h : y < 0 ∨ 5 ≤ y ∨ x < 0 ∨ 5 ≤ x
  · have := cell_out F y x w h
    rw [cellF, if_neg (by omega)]; exact this
  · obtain ⟨a, rfl⟩ : ∃ a : Nat, y = a := ⟨y.toNat, by omega⟩
    obtain ⟨b, rfl⟩ : ∃ b : Nat, x = b := ⟨x.toNat, by omega⟩
    have := cell_in F a b w (by omega) (by omega)
    rw [cellF, if_pos (by omega)]; exact this
/-- Whether the switch is one of the image. -/
def hasF (F : Nat → Int) (s : Sw) : Bool :=
  decide (s.y1 < s.y2) && decide (s.x1 < s.x2) && decide (cellF F s.y1 s.x1 ≠ cellF F s.y1 s.x2) && decide (cellF F s.y2 s.x1 = cellF F s.y1 s.x2) && decide (cellF F s.y2 s.x2 = cellF F s.y1 s.x1)
theorem cellF_img {R C : Nat} {f : Nat → Nat → Int} (h : Img R C f) (y x : Int) : cellF (imgF R C f) y x = if 0 ≤ y ∧ y < R ∧ 0 ≤ x ∧ x < C then f y.toNat x.toNat else -1 := by
  have hR := h.r2; have hC := h.c2
  unfold cellF
  by_cases h0 : 0 ≤ y ∧ y < 5 ∧ 0 ≤ x ∧ x < 5
  · rw [if_pos h0, imgF_at _ _ _ _ _ (by omega)]
    by_cases h1 : 0 ≤ y ∧ y < R ∧ 0 ≤ x ∧ x < C
    · rw [if_pos (by omega), if_pos h1]
    · rw [if_neg (by omega), if_neg h1]
  · rw [if_neg h0, if_neg (by omega)]
theorem hasF_img {R C : Nat} {f : Nat → Nat → Int} (h : Img R C f) (s : Sw) : hasF (imgF R C f) s = swF R C f s := by
  have hR := h.r2; have hC := h.c2
  obtain ⟨y1, y2, x1, x2⟩ := s
  rw [Bool.eq_iff_iff]
  simp only [hasF, cellF_img h, swF, four, Bool.and_eq_true, decide_eq_true_eq]
  by_cases hh : (0 ≤ y1 ∧ 0 ≤ x1) ∧ y1 < y2 ∧ x1 < x2
  · obtain ⟨⟨h1, h2⟩, h3, h4⟩ := hh
    obtain ⟨a, rfl⟩ : ∃ a : Nat, y1 = a := ⟨y1.toNat, by omega⟩
    obtain ⟨b, rfl⟩ : ∃ b : Nat, y2 = b := ⟨y2.toNat, by omega⟩
    obtain ⟨c, rfl⟩ : ∃ c : Nat, x1 = c := ⟨x1.toNat, by omega⟩
    obtain ⟨d, rfl⟩ : ∃ d : Nat, x2 = d := ⟨x2.toNat, by omega⟩
    simp only [Int.toNat_natCast]
    by_cases hb : b < R ∧ d < C
    · obtain ⟨hb, hd⟩ := hb
      have e1 := h.cell a c (by omega) (by omega); have e2 := h.cell a d (by omega) (by omega); have e3 := h.cell b c (by omega) (by omega); have e4 := h.cell b d (by omega) (by omega)
      rw [if_pos (by omega), if_pos (by omega), if_pos (by omega), if_pos (by omega)]
      omega
    · constructor
      · intro hx
        exfalso
        obtain ⟨⟨⟨⟨-, -⟩, g1⟩, g2⟩, g3⟩ := hx
        rw [if_neg (show ¬ (0 ≤ (b : Int) ∧ (b : Int) < R ∧ 0 ≤ (d : Int) ∧ (d : Int) < C) by omega)] at g3
        by_cases hc : a < R ∧ c < C
        · have := h.cell a c hc.1 hc.2
          rw [if_pos (by omega)] at g3
          omega
        · rw [if_neg (show ¬ (0 ≤ (a : Int) ∧ (a : Int) < R ∧ 0 ≤ (c : Int) ∧ (c : Int) < C) by omega)] at g1
          rw [if_neg (by omega)] at g1
          exact g1 rfl
      · rintro ⟨-, h5⟩; omega
  · constructor
    · intro hx
      exfalso
      obtain ⟨⟨⟨⟨k1, k2⟩, g1⟩, g2⟩, g3⟩ := hx
      have hn : ¬ (0 ≤ y1 ∧ 0 ≤ x1) := fun e => hh ⟨e, k1, k2⟩
      rw [if_neg (show ¬ (0 ≤ y1 ∧ y1 < R ∧ 0 ≤ x1 ∧ x1 < C) by omega)] at g1 g3
      split at g1 <;> split at g3 <;> split at g2 <;> first | omega | skip
      all_goals first | (exact g1 rfl) | skip
      all_goals (rename_i q1 q2 q3; omega)
    · rintro ⟨⟨⟨⟨k1, k2⟩, k3⟩, k4⟩, -⟩
      exact absurd ⟨⟨k1, k2⟩, k3, k4⟩ hh
end Go.Proofs.Ytcliiefedmiokaa
/-
  Lists of switches in memory.
-/
namespace Go.Proofs.Ytcliiefedmiokaa
open Go.RowKit

def cellsS (l : List Sw) : List Value := l.flatMap fun s => [.int .i64 s.y1, .int .i64 s.y2, .int .i64 s.x1, .int .i64 s.x2]
theorem cellsS_len (l : List Sw) : (cellsS l).length = l.length * 4 := by
  induction l with
  | nil => rfl
  | cons s l ih =>
    simp only [cellsS, List.flatMap_cons, List.length_append, List.length_cons, List.length_nil] at ih ⊢
    omega
theorem cellsS_snoc (l : List Sw) (s : Sw) : cellsS (l ++ [s]) = cellsS l ++ (swA s).toList := by
  simp [cellsS, swA]
theorem cellsS_at : ∀ (l : List Sw) (i : Nat) (h : i < l.length), (cellsS l)[i * 4]? = some (.int .i64 l[i].y1) ∧ (cellsS l)[i * 4 + 1]? = some (.int .i64 l[i].y2) ∧ (cellsS l)[i * 4 + 2]? = some (.int .i64 l[i].x1) ∧ (cellsS l)[i * 4 + 3]? = some (.int .i64 l[i].x2)
  | [], i, h => absurd h (Nat.not_lt_zero _)
  | s :: l, 0, _ => ⟨rfl, rfl, rfl, rfl⟩
  | s :: l, i + 1, h => by
    have := cellsS_at l i (by simpa using h)
    have e : cellsS (s :: l) = [.int .i64 s.y1, .int .i64 s.y2, .int .i64 s.x1, .int .i64 s.x2] ++ cellsS l := by simp [cellsS]
    rw [e]
    simp only [List.getElem_cons_succ]
    refine ⟨?_, ?_, ?_, ?_⟩
    · rw [List.getElem?_append_right (by simp; omega)]
      simpa [show (i + 1) * 4 - 4 = i * 4 by omega] using this.1
    · rw [List.getElem?_append_right (by simp; omega)]
      simpa [show (i + 1) * 4 + 1 - 4 = i * 4 + 1 by omega] using this.2.1
    · rw [List.getElem?_append_right (by simp; omega)]
      simpa [show (i + 1) * 4 + 2 - 4 = i * 4 + 2 by omega] using this.2.2.1
    · rw [List.getElem?_append_right (by simp; omega)]
      simpa [show (i + 1) * 4 + 3 - 4 = i * 4 + 3 by omega] using this.2.2.2
/-- The four cells of a switch. -/
def SwC (w : World) (g k : Nat) (s : Sw) : Prop := w.cell? ⟨g, k, none⟩ = some (.int .i64 s.y1) ∧ w.cell? ⟨g, k + 1, none⟩ = some (.int .i64 s.y2) ∧ w.cell? ⟨g, k + 2, none⟩ = some (.int .i64 s.x1) ∧ w.cell? ⟨g, k + 3, none⟩ = some (.int .i64 s.x2)
theorem swC_below {w w' : World} {g k : Nat} {s : Sw} (h : SwC w g k s) (hb : Below w.heap.size w w') (hg : g < w.heap.size) : SwC w' g k s :=
  ⟨below_cell hb hg h.1, below_cell hb hg h.2.1, below_cell hb hg h.2.2.1, below_cell hb hg h.2.2.2⟩
theorem swC_at {w : World} {g : Nat} {s : Sw} (h : SwAt w g s) : SwC w g 0 s := swAt_cells h
theorem wpList_loadSwC {ops : Array Oper} {rest : List Oper} {o : Oper} {a : Act} {Q : Exit → Act → World → Prop} {W : World} {g k : Nat} {s : Sw} (hb : SwC W g k s)
    (d : Tmp) (_hd : o.dst = some d) (hgd : o.guard = none) (x : Operand) (ho : o.op = .load 45 x) (hx : a.eval x = .pointer (some ⟨g, k, none⟩))
    (h : wpList Try.prog ops Q rest (a.put o.dst (swV s)) W) : wpList Try.prog ops Q (o :: rest) a W := by
  obtain ⟨h0, h1, h2, h3⟩ := hb
  refine wpList_plain hgd fun K hK => ?_
  have : (execOp a.eval o).run Try.prog W = .ok (.value (swV s)) W := by
    unfold execOp
    simp only [ho, hx]
    go_simp
    rfl
  unfold Oper.wp
  rw [this]
  exact hK _ _ h
theorem Try.zeroSwV (w : World) : (zeroValue 45).run Try.prog w = .ok (swV zeroSw) w := Try.zeroValue45 w
theorem wpList_allocSw {ops : Array Oper} {rest : List Oper} {o : Oper} {a : Act} {Q : Exit → Act → World → Prop} {W : World}
    (d : Tmp) (_hd : o.dst = some d) (hgd : o.guard = none) (ho : o.op = .alloc 45)
    (h : ∀ w', SwAt w' W.heap.size zeroSw → Below W.heap.size W w' → w'.heap.size = W.heap.size + 1 → wpList Try.prog ops Q rest (a.put o.dst (.pointer (some ⟨W.heap.size, 0, none⟩))) w') : wpList Try.prog ops Q (o :: rest) a W := by
  refine wpList_plain hgd fun K hK => ?_
  unfold Oper.wp execOp
  simp only [ho, Instr.alloc, Sem.run_bind, Try.zeroSwV, Result.andThen_ok]
  simp [newVar, newRow, Value.cells, swV]
  exact hK _ _ (h _ (swAt_new W zeroSw) ((Below.refl _ _).alloc (Nat.le_refl _) _) (by simp))
theorem wpList_storeSw {ops : Array Oper} {rest : List Oper} {o : Oper} {a : Act} {Q : Exit → Act → World → Prop} {W : World} {g : Nat} {s0 : Sw} (hb : SwAt W g s0) (s : Sw)
    (hgd : o.guard = none) (x y : Operand) (ho : o.op = .store 45 x y) (hx : a.eval x = .pointer (some ⟨g, 0, none⟩)) (hy : a.eval y = swV s)
    (h : ∀ w', SwAt w' g s → W.grownBy w' (some g) → w'.heap.size = W.heap.size → wpList Try.prog ops Q rest (a.put o.dst undef) w') : wpList Try.prog ops Q (o :: rest) a W := by
  refine wpList_plain hgd fun K hK => ?_
  unfold Oper.wp execOp
  simp only [ho, hx, hy, swV, Instr.storeAt, Instr.sureAddr, Sem.run_bind, Sem.run_pure, Result.andThen_ok, run_storeVar_row W g 45 45 (swA s0) (swA s) hb (by rw [Try.sizeSw]; rfl) rfl (swA_one s)]
  exact hK _ _ (h _ (setRow_heap W g _ _ _ (0, 0) hb) ⟨rfl, rfl, rfl, by simp, fun k hk hr => setRow_other W g k _ (fun e => hr (by rw [e]))⟩ (by simp))
/-- The slice v reads as the switches l. -/
def InSws (w : World) (v : Value) (l : List Sw) : Prop :=
  ∃ a c, v = .slice a l.length c ∧ l.length ≤ maxLen ∧ (l.length = 0 ∨ ∃ g o, a = some ⟨g, o, none⟩ ∧ g < w.heap.size ∧ ∀ i, (h : i < l.length) → SwC w g (o + i * 4) l[i])
theorem inSws_below {w w' : World} {v : Value} {l : List Sw} (h : InSws w v l) (hb : Below w.heap.size w w') : InSws w' v l := by
  obtain ⟨a, c, hv, hm, hp⟩ := h
  refine ⟨a, c, hv, hm, ?_⟩
  rcases hp with h0 | ⟨g, o, ha, hg, hc⟩
  · exact .inl h0
  · exact .inr ⟨g, o, ha, Nat.lt_of_lt_of_le hg hb.size, fun i hi => swC_below (hc i hi) hb hg⟩
theorem inSws_nil (w : World) : InSws w (.slice none 0 0) [] := ⟨none, 0, rfl, Nat.zero_le _, .inl rfl⟩
/-- The call owns the switches. -/
def OwnSws (w : World) (lo : Nat) (v : Value) (l : List Sw) : Prop := w.ownsRow lo 45 4 v l.length (cellsS l)
theorem ownSws_below {w w' : World} {lo : Nat} {v : Value} {l : List Sw} (h : OwnSws w lo v l) (hb : Below w.heap.size w w') : OwnSws w' lo v l := ownA_below h hb
theorem ownSws_base {w : World} {lo lo' : Nat} {v : Value} {l : List Sw} (h : OwnSws w lo v l) (hb : lo' ≤ lo) : OwnSws w lo' v l := ownA_base h hb
theorem ownSws_nil (w : World) (lo : Nat) : OwnSws w lo (.slice none 0 0) [] := World.ownsRow_nil _ _ _ _
theorem ownSws_cells {w : World} {lo g n c : Nat} {l : List Sw} (h : OwnSws w lo (.slice (some ⟨g, 0, none⟩) n c) l) (i : Nat) (hi : i < l.length) : SwC w g (i * 4) l[i] := by
  have hn : n = l.length := by
    rcases h.2 with ⟨e, _⟩ | ⟨g', cap, cur, e, _⟩
    · cases e
    · cases e; rfl
  subst hn
  obtain ⟨h0, h1, h2, h3⟩ := cellsS_at l i hi
  exact ⟨by rw [World.ownsRow.cellAt h _ (by omega)]; exact h0, by rw [World.ownsRow.cellAt h _ (by omega)]; exact h1, by rw [World.ownsRow.cellAt h _ (by omega)]; exact h2, by rw [World.ownsRow.cellAt h _ (by omega)]; exact h3⟩
theorem inSws_own {w : World} {lo : Nat} {v : Value} {l : List Sw} (h : OwnSws w lo v l) : InSws w v l := by
  have h' := h
  rcases h.2 with ⟨rfl, h0⟩ | ⟨g, cap, cur, rfl, hbg, hg, hc, hm, _⟩
  · exact ⟨none, 0, by rw [h0], by omega, .inl h0⟩
  · exact ⟨_, _, rfl, by omega, .inr ⟨g, 0, rfl, (Array.getElem?_eq_some_iff.1 hg).1, fun i hi => by rw [Nat.zero_add]; exact ownSws_cells h' i hi⟩⟩
theorem Try.infoSw : (Try.prog.info? 45).map (fun i => (i.zero, i.size, i.bytes)) = some (some (.agg #[.int .i64 0, .int .i64 0, .int .i64 0, .int .i64 0]), 4, 32) := by kernel_rfl
/-- The call answers switches of its own. -/
def SwsRes (l : List Sw) (w : World) (e : Ending) (w' : World) : Prop := ∃ v, e = .returned v ∧ OwnSws w' w.heap.size v l ∧ Below w.heap.size w w'
end Go.Proofs.Ytcliiefedmiokaa
/-
  hasSwitch of the program.
-/
namespace Go.Proofs.Ytcliiefedmiokaa
open Go.RowKit

theorem exec_loadVec {P : Program} {ρ : Operand → Value} {o : Oper} {w : World} {x : Operand} {g n m : Nat} {T T' e : TypeId} {F : Nat → Int} (ho : o.op = .load T' x) (hx : ρ x = .pointer (some ⟨g, 0, none⟩)) (hb : Blk w g T n F) (hu : P.underlying T' = some (.array m e)) (hi : (P.info? T').map (·.size) = some n) :
    (execOp ρ o).run P w = .ok (.value (.agg (vec n F))) w := by
  unfold execOp
  simp only [ho, hx, Instr.loadAt, Instr.sureAddr, Sem.run_bind, Sem.run_pure, Result.andThen_ok, run_loadVar_row w g T T' (vec n F) (0, 0) _ hb hu rfl (by rw [hi, vec_size])]
/-- The whole variable is read, where a guard asks for it. -/
theorem wpList_loadVecW {P : Program} {ops : Array Oper} {rest : List Oper} {o : Oper} {a : Act} {Q : Exit → Act → World → Prop} {W : World} {g n m : Nat} {T T' e : TypeId} {F : Nat → Int} (hb : Blk W g T n F)
    (d : Tmp) (_hd : o.dst = some d) (j : Nat) (want : Bool) (hg : o.guard = some (j, want)) (b : Bool) (hy : yielded ops a.tmps j = some b) (hw : b = want) (x : Operand) (ho : o.op = .load T' x) (hx : a.eval x = .pointer (some ⟨g, 0, none⟩)) (hu : P.underlying T' = some (.array m e)) (hi : (P.info? T').map (·.size) = some n)
    (h : wpList P ops Q rest (a.put o.dst (.agg (vec n F))) W) : wpList P ops Q (o :: rest) a W :=
  wpList_step fun K hK => by rw [if_pos (show Region.wanted o (yielded ops a.tmps) = true by unfold Region.wanted; rw [hg]; simp only [hy, hw, beq_self_eq_true])]; exact wp_load_row T' x ho g hx T (vec n F) (0, 0) _ hb hu rfl (by rw [hi, vec_size]) (hK _ _ h)
theorem exec_fieldSw {ρ : Operand → Value} {o : Oper} {w : World} {x : Operand} {g k : Nat} (ho : o.op = .fieldAddr 45 x k) (hx : ρ x = .pointer (some ⟨g, 0, none⟩)) (hk : k < 4) : (execOp ρ o).run Try.prog w = .ok (.value (.pointer (some ⟨g, k, none⟩))) w := by
  unfold execOp
  simp only [ho, hx]
  have : k = 0 ∨ k = 1 ∨ k = 2 ∨ k = 3 := by omega
  rcases this with rfl | rfl | rfl | rfl <;> go_simp
theorem exec_loadInt {ρ : Operand → Value} {o : Oper} {w : World} {x : Operand} {g k : Nat} {z : Int} (ho : o.op = .load 3 x) (hx : ρ x = .pointer (some ⟨g, k, none⟩)) (hc : w.cell? ⟨g, k, none⟩ = some (.int .i64 z)) : (execOp ρ o).run Try.prog w = .ok (.value (.int .i64 z)) w := by
  unfold execOp
  simp only [ho, hx]
  go_simp
set_option maxHeartbeats 1000000 in
theorem hasSwitch_no (F : Nat → Int) (s : Sw) (w : World) (h : ¬ (s.y1 < s.y2 ∧ s.x1 < s.x2)) :
    Calls Try.prog 78 #[.agg (vec 25 F), swV s] w fun e w' => e = .returned (.bool (hasF F s)) ∧ Below w.heap.size w w' := by
  have HN : Hid (hasF F s = false) := hide (by
    unfold hasF
    by_cases e : s.y1 < s.y2
    · rw [decide_eq_false (show ¬ s.x1 < s.x2 from fun e2 => h ⟨e, e2⟩)]; simp
    · rw [decide_eq_false e]; simp)
  rw [HN.out]
  go_enter Try.func78, Try.ntmps78
  go_wp2_with (first | (with_reducible refine wpList_boxVec 25 F 2 rfl rfl (.tmp 0) rfl rfl ?_; intro w1 h1 b1 s1) | (with_reducible refine wpList_boxSw s 3 rfl rfl (.tmp 1) rfl rfl ?_; intro w2 h2 b2 s2; have hb1 := blk_below h1 b2; have hbw := b1.trans (b2.mono b1.size); rw [s1] at h2 s2 ⊢; clear h1 b1 s1 b2; obtain ⟨c0, c1, c2, c3⟩ := swAt_cells h2))
  all_goals first
    | (exfalso; omega)
    | (go_ret; exact ⟨rfl, hbw⟩)
set_option maxRecDepth 100000 in
set_option maxHeartbeats 2000000 in
theorem hasSwitch_yes (F : Nat → Int) (s : Sw) (w : World) (h1' : s.y1 < s.y2) (h2' : s.x1 < s.x2) :
    Calls Try.prog 78 #[.agg (vec 25 F), swV s] w fun e w' => e = .returned (.bool (hasF F s)) ∧ Below w.heap.size w w' := by
  have HH : Hid (hasF F s = (decide (cellF F s.y1 s.x1 ≠ cellF F s.y1 s.x2) && decide (cellF F s.y2 s.x1 = cellF F s.y1 s.x2) && decide (cellF F s.y2 s.x2 = cellF F s.y1 s.x1))) := hide (by
    unfold hasF; rw [decide_eq_true h1', decide_eq_true h2']; simp)
  rw [HH.out]
  obtain ⟨A, hA⟩ : ∃ A, A = cellF F s.y1 s.x1 := ⟨_, rfl⟩
  obtain ⟨B, hB⟩ : ∃ B, B = cellF F s.y1 s.x2 := ⟨_, rfl⟩
  obtain ⟨C, hC⟩ : ∃ C, C = cellF F s.y2 s.x1 := ⟨_, rfl⟩
  obtain ⟨D, hD⟩ : ∃ D, D = cellF F s.y2 s.x2 := ⟨_, rfl⟩
  have HA := hide hA; have HB := hide hB; have HC := hide hC; have HD := hide hD
  rw [← hA, ← hB, ← hC, ← hD]
  clear hA hB hC hD HH
  go_enter Try.func78, Try.ntmps78
  go_wp2_with (first | (with_reducible refine wpList_boxVec 25 F 2 rfl rfl (.tmp 0) rfl rfl ?_; intro w1 h1 b1 s1) | (with_reducible refine wpList_boxSw s 3 rfl rfl (.tmp 1) rfl rfl ?_; intro w2 h2 b2 s2; have hb1 := blk_below h1 b2; have hbw := b1.trans (b2.mono b1.size); rw [s1] at h2 s2 ⊢; clear h1 b1 s1 b2; obtain ⟨c0, c1, c2, c3⟩ := swAt_cells h2))
  obtain ⟨fs, hfs⟩ : ∃ fs : List FactP, fs = [isV (.agg (vec 25 F)), isV (.pointer (some ⟨w.heap.size + 1, 0, none⟩)), isV (.int .i64 s.y1), isV (.pointer (some ⟨w.heap.size + 1, 2, none⟩)), isV (.int .i64 s.x1), isV (.int .i64 A), isV (.agg (vec 25 F)), isV (.pointer (some ⟨w.heap.size + 1, 0, none⟩)), isV (.int .i64 s.y1), isV (.pointer (some ⟨w.heap.size + 1, 3, none⟩)), isV (.int .i64 s.x2), isV (.int .i64 B), isV (.int .i64 A)] := ⟨_, rfl⟩
  have hst : ∀ f ∈ fs, StableP f := by
    rw [hfs]; intro f hf
    simp only [List.mem_cons, List.not_mem_nil, or_false] at hf
    rcases hf with rfl | rfl | rfl | rfl | rfl | rfl | rfl | rfl | rfl | rfl | rfl | rfl | rfl <;> exact stable_v _
  subst hfs
  refine wp_region_tail (S := fun w2 => Blk w2 w.heap.size 78 25 F ∧ SwAt w2 (w.heap.size + 1) s ∧ Below w.heap.size w w2) [isV (.agg (vec 25 F)), isV (.pointer (some ⟨w.heap.size + 1, 0, none⟩)), isV (.int .i64 s.y1), isV (.pointer (some ⟨w.heap.size + 1, 2, none⟩)), isV (.int .i64 s.x1), isV (.int .i64 A), isV (.agg (vec 25 F)), isV (.pointer (some ⟨w.heap.size + 1, 0, none⟩)), isV (.int .i64 s.y1), isV (.pointer (some ⟨w.heap.size + 1, 3, none⟩)), isV (.int .i64 s.x2), isV (.int .i64 B), isV (.int .i64 A)] [(2, .pointer (some ⟨w.heap.size, 0, none⟩)), (3, .pointer (some ⟨w.heap.size + 1, 0, none⟩))] _ _ 13 (by kernel_rfl) rfl rfl (by kernel_rfl) (by kernel_rfl) rfl (by kernel_rfl) ?base ⟨hb1, h2, below_drew hbw⟩ ?ob rfl ?fin
  case base =>
    intro t v ht
    simp only [List.lookup_cons, List.lookup_nil] at ht
    repeat' split at ht
    all_goals first | (cases ht; done) | (obtain rfl := Option.some.inj ht; rename_i hh; obtain rfl := eq_of_beq hh; rfl)
  case ob =>
    exact ⟨obt_one (.agg (vec 25 F)) rfl rfl (srt_b 2 rfl) (fun ρ w2 hS hx => exec_loadVec rfl hx hS.1 Try.underlying78 Try.sizeImg),
      obt_one (.pointer (some ⟨w.heap.size + 1, 0, none⟩)) rfl rfl (srt_b 3 rfl) (fun ρ w2 hS hx => exec_fieldSw rfl hx (by decide)),
      obt_one (.int .i64 s.y1) rfl rfl (srt_j 1 rfl (by kernel_rfl) rfl) (fun ρ w2 hS hx => exec_loadInt rfl hx (swAt_cells hS.2.1).1),
      obt_one (.pointer (some ⟨w.heap.size + 1, 2, none⟩)) rfl rfl (srt_b 3 rfl) (fun ρ w2 hS hx => exec_fieldSw rfl hx (by decide)),
      obt_one (.int .i64 s.x1) rfl rfl (srt_j 3 rfl (by kernel_rfl) rfl) (fun ρ w2 hS hx => exec_loadInt rfl hx (swAt_cells hS.2.1).2.2.1),
      obt_call hst [.agg (vec 25 F), .int .i64 s.y1, .int .i64 s.x1] rfl Try.func118 (by kernel_rfl) (by kernel_rfl) rfl ⟨(srt_j 0 rfl (by kernel_rfl) rfl), (srt_j 2 rfl (by kernel_rfl) rfl), (srt_j 4 rfl (by kernel_rfl) rfl), trivial⟩ (fun w2 hS => (by have := cell_any F s.y1 s.x1 w2; rw [← HA.out] at this; exact this.mono fun e w3 hh => ⟨_, hh.1, ⟨blk_below hS.1 hh.2, swAt_below hS.2.1 hh.2, hS.2.2.trans (hh.2.mono hS.2.2.size)⟩, hh.2, rfl⟩)),
      obt_one (.agg (vec 25 F)) rfl rfl (srt_b 2 rfl) (fun ρ w2 hS hx => exec_loadVec rfl hx hS.1 Try.underlying78 Try.sizeImg),
      obt_one (.pointer (some ⟨w.heap.size + 1, 0, none⟩)) rfl rfl (srt_b 3 rfl) (fun ρ w2 hS hx => exec_fieldSw rfl hx (by decide)),
      obt_one (.int .i64 s.y1) rfl rfl (srt_j 7 rfl (by kernel_rfl) rfl) (fun ρ w2 hS hx => exec_loadInt rfl hx (swAt_cells hS.2.1).1),
      obt_one (.pointer (some ⟨w.heap.size + 1, 3, none⟩)) rfl rfl (srt_b 3 rfl) (fun ρ w2 hS hx => exec_fieldSw rfl hx (by decide)),
      obt_one (.int .i64 s.x2) rfl rfl (srt_j 9 rfl (by kernel_rfl) rfl) (fun ρ w2 hS hx => exec_loadInt rfl hx (swAt_cells hS.2.1).2.2.2),
      obt_call hst [.agg (vec 25 F), .int .i64 s.y1, .int .i64 s.x2] rfl Try.func118 (by kernel_rfl) (by kernel_rfl) rfl ⟨(srt_j 6 rfl (by kernel_rfl) rfl), (srt_j 8 rfl (by kernel_rfl) rfl), (srt_j 10 rfl (by kernel_rfl) rfl), trivial⟩ (fun w2 hS => (by have := cell_any F s.y1 s.x2 w2; rw [← HB.out] at this; exact this.mono fun e w3 hh => ⟨_, hh.1, ⟨blk_below hS.1 hh.2, swAt_below hS.2.1 hh.2, hS.2.2.trans (hh.2.mono hS.2.2.size)⟩, hh.2, rfl⟩)),
      obt_assign (.int .i64 A) rfl rfl rfl (srt_j 5 rfl (by kernel_rfl) rfl),
      trivial⟩
  case fin =>
    intro a' w' h1 h2 h3 hS h4 K hK
    have hv : a'.eval (.tmp 30) = .int .i64 B := h4 11 30 rfl (by decide)
    refine tail_assign rfl hv ?_ K hK
    have ha := frame_ov rfl h1 h2 h3 [(19, .agg (vec 25 F)), (20, .pointer (some ⟨w.heap.size + 1, 0, none⟩)), (21, .int .i64 s.y1), (22, .pointer (some ⟨w.heap.size + 1, 2, none⟩)), (23, .int .i64 s.x1), (24, .int .i64 A), (25, .agg (vec 25 F)), (26, .pointer (some ⟨w.heap.size + 1, 0, none⟩)), (27, .int .i64 s.y1), (28, .pointer (some ⟨w.heap.size + 1, 3, none⟩)), (29, .int .i64 s.x2), (30, .int .i64 B), (5, .int .i64 A), (6, a'.tmps.getD 6 undef)] (by kernel_rfl) ⟨h4 0 19 rfl (by decide), h4 1 20 rfl (by decide), h4 2 21 rfl (by decide), h4 3 22 rfl (by decide), h4 4 23 rfl (by decide), h4 5 24 rfl (by decide), h4 6 25 rfl (by decide), h4 7 26 rfl (by decide), h4 8 27 rfl (by decide), h4 9 28 rfl (by decide), h4 10 29 rfl (by decide), h4 11 30 rfl (by decide), h4 12 5 rfl (by decide), rfl, trivial⟩
    dsimp only [ov, List.lookup, Nat.reduceBEq, Nat.reduceAdd] at ha
    show Exit.then _ _ Exit.normal (Act.put a' (some 6) (.int .i64 B)) _
    rw [ha]
    generalize a'.tmps.getD 6 undef = u6
    clear ha h1 h2 h3 h4 hst hK hv
    obtain ⟨hb3, hs3, hw3⟩ := hS
    obtain ⟨d0, d1, d2, d3⟩ := swAt_cells hs3
    by_cases e1 : A = B
    · subst e1
      go_wp2
      go_ret
      exact ⟨ret_bool (by simp), hw3⟩
    · have hne : (A != B) = true := bne_iff_ne.2 e1
      by_cases e2 : C = B
      · have hne2 : (C == B) = true := beq_iff_eq.2 e2
        have E2 := hide e2; have E1 := hide e1
        clear e2 e1
        go_wp2_with (first | (with_reducible refine wpList_loadVecW hb3 35 rfl 3 true rfl true rfl rfl _ rfl rfl Try.underlying78 Try.sizeImg ?_) | ((with_reducible refine (cell_any F s.y2 s.x1 _).mono ?_); rw [← HC.out]; rintro e w4 ⟨rfl, hb4⟩; have hb5 := blk_below hb3 hb4; obtain ⟨f0, f1, f2, f3⟩ := swAt_cells (swAt_below hs3 hb4); have hw4 := hw3.trans (hb4.mono hw3.size)) | (with_reducible refine wpList_loadVecW hb5 45 rfl 13 true rfl true rfl rfl _ rfl rfl Try.underlying78 Try.sizeImg ?_) | ((with_reducible refine (cell_any F s.y2 s.x2 _).mono ?_); rw [← HD.out]; rintro e w5 ⟨rfl, hb6⟩; have hw5 := hw4.trans (hb6.mono hw4.size)))
        go_ret
        exact ⟨ret_bool (by rw [Bool.eq_iff_iff]; simp [E1.out, E2.out]), hw5⟩
      · have hne2 : (C == B) = false := beq_eq_false_iff_ne.2 e2
        go_wp2_with (first | (with_reducible refine wpList_loadVecW hb3 35 rfl 3 true rfl true rfl rfl _ rfl rfl Try.underlying78 Try.sizeImg ?_) | ((with_reducible refine (cell_any F s.y2 s.x1 _).mono ?_); rw [← HC.out]; rintro e w4 ⟨rfl, hb4⟩; have hw4 := hw3.trans (hb4.mono hw3.size)))
        go_ret
        exact ⟨ret_bool (by simp [e1, e2]), hw4⟩
theorem hasSwitch_any (F : Nat → Int) (s : Sw) (w : World) :
    Calls Try.prog 78 #[.agg (vec 25 F), swV s] w fun e w' => e = .returned (.bool (hasF F s)) ∧ Below w.heap.size w w' := by
  by_cases h : s.y1 < s.y2 ∧ s.x1 < s.x2
  · exact hasSwitch_yes F s w h.1 h.2
  · exact hasSwitch_no F s w h
end Go.Proofs.Ytcliiefedmiokaa
/-
  switched of the program: an image after one of its switches.
-/
namespace Go.Proofs.Ytcliiefedmiokaa
open Go.RowKit

def pickN (a b i : Nat) : Nat := if i = 0 then a else b
def flipAt (F : Nat → Int) (p : Nat) : Nat → Int := fun j => if j = p then 1 - F p else F j
/-- The cells after the first n of the four. -/
def stepF (F : Nat → Int) (a b c d : Nat) : Nat → Nat → Int
  | 0 => F
  | n + 1 => flipAt (stepF F a b c d n) (5 * pickN a b (n / 2) + pickN c d (n % 2))
theorem stepF_small {F : Nat → Int} (h : ∀ i, F i = -1 ∨ F i = 0 ∨ F i = 1) (a b c d : Nat) : ∀ n i : Nat, -((n : Int) + 1) ≤ stepF F a b c d n i ∧ stepF F a b c d n i ≤ (n : Int) + 2
  | 0, i => by have := h i; unfold stepF; omega
  | n + 1, i => by
    have h1 := stepF_small h a b c d n i
    have h2 := stepF_small h a b c d n (5 * pickN a b (n / 2) + pickN c d (n % 2))
    unfold stepF flipAt
    split <;> omega
theorem stepF_all {F : Nat → Int} {a b c d : Nat} (hab : a ≠ b) (hcd : c ≠ d) (hc : c < 5) (hd : d < 5) : ∀ i, i < 25 → stepF F a b c d 4 i = if (i / 5 = a ∨ i / 5 = b) ∧ (i % 5 = c ∨ i % 5 = d) then 1 - F i else F i := by
  intro i hi
  have e : stepF F a b c d 4 = flipAt (flipAt (flipAt (flipAt F (5 * a + c)) (5 * a + d)) (5 * b + c)) (5 * b + d) := rfl
  rw [e]
  unfold flipAt
  by_cases h1 : i = 5 * a + c
  · subst h1
    rw [if_neg (by omega), if_neg (by omega), if_neg (by omega), if_pos rfl, if_pos (by omega)]
  · by_cases h2 : i = 5 * a + d
    · subst h2
      rw [if_neg (by omega), if_neg (by omega), if_pos rfl, if_neg (by omega), if_pos (by omega)]
    · by_cases h3 : i = 5 * b + c
      · subst h3
        rw [if_neg (by omega), if_pos rfl, if_neg (by omega), if_neg (by omega), if_pos (by omega)]
      · by_cases h4 : i = 5 * b + d
        · subst h4
          rw [if_pos rfl, if_neg (by omega), if_neg (by omega), if_neg (by omega), if_pos (by omega)]
        · rw [if_neg h4, if_neg h3, if_neg h2, if_neg h1, if_neg (by omega)]
theorem stepF_img {R C : Nat} {f : Nat → Nat → Int} {a b c d : Nat} (h : four R C f a b c d = true) (hC : C ≤ 5) : ∀ i, i < 25 → stepF (imgF R C f) a b c d 4 i = imgF R C (flipN f a b c d) i := by
  obtain ⟨h1, h2, h3, h4, -⟩ := four_iff.1 h
  intro i hi
  rw [stepF_all (by omega) (by omega) (by omega) (by omega) i hi]
  unfold imgF flipN
  by_cases hh : i / 5 < R ∧ i % 5 < C
  · rw [if_pos hh, if_pos hh]
  · rw [if_neg hh, if_neg hh, if_neg]
    omega
theorem vec_two (a b : Nat) : #[Value.int .i64 (a : Int), Value.int .i64 (b : Int)] = vec 2 fun i => ((pickN a b i : Nat) : Int) := rfl
theorem swAt_set {w : World} {g : Nat} {s : Sw} (h : SwAt w g s) (a : Addr) (v : Value) (hne : g ≠ a.block) : SwAt (w.setCell a v) g s := by
  unfold SwAt; rw [heap_setCell_other w a g v hne]; exact h
theorem exec_indexAt {P : Program} {ρ : Operand → Value} {o : Oper} {w : World} {x i : Operand} {T E : TypeId} {g b m s : Nat} (k q : Nat) (ho : o.op = .indexAddr T x i) (hx : ρ x = .pointer (some ⟨g, b, none⟩)) (hi : ρ i = .int .i64 k) (hu : P.underlying T = some (.array m E)) (hs : ∀ w, (sizeOf E).run P w = .ok s w) (hk : k < m) (hq : b + k * s = q) :
    (execOp ρ o).run P w = .ok (.value (.pointer (some ⟨g, q, none⟩))) w := by
  subst hq
  unfold execOp
  simp only [ho, hx, hi, Instr.indexAt, Instr.sureAddr, Sem.run_bind, asIntOf, Sem.run_pure, Result.andThen_ok, run_underlying hu]
  rw [if_pos ⟨by omega, by omega⟩]
  simp only [Sem.run_bind, hs, Result.andThen_ok, Int.toNat_natCast, addr_add]
  simp
theorem exec_storeInt {ρ : Operand → Value} {o : Oper} {w : World} {x y : Operand} {g k : Nat} {u v : Int} (ho : o.op = .store 3 x y) (hx : ρ x = .pointer (some ⟨g, k, none⟩)) (hy : ρ y = .int .i64 v) (h1 : w.cell? ⟨g, k, none⟩ = some (.int .i64 u)) (f1 : w.frozen? ⟨g, k, none⟩ = false) :
    (execOp ρ o).run Try.prog w = .ok .skip (w.setCell ⟨g, k, none⟩ (.int .i64 v)) := by
  unfold execOp
  simp only [ho, hx, hy]
  go_simp

set_option maxRecDepth 100000 in
set_option maxHeartbeats 4000000 in
theorem switched_any (F : Nat → Int) (a b c d : Nat) (w : World) (hF : ∀ i, F i = -1 ∨ F i = 0 ∨ F i = 1) (ha : a < 5) (hb : b < 5) (hc : c < 5) (hd : d < 5) :
    Calls Try.prog 79 #[.agg (vec 25 F), swV ⟨a, b, c, d⟩] w fun e w' => e = .returned (.agg (vec 25 (stepF F a b c d 4))) ∧ Below w.heap.size w w' := by
  have HSM := hide (stepF_small hF a b c d)
  have HSTEP : Hid (∀ n, stepF F a b c d (n + 1) = flipAt (stepF F a b c d n) (5 * pickN a b (n / 2) + pickN c d (n % 2))) := hide fun _ => rfl
  have HZERO : Hid (stepF F a b c d 0 = F) := hide rfl
  have HPA : Hid (∀ i, pickN a b i < 5) := hide fun i => by unfold pickN; split <;> omega
  have HPC : Hid (∀ i, pickN c d i < 5) := hide fun i => by unfold pickN; split <;> omega
  obtain ⟨G, hG⟩ : ∃ G, G = stepF F a b c d := ⟨_, rfl⟩
  rw [← hG] at HSM HSTEP HZERO ⊢
  clear hG hF
  obtain ⟨s, hs⟩ : ∃ s : Sw, s = ⟨a, b, c, d⟩ := ⟨_, rfl⟩
  have HSW := hide hs
  rw [← hs]
  clear hs
  go_enter Try.func79, Try.ntmps79
  go_wp2_with (first | (with_reducible refine wpList_boxVec 25 F 2 rfl rfl (.tmp 0) rfl rfl ?_; intro w1 h1 b1 s1) | (with_reducible refine wpList_boxSw s 3 rfl rfl (.tmp 1) rfl rfl ?_; intro w2 h2 b2 s2; have hb1 := blk_below h1 b2; have hbw := b1.trans (b2.mono b1.size); rw [s1] at h2 s2 ⊢; clear h1 b1 s1 b2) | (with_reducible refine wpList_allocVec 25 4 rfl rfl rfl Try.zeroImg ?_; intro w3 h3 b3 s3; have hb2 := blk_below hb1 b3; have hbw2 := hbw.trans (b3.mono hbw.size); have hs3 := swAt_below h2 b3; rw [s2] at h3 s3 ⊢; clear hb1 hbw h2 s2 b3; obtain ⟨c0, c1, c2, c3⟩ := swAt_cells hs3; rw [HSW.out] at c0 c1 c2 c3))
  rw [vec_two a b]
  have HP := hide hb2; have HR := hide h3; have HS := hide hs3; have HB := hide hbw2
  rw [← HZERO.out] at HP
  clear hb2 h3 hs3 hbw2 c0 c1 c2 c3 s3
  go_loopw [14] (fun u w' => ∃ i : Nat, i ≤ 2 ∧ u = .int .i64 i ∧ Blk w' w.heap.size 78 25 (G (2 * i)) ∧ Blk w' (w.heap.size + 1 + 1) 78 25 (fun _ => 0) ∧ SwAt w' (w.heap.size + 1) s ∧ Below w.heap.size w w') (fun u _ => 2 - (intOf u).toNat)
  case atStart => exact ⟨0, by omega, rfl, HP.out, HR.out, HS.out, HB.out⟩
  case round =>
    clear HP HR HS HB
    obtain ⟨i, hi, rfl, hp, hr, hsw, hbw⟩ := hrel
    have HP := hide hp; have HR := hide hr; have HS := hide hsw; have HB := hide hbw
    clear hp hr hsw hbw
    by_cases hlt : i < 2
    · have hiI : (i : Int) < 2 := by omega
      obtain ⟨c0, c1, c2, c3⟩ := swAt_cells HS.out
      rw [HSW.out] at c0 c1 c2 c3
      go_wp2_with (with_reducible refine wpList_indexVec i 16 rfl rfl _ _ rfl rfl rfl Try.underlying130 Try.isAgg3 Try.sizeOf3 hlt ?_)
      rw [vec_two c d]
      have hy5 := HPA.out i
      clear c0 c1 c2 c3
      go_loopw [22] (fun u w' => ∃ j : Nat, j ≤ 2 ∧ u = .int .i64 j ∧ Blk w' w.heap.size 78 25 (G (2 * i + j)) ∧ Blk w' (w.heap.size + 1 + 1) 78 25 (fun _ => 0) ∧ SwAt w' (w.heap.size + 1) s ∧ Below w.heap.size w w') (fun u _ => 2 - (intOf u).toNat)
      case atStart => exact ⟨0, by omega, rfl, HP.out, HR.out, HS.out, HB.out⟩
      case round =>
        clear HP HR HS HB
        obtain ⟨j, hj, rfl, hp, hr, hsw, hbw⟩ := hrel
        have HP := hide hp; have HR := hide hr; have HS := hide hsw; have HB := hide hbw
        clear hp hr hsw hbw
        by_cases hlj : j < 2
        · have hjI : (j : Int) < 2 := by omega
          have hx5 := HPC.out j
          obtain ⟨q, hq⟩ : ∃ q, q = 5 * pickN a b i + pickN c d j := ⟨_, rfl⟩
          obtain ⟨z, hz⟩ : ∃ z, z = G (2 * i + j) q := ⟨_, rfl⟩
          have hz4 : -5 ≤ z ∧ z ≤ 6 := by have := HSM.out (2 * i + j) q; omega
          obtain ⟨z1, hz1⟩ : ∃ z1, z1 = 1 - z := ⟨_, rfl⟩
          have HZ1 := hide hz1
          have hwr : IntKind.i64.wrap (1 - z) = 1 - z := IntWalk.i64_in _ (by omega)
          have HST : Hid ((fun t => if t = q then z1 else G (2 * i + j) t) = G (2 * i + (j + 1))) := hide (by
            have := HSTEP.out (2 * i + j)
            rw [show (2 * i + j) / 2 = i by omega, show (2 * i + j) % 2 = j by omega, ← hq] at this
            rw [← Nat.add_assoc, this, hz1, hz]; rfl)
          have hcl : wr.drew.cell? ⟨w.heap.size, q, none⟩ = some (.int .i64 z) := by rw [hz]; exact blk_cell (blk_draws HP.out 1) q (by omega)
          have hfr : wr.drew.frozen? ⟨w.heap.size, q, none⟩ = false := blk_frozen (blk_draws HP.out 1) q
          have HQ := hide hq
          clear hz hz1 hq
          go_wp2_with (with_reducible refine wpList_indexVec j 24 rfl rfl _ _ rfl rfl rfl Try.underlying130 Try.isAgg3 Try.sizeOf3 hlj ?_)
          obtain ⟨fs, hfs⟩ : ∃ fs : List FactP, fs = [isV (.int .i64 ((pickN a b i : Nat) : Int)), isV (.int .i64 ((pickN c d j : Nat) : Int)), isV (.int .i64 ((pickN a b i : Nat) : Int)), isV (.int .i64 ((pickN c d j : Nat) : Int)), isV (.pointer (some ⟨w.heap.size, pickN a b i * 5, none⟩)), isV (.pointer (some ⟨w.heap.size, q, none⟩)), isV (.int .i64 z), isV (.int .i64 z1), isV (.pointer (some ⟨w.heap.size, pickN a b i * 5, none⟩)), isV (.pointer (some ⟨w.heap.size, q, none⟩))] := ⟨_, rfl⟩
          have hst : ∀ f ∈ fs, StableP f := by
            rw [hfs]; intro f hf
            simp only [List.mem_cons, List.not_mem_nil, or_false] at hf
            rcases hf with rfl | rfl | rfl | rfl | rfl | rfl | rfl | rfl | rfl | rfl <;> exact stable_v _
          subst hfs
          refine wp_region_tail (S := fun w2 => w2 = wr.drew) [isV (.int .i64 ((pickN a b i : Nat) : Int)), isV (.int .i64 ((pickN c d j : Nat) : Int)), isV (.int .i64 ((pickN a b i : Nat) : Int)), isV (.int .i64 ((pickN c d j : Nat) : Int)), isV (.pointer (some ⟨w.heap.size, pickN a b i * 5, none⟩)), isV (.pointer (some ⟨w.heap.size, q, none⟩)), isV (.int .i64 z), isV (.int .i64 z1), isV (.pointer (some ⟨w.heap.size, pickN a b i * 5, none⟩)), isV (.pointer (some ⟨w.heap.size, q, none⟩))] [(2, .pointer (some ⟨w.heap.size, 0, none⟩)), (6, .int .i64 ((pickN a b i : Nat) : Int)), (8, .int .i64 ((pickN c d j : Nat) : Int))] _ _ 10 (by kernel_rfl) rfl rfl (by kernel_rfl) (by kernel_rfl) rfl (by kernel_rfl) ?base rfl ?ob rfl ?fin
          case base =>
            intro t v ht
            simp only [List.lookup_cons, List.lookup_nil] at ht
            repeat' split at ht
            all_goals first | (cases ht; done) | (obtain rfl := Option.some.inj ht; rename_i hh; obtain rfl := eq_of_beq hh; rfl)
          case ob =>
            exact ⟨obt_move (.int .i64 ((pickN a b i : Nat) : Int)) rfl rfl rfl (srt_b 6 rfl),
              obt_move (.int .i64 ((pickN c d j : Nat) : Int)) rfl rfl rfl (srt_b 8 rfl),
              obt_move (.int .i64 ((pickN a b i : Nat) : Int)) rfl rfl rfl (srt_b 6 rfl),
              obt_move (.int .i64 ((pickN c d j : Nat) : Int)) rfl rfl rfl (srt_b 8 rfl),
              obt_two (.pointer (some ⟨w.heap.size, pickN a b i * 5, none⟩)) rfl rfl (srt_b 2 rfl) (srt_j 2 rfl (by kernel_rfl) rfl) (fun ρ w2 hS hx hy => exec_indexAt (pickN a b i) (pickN a b i * 5) rfl hx hy Try.underlying78 Try.sizeOf76 (by omega) (by omega)),
              obt_two (.pointer (some ⟨w.heap.size, q, none⟩)) rfl rfl (srt_j 4 rfl (by kernel_rfl) rfl) (srt_j 3 rfl (by kernel_rfl) rfl) (fun ρ w2 hS hx hy => exec_indexAt (pickN c d j) q rfl hx hy Try.underlying76 Try.sizeOf3 (by omega) (by have := HQ.out; omega)),
              obt_one (.int .i64 z) rfl rfl (srt_j 5 rfl (by kernel_rfl) rfl) (fun ρ w2 hS hx => by subst hS; exact exec_loadInt rfl hx hcl),
              obt_two (.int .i64 z1) rfl rfl (srt_c (v := .int .i64 1)) (srt_j 6 rfl (by kernel_rfl) rfl) (fun ρ w2 hS hx hy => by rw [show z1 = 1 - z from HZ1.out]; go_simp),
              obt_two (.pointer (some ⟨w.heap.size, pickN a b i * 5, none⟩)) rfl rfl (srt_b 2 rfl) (srt_j 0 rfl (by kernel_rfl) rfl) (fun ρ w2 hS hx hy => exec_indexAt (pickN a b i) (pickN a b i * 5) rfl hx hy Try.underlying78 Try.sizeOf76 (by omega) (by omega)),
              obt_two (.pointer (some ⟨w.heap.size, q, none⟩)) rfl rfl (srt_j 8 rfl (by kernel_rfl) rfl) (srt_j 1 rfl (by kernel_rfl) rfl) (fun ρ w2 hS hx hy => exec_indexAt (pickN c d j) q rfl hx hy Try.underlying76 Try.sizeOf3 (by omega) (by have := HQ.out; omega)),
              trivial⟩
          case fin =>
            intro a' w' h1 h2 h3 hS h4 K hK
            have ha := frame_ov rfl h1 h2 h3 [(25, .int .i64 ((pickN a b i : Nat) : Int)), (26, .int .i64 ((pickN c d j : Nat) : Int)), (27, .int .i64 ((pickN a b i : Nat) : Int)), (28, .int .i64 ((pickN c d j : Nat) : Int)), (29, .pointer (some ⟨w.heap.size, pickN a b i * 5, none⟩)), (30, .pointer (some ⟨w.heap.size, q, none⟩)), (31, .int .i64 z), (32, .int .i64 z1), (33, .pointer (some ⟨w.heap.size, pickN a b i * 5, none⟩)), (34, .pointer (some ⟨w.heap.size, q, none⟩))] (by kernel_rfl) ⟨h4 0 25 rfl (by decide), h4 1 26 rfl (by decide), h4 2 27 rfl (by decide), h4 3 28 rfl (by decide), h4 4 29 rfl (by decide), h4 5 30 rfl (by decide), h4 6 31 rfl (by decide), h4 7 32 rfl (by decide), h4 8 33 rfl (by decide), h4 9 34 rfl (by decide), trivial⟩
            dsimp only [ov, List.lookup, Nat.reduceBEq, Nat.reduceAdd] at ha
            have v34 : a'.tmps.getD 34 undef = .pointer (some ⟨w.heap.size, q, none⟩) := h4 9 34 rfl (by decide)
            have v32 : a'.tmps.getD 32 undef = .int .i64 z1 := h4 7 32 rfl (by decide)
            subst hS
            refine run_skip (exec_storeInt (u := z) rfl v34 v32 hcl hfr) (hK undef _ ?_)
            show Exit.inBlock _ _ Exit.normal a' _
            have E1 : Hid (Blk (wr.drew.setCell ⟨w.heap.size, q, none⟩ (.int .i64 z1)) w.heap.size 78 25 (G (2 * i + (j + 1)))) := hide (by have := blk_set (blk_draws HP.out 1) q z1; rw [HST.out] at this; exact this)
            have E2 : Hid (Blk (wr.drew.setCell ⟨w.heap.size, q, none⟩ (.int .i64 z1)) (w.heap.size + 1 + 1) 78 25 (fun _ => 0)) := hide (blk_other (blk_draws HR.out 1) _ _ (by simp; omega))
            have E3 : Hid (SwAt (wr.drew.setCell ⟨w.heap.size, q, none⟩ (.int .i64 z1)) (w.heap.size + 1) s) := hide (swAt_set (swAt_below HS.out (below_drew (Below.refl _ _))) _ _ (by simp))
            have E4 : Hid (Below w.heap.size w (wr.drew.setCell ⟨w.heap.size, q, none⟩ (.int .i64 z1))) := hide ((below_drew HB.out).setCell (Nat.le_refl _) _)
            clear v34 v32
            generalize wr.drew.setCell ⟨w.heap.size, q, none⟩ (.int .i64 z1) = w9 at E1 E2 E3 E4 ⊢
            rw [ha]
            clear ha h1 h2 h3 h4 hst hK
            go_wp2
            go_roundw
            case rel => exact ⟨j + 1, by omega, by go_num, E1.out, E2.out, E3.out, E4.out⟩
            case measure => simp [intOf]; omega
        · obtain rfl : j = 2 := by omega
          go_wp2
          go_roundw
          case rel => exact ⟨i + 1, by omega, by go_num, HP.out, HR.out, HS.out, HB.out⟩
          case measure => simp [intOf]; omega
    · obtain rfl : i = 2 := by omega
      go_wp2_with (first | (with_reducible refine wpList_loadVec HP.out 37 rfl rfl _ rfl rfl Try.underlying78 Try.sizeImg ?_) | (with_reducible refine wpList_storeVec HR.out rfl (.tmp 4) (.tmp 37) rfl rfl rfl Try.sizeImg ?_; intro w4 h4 g4 s4))
      refine bodyPost_ret (results_vec rfl _ _ (w.heap.size + 1 + 1) 25 _ 78 _ _ rfl h4 Try.underlying78 Try.sizeImg) rfl ⟨rfl, ?_⟩
      exact HB.out.trans (grown_below g4 (fun k hk => by cases hk; omega) HB.out.size)
theorem switched_img (R C : Nat) (f : Nat → Nat → Int) (s : Sw) (w : World) (hI : Img R C f) (hs : swF R C f s = true) :
    Calls Try.prog 79 #[.agg (vec 25 (imgF R C f)), swV s] w fun e w' => e = .returned (.agg (vec 25 (imgF R C (flipF f s)))) ∧ Below w.heap.size w w' := by
  obtain ⟨a, b, c, d, rfl, h⟩ := swF_iff.1 hs
  have hR := hI.r2; have hC := hI.c2
  obtain ⟨h1, h2, h3, h4, -⟩ := four_iff.1 h
  refine (switched_any (imgF R C f) a b c d w (imgF_range hI) (by omega) (by omega) (by omega) (by omega)).mono ?_
  rintro e w' ⟨rfl, hb⟩
  refine ⟨?_, hb⟩
  rw [vec_congr (stepF_img h hC)]; rfl
end Go.Proofs.Ytcliiefedmiokaa
/-
  A map of switches keyed by images, told by its entries.
-/
namespace Go.Proofs.Ytcliiefedmiokaa
open Go.RowKit
set_option maxRecDepth 100000

theorem Try.laidOutM : laidOutB Try.prog = true := by kernel_rfl
theorem Try.keyTyM : Try.prog.keyType 78 = true := by kernel_rfl
theorem Try.cellsImg : Try.prog.cellsOf 78 = 25 := by kernel_rfl
theorem Try.cellsRow5 : Try.prog.cellsOf 76 = 5 := by kernel_rfl
theorem Try.cellsI : Try.prog.cellsOf 3 = 1 := by kernel_rfl
theorem Try.imgLaw : Maps.Keyed Try.prog 78 := Maps.Keyed.of_law (deep_law_gate Try.laidOutM (of_decide_eq_true (by kernel_rfl)) (of_decide_eq_true (by kernel_rfl)) Try.keyTyM (by rw [Try.underlying78]))
theorem mapM_some {α β : Type} (f : α → Option β) : ∀ l : List α, (∀ x ∈ l, ∃ y, f x = some y) → ∃ ys, l.mapM f = some ys
  | [], _ => ⟨[], rfl⟩
  | x :: l, h => by
    obtain ⟨y, hy⟩ := h x (by simp)
    obtain ⟨ys, hys⟩ := mapM_some f l fun z hz => h z (by simp [hz])
    exact ⟨y :: ys, by simp [List.mapM_cons, hy, hys]⟩
theorem intLitM (d : Nat) (x : Int) (h : (Lit.int .i64 x).wf = true) : ∃ l, Try.prog.keyLits (d + 1) 3 [.int .i64 x] = some l := by
  unfold Program.keyLits
  rw [Try.underlying3]
  exact ⟨_, if_pos ⟨rfl, h⟩⟩
theorem rowLitM (d : Nat) (F : Nat → Int) (h : ∀ i, (Lit.int .i64 (F i)).wf = true) : ∃ l, Try.prog.keyLits (d + 2) 76 (vecL 5 F) = some l := by
  unfold Program.keyLits
  rw [Try.underlying76]
  simp only [Try.cellsRow5, Try.cellsI, vecL_len, if_true]
  obtain ⟨ys, hys⟩ := mapM_some (fun i => Try.prog.keyLits (d + 1) 3 (((vecL 5 F).drop (i * 1)).take 1)) (List.range 5) fun i hi => by
    have hi' := List.mem_range.1 hi
    have e : ((vecL 5 F).drop (i * 1)).take 1 = [.int .i64 (F i)] := by
      apply List.ext_getElem
      · simp [vecL]; omega
      · intro j h1 h2
        obtain rfl : j = 0 := by simp at h2; omega
        simp [vecL]
    obtain ⟨l, hl⟩ := intLitM d (F i) (h i)
    exact ⟨l, by rw [e]; exact hl⟩
  exact ⟨ys.flatten, by rw [hys]; rfl⟩
theorem imgLitM (d : Nat) (F : Nat → Int) (h : ∀ i, (Lit.int .i64 (F i)).wf = true) : ∃ l, Try.prog.keyLits (d + 3) 78 (vecL 25 F) = some l := by
  unfold Program.keyLits
  rw [Try.underlying78]
  simp only [Try.cellsImg, Try.cellsRow5, vecL_len, if_true]
  obtain ⟨ys, hys⟩ := mapM_some (fun i => Try.prog.keyLits (d + 2) 76 (((vecL 25 F).drop (i * 5)).take 5)) (List.range 5) fun i hi => by
    have hi' := List.mem_range.1 hi
    have e : ((vecL 25 F).drop (i * 5)).take 5 = vecL 5 fun j => F (i * 5 + j) := by
      apply List.ext_getElem
      · simp [vecL]; omega
      · intro j h1 h2
        simp [vecL]
    obtain ⟨l, hl⟩ := rowLitM d (fun j => F (i * 5 + j)) fun j => h _
    exact ⟨l, by rw [e]; exact hl⟩
  exact ⟨ys.flatten, by rw [hys]; rfl⟩
/-- Cells of an image. -/
def WfI (F : Nat → Int) : Prop := ∀ i, F i = -1 ∨ F i = 0 ∨ F i = 1
theorem wfI_lit {F : Nat → Int} (h : WfI F) (i : Nat) : (Lit.int .i64 (F i)).wf = true := by
  rcases h i with e | e | e <;> rw [e] <;> decide
theorem img_key {F : Nat → Int} (h : WfI F) : ∃ l, keyOf Try.prog 78 (.agg (vec 25 F)) = some l := by
  have hs : ∃ d, Try.prog.types.size + 1 = d + 3 := ⟨Try.prog.types.size - 2, by have : 3 ≤ Try.prog.types.size := of_decide_eq_true (by kernel_rfl); omega⟩
  obtain ⟨d, hd⟩ := hs
  obtain ⟨L, hL⟩ := imgLitM d F (wfI_lit h)
  have hf : (Value.agg (vec 25 F)).formed Try.prog 78 = true := by
    simp [Value.formed, Try.underlying78, Try.cellsImg, vec_size]
  have hc : (Value.agg (vec 25 F)).cells.toList = vecL 25 F := by simp [Value.cells, vec]
  refine ⟨.string (keyBytes L), ?_⟩
  unfold keyOf
  rw [Try.underlying78]
  simp only [Try.keyTyM, hf, Bool.and_self, if_true, hc, hd, hL, Option.map_some]
/-- The map in block b holds these entries, in this order. -/
def ImgMap (w : World) (b : Nat) (ks : List ((Nat → Int) × Sw)) : Prop :=
  ∃ (es : Array MapEntry) (clock : Nat), w.heap[b]? = some (.map es clock) ∧ es.toList.map (fun e => (e.key, e.val)) = (ks.map fun p => (Value.agg (vec 25 p.1), swV p.2)) ∧ MapKept.Stamped es clock
theorem imgMap_lt {w : World} {b : Nat} {ks : List ((Nat → Int) × Sw)} (h : ImgMap w b ks) : b < w.heap.size := by
  obtain ⟨es, c, hb, -⟩ := h
  exact (Array.getElem?_eq_some_iff.1 hb).1
theorem imgMap_heap {w w' : World} {b : Nat} {ks : List ((Nat → Int) × Sw)} (h : ImgMap w b ks) (e : w'.heap[b]? = w.heap[b]?) : ImgMap w' b ks := by
  obtain ⟨es, c, hb, hk⟩ := h
  exact ⟨es, c, e.trans hb, hk⟩
theorem imgMap_below {w w' : World} {b : Nat} {ks : List ((Nat → Int) × Sw)} (h : ImgMap w b ks) (hb : Below w.heap.size w w') : ImgMap w' b ks := imgMap_heap h (hb.block b (imgMap_lt h))
theorem imgMap_grown {w w' : World} {b : Nat} {ks : List ((Nat → Int) × Sw)} {row : Option Nat} (h : ImgMap w b ks) (hg : w.grownBy w' row) (hr : row ≠ some b) : ImgMap w' b ks := imgMap_heap h (hg.block b (imgMap_lt h) (Ne.symm hr))
theorem imgMap_made (w : World) : ImgMap (w.alloc (.map #[] 0)) w.heap.size [] := ⟨#[], 0, heap_alloc_new w _, rfl, MapKept.stamped_empty 0⟩
theorem own_not_map {w : World} {b1 e1 n1 z1 b : Nat} {v1 : Value} {xs : List Value} {ks : List ((Nat → Int) × Sw)} (h1 : w.ownsRow b1 e1 z1 v1 n1 xs) (h2 : ImgMap w b ks) : v1.ownBlock ≠ some b := by
  obtain ⟨es, c, hb, -⟩ := h2
  rcases h1.2 with ⟨rfl, _⟩ | ⟨g1, c1, cur1, rfl, _, hg1, _⟩
  · simp [Value.ownBlock]
  · intro e
    simp only [Value.ownBlock, Option.some.injEq] at e
    subst e
    rw [hg1] at hb; cases hb
theorem imgMap_keys {es : Array MapEntry} {ks : List ((Nat → Int) × Sw)} (hk : es.toList.map (fun e => (e.key, e.val)) = ks.map fun p => (Value.agg (vec 25 p.1), swV p.2)) (hw : ∀ p ∈ ks, WfI p.1) : ∀ e ∈ es.toList, ∃ l, keyOf Try.prog 78 e.key = some l := by
  intro e he
  have h1 : (e.key, e.val) ∈ es.toList.map (fun e => (e.key, e.val)) := List.mem_map.2 ⟨e, he, rfl⟩
  rw [hk] at h1
  obtain ⟨p, hp, hpe⟩ := List.mem_map.1 h1
  simp only [Prod.mk.injEq] at hpe
  obtain ⟨l, hl⟩ := img_key (hw p hp)
  exact ⟨l, by rw [← hpe.1]; exact hl⟩
theorem run_lookupIM {w : World} {b : Nat} {ks : List ((Nat → Int) × Sw)} {F : Nat → Int} (h : ImgMap w b ks) (hw : ∀ p ∈ ks, WfI p.1) (hF : WfI F) (ok : Bool) :
    ∃ (s : Sw) (fd : Bool), (Instr.lookup 82 (.map (some b)) (.agg (vec 25 F)) ok).run Try.prog w = .ok (if ok then .tuple #[swV s, .bool fd] else swV s) w ∧
      ((fd = true ∧ ∃ p ∈ ks, vec 25 p.1 = vec 25 F ∧ s = p.2) ∨ (fd = false ∧ s = zeroSw ∧ ∀ p ∈ ks, vec 25 p.1 ≠ vec 25 F)) := by
  obtain ⟨es, c, hb, hk, -⟩ := h
  obtain ⟨l, hl⟩ := img_key hF
  have hkeys := imgMap_keys hk hw
  rcases Try.imgLaw.find w hl es.toList hkeys with ⟨h1, h2⟩ | ⟨j, e, h1, h2, h3⟩
  · refine ⟨zeroSw, false, ?_, .inr ⟨rfl, rfl, fun p hp e => ?_⟩⟩
    · cases ok <;> simp [Instr.lookup, run_underlying Try.underlying82, MapKept.run_getObj_map hb, Try.imgLaw.check w _ hl, h1, Result.andThen] <;> rfl
    · have hm : (Value.agg (vec 25 p.1), swV p.2) ∈ ks.map fun p => (Value.agg (vec 25 p.1), swV p.2) := List.mem_map.2 ⟨p, hp, rfl⟩
      rw [← hk] at hm
      obtain ⟨x, hx, hxe⟩ := List.mem_map.1 hm
      simp only [Prod.mk.injEq] at hxe
      exact h2 x hx (by rw [hxe.1, e])
  · have hm : (e.key, e.val) ∈ es.toList.map (fun e => (e.key, e.val)) := List.mem_map.2 ⟨e, List.mem_of_getElem? h2, rfl⟩
    rw [hk] at hm
    obtain ⟨p, hp, hpe⟩ := List.mem_map.1 hm
    simp only [Prod.mk.injEq] at hpe
    refine ⟨p.2, true, ?_, .inl ⟨rfl, p, hp, ?_, rfl⟩⟩
    · cases ok <;> simp [Instr.lookup, run_underlying Try.underlying82, MapKept.run_getObj_map hb, Try.imgLaw.check w _ hl, h1, hpe.2, Result.andThen]
    · have := hpe.1.trans h3
      simpa using this
theorem run_updateIM {w : World} {b : Nat} {ks : List ((Nat → Int) × Sw)} {F : Nat → Int} (h : ImgMap w b ks) (hw : ∀ p ∈ ks, WfI p.1) (hF : WfI F) (hne : ∀ p ∈ ks, vec 25 p.1 ≠ vec 25 F) (s : Sw) :
    ∃ w', (Instr.mapUpdate 82 (.map (some b)) (.agg (vec 25 F)) (swV s)).run Try.prog w = .ok () w' ∧ ImgMap w' b (ks ++ [(F, s)]) ∧ w.grownBy w' (some b) ∧ w'.heap.size = w.heap.size := by
  obtain ⟨es, c, hb, hk, hst⟩ := h
  obtain ⟨l, hl⟩ := img_key hF
  have hkeys := imgMap_keys hk hw
  rcases Try.imgLaw.find w hl es.toList hkeys with ⟨h1, h2⟩ | ⟨j, e, h1, h2, h3⟩
  · refine ⟨{ w with heap := w.heap.setIfInBounds b (.map (es.push ⟨.agg (vec 25 F), swV s, c⟩) (c + 1)) }, by simp [Instr.mapUpdate, run_underlying Try.underlying82, MapKept.run_getObj_map hb, Try.imgLaw.check w _ hl, h1, MapKept.run_setObj_map _ hb, Result.andThen], ⟨es.push ⟨.agg (vec 25 F), swV s, c⟩, c + 1, ?_, ?_, MapKept.stamped_push hst h2⟩, ⟨rfl, rfl, rfl, by simp, fun k hk hr => ?_⟩, by simp⟩
    · have hlt := (Array.getElem?_eq_some_iff.1 hb).1
      simp [hlt]
    · rw [Array.toList_push, List.map_append, hk]; simp
    · have : b ≠ k := fun e => hr (by rw [e])
      simp [Array.getElem?_setIfInBounds_ne this]
  · exfalso
    have hm : (e.key, e.val) ∈ es.toList.map (fun e => (e.key, e.val)) := List.mem_map.2 ⟨e, List.mem_of_getElem? h2, rfl⟩
    rw [hk] at hm
    obtain ⟨p, hp, hpe⟩ := List.mem_map.1 hm
    simp only [Prod.mk.injEq] at hpe
    have := hpe.1.trans h3
    exact hne p hp (by simpa using this)
theorem wpList_lookupIM {ops : Array Oper} {rest : List Oper} {o : Oper} {a : Act} {Q : Exit → Act → World → Prop} {W : World} {b : Nat} {ks : List ((Nat → Int) × Sw)} {F : Nat → Int} (h : ImgMap W b ks) (hw : ∀ p ∈ ks, WfI p.1) (hF : WfI F)
    (d : Tmp) (_hd : o.dst = some d) (hgd : o.guard = none) (m x : Operand) (ok : Bool) (ho : o.op = .lookup 82 m x ok) (hm : a.eval m = .map (some b)) (hx : a.eval x = .agg (vec 25 F))
    (hK : ∀ (s : Sw) (fd : Bool), ((fd = true ∧ ∃ p ∈ ks, vec 25 p.1 = vec 25 F ∧ s = p.2) ∨ (fd = false ∧ s = zeroSw ∧ ∀ p ∈ ks, vec 25 p.1 ≠ vec 25 F)) → wpList Try.prog ops Q rest (a.put o.dst (if ok then .tuple #[swV s, .bool fd] else swV s)) W) : wpList Try.prog ops Q (o :: rest) a W := by
  refine wpList_plain hgd fun K hk => ?_
  obtain ⟨s, fd, h1, h2⟩ := run_lookupIM h hw hF ok
  unfold Oper.wp
  simp only [execOp, ho, hm, hx, Sem.run_bind, h1, Result.andThen_ok]
  exact hk _ _ (hK s fd h2)
theorem wpList_updateIM {ops : Array Oper} {rest : List Oper} {o : Oper} {a : Act} {Q : Exit → Act → World → Prop} {W : World} {b : Nat} {ks : List ((Nat → Int) × Sw)} {F : Nat → Int} (h : ImgMap W b ks) (hw : ∀ p ∈ ks, WfI p.1) (hF : WfI F) (hne : ∀ p ∈ ks, vec 25 p.1 ≠ vec 25 F) (s : Sw)
    (hgd : o.guard = none) (m x y : Operand) (ho : o.op = .mapUpdate 82 m x y ∨ o.op = .insert 82 m x y) (hm : a.eval m = .map (some b)) (hx : a.eval x = .agg (vec 25 F)) (hy : a.eval y = swV s)
    (hK : ∀ w', ImgMap w' b (ks ++ [(F, s)]) → W.grownBy w' (some b) → w'.heap.size = W.heap.size → wpList Try.prog ops Q rest (a.put o.dst undef) w') : wpList Try.prog ops Q (o :: rest) a W := by
  refine wpList_plain hgd fun K hk => ?_
  obtain ⟨w', h1, h2, h3, h4⟩ := run_updateIM h hw hF hne s
  unfold Oper.wp
  rcases ho with ho | ho
  · simp only [execOp, ho, hm, hx, hy, Sem.run_bind, h1, Result.andThen_ok]
    exact hk _ _ (hK w' h2 h3 h4)
  · simp only [execOp, ho, hm, hx, hy, Sem.run_bind, h1, Result.andThen_ok]
    exact hk _ _ (hK w' h2 h3 h4)
end Go.Proofs.Ytcliiefedmiokaa
/-
  pairsBelow of the program: all pairs of numbers below 5, in order.
-/
namespace Go.Proofs.Ytcliiefedmiokaa
open Go.RowKit

def cellsP (l : List (Nat × Nat)) : List Value := l.flatMap fun p => [.int .i64 (p.1 : Int), .int .i64 (p.2 : Int)]
theorem cellsP_snoc (l : List (Nat × Nat)) (a b : Nat) : cellsP (l ++ [(a, b)]) = cellsP l ++ #[Value.int .i64 (a : Int), .int .i64 (b : Int)].toList := by simp [cellsP]
/-- The pairs up to a number. -/
def upP (k : Nat) : List (Nat × Nat) := ((List.range k).filter fun c => decide (c / 5 < c % 5)).map fun c => (c / 5, c % 5)
theorem upP_yes {k : Nat} (h : k / 5 < k % 5) : upP (k + 1) = upP k ++ [(k / 5, k % 5)] := by
  unfold upP; rw [List.range_succ, List.filter_append, List.map_append]; simp [h]
theorem upP_no {k : Nat} (h : ¬ k / 5 < k % 5) : upP (k + 1) = upP k := by
  unfold upP; rw [List.range_succ, List.filter_append, List.map_append]; simp [h]
theorem upP_skip {k l : Nat} (hkl : k ≤ l) (h : ∀ i, k ≤ i → i < l → ¬ i / 5 < i % 5) : upP l = upP k := by
  induction l with
  | zero => obtain rfl : k = 0 := by omega
            rfl
  | succ l ih =>
    by_cases e : k = l + 1
    · rw [e]
    · rw [upP_no (h l (by omega) (by omega)), ih (by omega) fun i h1 h2 => h i h1 (by omega)]
theorem upP_len (k : Nat) : (upP k).length ≤ k := by
  unfold upP; rw [List.length_map]
  exact Nat.le_trans (List.length_filter_le _ _) (by rw [List.length_range]; exact Nat.le_refl _)
theorem Try.infoPair : (Try.prog.info? 130).map (fun i => (i.zero, i.size, i.bytes)) = some (some (.agg #[.int .i64 0, .int .i64 0]), 2, 16) := by kernel_rfl
def PairsRes (l : List (Nat × Nat)) (w : World) (e : Ending) (w' : World) : Prop := ∃ v, e = .returned v ∧ w'.ownsRow w.heap.size 130 2 v l.length (cellsP l) ∧ Below w.heap.size w w'
set_option maxRecDepth 100000 in
set_option maxHeartbeats 2000000 in
theorem pairsBelow_any (w : World) : Calls Try.prog 133 #[.int .i64 5] w (PairsRes (upP 25) w) := by
  go_enter Try.func133, Try.ntmps133
  go_wp2
  go_loopw [3, 7] (fun u t w' => ∃ (i : Nat) (v : Value), i ≤ 5 ∧ t = .int .i64 i ∧ v = u ∧ w'.ownsRow w.heap.size 130 2 v (upP (5 * i)).length (cellsP (upP (5 * i))) ∧ Below w.heap.size w w') (fun _ t _ => 5 - (intOf t).toNat)
  case atStart => exact ⟨0, _, by omega, rfl, rfl, World.ownsRow_nil _ _ _ _, Below.refl _ _⟩
  case round =>
    obtain ⟨i, v, hi, rfl, rfl, ho, hb⟩ := hrel
    have HO := hide ho; have HB := hide hb
    clear ho hb
    by_cases hlt : i < 5
    · have hiI : (i : Int) < 5 := by omega
      have HSK : Hid (upP (5 * i + (i + 1)) = upP (5 * i)) := hide (upP_skip (by omega) fun c h1 h2 => by omega)
      rw [← HSK.out] at HO
      clear HSK
      go_wp2
      go_loopw [3, 5] (fun u t w' => ∃ (j : Nat) (v : Value), (i + 1 ≤ j ∧ j ≤ 5) ∧ t = .int .i64 j ∧ v = u ∧ w'.ownsRow w.heap.size 130 2 v (upP (5 * i + j)).length (cellsP (upP (5 * i + j))) ∧ Below w.heap.size w w') (fun _ t _ => 5 - (intOf t).toNat)
      case atStart => exact ⟨i + 1, _, by omega, by go_num, rfl, HO.out, HB.out⟩
      case round =>
        clear HO HB
        obtain ⟨j, v, ⟨hj1, hj⟩, rfl, rfl, ho, hb⟩ := hrel
        have HO := hide ho; have HB := hide hb
        clear ho hb
        by_cases hlj : j < 5
        · have hjI : (j : Int) < 5 := by omega
          have HL := hide (upP_len (5 * i + j))
          have HST : Hid (upP (5 * i + (j + 1)) = upP (5 * i + j) ++ [(i, j)]) := hide (by
            have := upP_yes (k := 5 * i + j) (by omega)
            rw [show (5 * i + j) / 5 = i by omega, show (5 * i + j) % 5 = j by omega] at this
            rw [← Nat.add_assoc, this])
          have hwr := HB.out.size
          obtain ⟨va, vc, hvv⟩ := ownA_slice HO.out
          obtain ⟨n, hn⟩ : ∃ n, n = (upP (5 * i + j)).length := ⟨_, rfl⟩
          have HN := hide hn
          rw [← hn] at HO HL hvv
          clear hn
          subst hvv
          go_wp2_with (first | (with_reducible refine wpList_buildOneA #[.int .i64 (i : Int), .int .i64 (j : Int)] _ 21 rfl rfl _ rfl rfl Try.underlying139 Try.infoPair (by decide) (by decide) rfl ?_) | (at_builtin; refine wpList_pushA HO.out #[.int .i64 (i : Int), .int .i64 (j : Int)] _ rfl _ _ rfl Try.underlying139 Try.infoPair rfl (by decide) (by decide) rfl rfl rfl (by simp [Value.oneCell']) (by have := HL.out; omega) hwr ?_; intro g cap w6 hown hb6 hg6 hat6 hlt6))
          go_roundw
          case rel =>
            refine ⟨j + 1, _, by omega, by go_num, rfl, ?_, HB.out.trans (hb6.mono (Nat.le_refl _))⟩
            rw [HST.out, cellsP_snoc, List.length_append, ← HN.out]
            exact hown
          case measure => simp [intOf]; omega
        · obtain rfl : j = 5 := by omega
          go_wp2
          go_roundw
          case rel => exact ⟨i + 1, _, by omega, by go_num, rfl, HO.out, HB.out⟩
          case measure => simp [intOf]; omega
    · obtain rfl : i = 5 := by omega
      go_wp2
      go_ret
      exact ⟨_, rfl, HO.out, HB.out⟩
end Go.Proofs.Ytcliiefedmiokaa
