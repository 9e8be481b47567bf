/-
  Texts of this claim, one behind the other: SwV, SwL, SwH, ReachS, SpecT, ColSS, ColS, Eq, Same, Put, Dist, SpecD, SameS.
-/
import Derived.Test.YtcliiefedmiokaaGreatPackO
import Derived.Test.YtcliiefedmiokaaGreatPackE
import Derived.Test.YtcliiefedmiokaaGreatPackJ
import Derived.Test.YtcliiefedmiokaaGreatPackC
import Derived.Test.YtcliiefedmiokaaGreatPackF
import Derived.Test.YtcliiefedmiokaaGreatPackA
import Derived.Test.YtcliiefedmiokaaGreatPackD
import Derived.Test.YtcliiefedmiokaaGreatPackH
import Derived.Test.YtcliiefedmiokaaGreatPackB
import Derived.Test.YtcliiefedmiokaaGreatPackL
/-
  Switches as values and in variables; a cell of an image; whether a switch is one of an image.
-/
namespace Go.Proofs.YtcliiefedmiokaaGreat
open Go.RowKit

def swA (s : Sw) : Array Value := #[.int .i64 s.y1, .int .i64 s.y2, .int .i64 s.x1, .int .i64 s.x2]
def swV (s : Sw) : Value := .agg (swA s)
/-- A switch in a variable. -/
def SwAt (w : World) (g : Nat) (s : Sw) : Prop := w.heap[g]? = some (.cells (swA s) 77 (0, 0))
theorem swAt_lt {w : World} {g : Nat} {s : Sw} (h : SwAt w g s) : g < w.heap.size := (Array.getElem?_eq_some_iff.1 h).1
theorem swAt_below {w w' : World} {g : Nat} {s : Sw} (h : SwAt w g s) (hb : Below w.heap.size w w') : SwAt w' g s := by
  unfold SwAt; rw [hb.block g (swAt_lt h)]; exact h
theorem swAt_grown {w w' : World} {g : Nat} {s : Sw} {row : Option Nat} (h : SwAt w g s) (hg : w.grownBy w' row) (hr : row ≠ some g) : SwAt w' g s := by
  unfold SwAt; rw [hg.block g (swAt_lt h) (Ne.symm hr)]; exact h
theorem swAt_cells {w : World} {g : Nat} {s : Sw} (h : SwAt w g s) : w.cell? ⟨g, 0, none⟩ = some (.int .i64 s.y1) ∧ w.cell? ⟨g, 1, none⟩ = some (.int .i64 s.y2) ∧ w.cell? ⟨g, 2, none⟩ = some (.int .i64 s.x1) ∧ w.cell? ⟨g, 3, none⟩ = some (.int .i64 s.x2) :=
  ⟨by rw [cell_of_row w g 0 _ _ _ h]; rfl, by rw [cell_of_row w g 1 _ _ _ h]; rfl, by rw [cell_of_row w g 2 _ _ _ h]; rfl, by rw [cell_of_row w g 3 _ _ _ h]; rfl⟩
theorem Tryz.sizeSw : (Tryz.prog.info? 77).map (·.size) = some 4 := by kernel_rfl
theorem swA_size (s : Sw) : (swA s).size = 4 := rfl
theorem swA_one (s : Sw) : (swA s).all (·.oneCell') = true := by simp [swA, Value.oneCell']
theorem wpList_loadSw {ops : Array Oper} {rest : List Oper} {o : Oper} {a : Act} {Q : Exit → Act → World → Prop} {W : World} {g : Nat} {s : Sw} (hb : SwAt W g s)
    (d : Tmp) (_hd : o.dst = some d) (hgd : o.guard = none) (x : Operand) (ho : o.op = .load 77 x) (hx : a.eval x = .pointer (some ⟨g, 0, none⟩))
    (h : wpList Tryz.prog ops Q rest (a.put o.dst (swV s)) W) : wpList Tryz.prog ops Q (o :: rest) a W :=
  wpList_load_row hgd _ x ho g hx _ _ (0, 0) _ hb Tryz.underlying77 rfl Tryz.sizeSw h
theorem exec_loadSw {ρ : Operand → Value} {o : Oper} {w : World} {x : Operand} {g : Nat} {s : Sw} (ho : o.op = .load 77 x) (hx : ρ x = .pointer (some ⟨g, 0, none⟩)) (hb : SwAt w g s) : (execOp ρ o).run Tryz.prog w = .ok (.value (swV s)) w := by
  unfold execOp
  simp only [ho, hx]
  have hc := swAt_cells hb
  obtain ⟨h0, h1, h2, h3⟩ := hc
  go_simp
  rfl
theorem swAt_new (w : World) (s : Sw) : SwAt (w.alloc (.cells (swA s) 77)) w.heap.size s := heap_alloc_new w _
/-- A switch goes into a new variable. -/
theorem wpList_boxSw {P : Program} {ops : Array Oper} {rest : List Oper} {o : Oper} {a : Act} {Q : Exit → Act → World → Prop} {W : World} (s : Sw)
    (d : Tmp) (_hd : o.dst = some d) (hgd : o.guard = none) (x : Operand) (ho : o.op = .box 77 x) (hx : a.eval x = swV s)
    (h : ∀ w', SwAt w' W.heap.size s → Below W.heap.size W w' → w'.heap.size = W.heap.size + 1 → wpList P ops Q rest (a.put o.dst (.pointer (some ⟨W.heap.size, 0, none⟩))) w') : wpList P ops Q (o :: rest) a W := by
  refine wpList_plain hgd fun K hK => ?_
  unfold Oper.wp execOp
  simp only [ho, hx, Instr.box, Sem.run_bind]
  simp [newVar, newRow, Value.cells, swV]
  exact hK _ _ (h _ (swAt_new W s) ((Below.refl _ _).alloc (Nat.le_refl _) _) (by simp))

/-- The cell of five rows of five, -1 outside. -/
def cellF (F : Nat → Int) (y x : Int) : Int := if 0 ≤ y ∧ y < 5 ∧ 0 ≤ x ∧ x < 5 then F (5 * y.toNat + x.toNat) else -1
theorem cell_any (F : Nat → Int) (y x : Int) (w : World) :
    Calls Tryz.prog 108 #[.agg (vec 25 F), .int .i64 y, .int .i64 x] w fun e w' => e = .returned (.int .i64 (cellF F y x)) ∧ Below w.heap.size w w' := by
  by_cases h : y < 0 ∨ 5 ≤ y ∨ x < 0 ∨ 5 ≤ x
  · have := cell_out F y x w h
    rw [cellF, if_neg (by omega)]; exact this
  · obtain ⟨a, rfl⟩ : ∃ a : Nat, y = a := ⟨y.toNat, by omega⟩
    obtain ⟨b, rfl⟩ : ∃ b : Nat, x = b := ⟨x.toNat, by omega⟩
    have := cell_in F a b w (by omega) (by omega)
    rw [cellF, if_pos (by omega)]; exact this
/-- Whether the switch is one of the image. -/
def hasF (F : Nat → Int) (s : Sw) : Bool :=
  decide (s.y1 < s.y2) && decide (s.x1 < s.x2) && decide (cellF F s.y1 s.x1 ≠ cellF F s.y1 s.x2) && decide (cellF F s.y2 s.x1 = cellF F s.y1 s.x2) && decide (cellF F s.y2 s.x2 = cellF F s.y1 s.x1)
theorem cellF_img {R C : Nat} {f : Nat → Nat → Int} (h : Img R C f) (y x : Int) : cellF (imgF R C f) y x = if 0 ≤ y ∧ y < R ∧ 0 ≤ x ∧ x < C then f y.toNat x.toNat else -1 := by
  have hR := h.r2; have hC := h.c2
  unfold cellF
  by_cases h0 : 0 ≤ y ∧ y < 5 ∧ 0 ≤ x ∧ x < 5
  · rw [if_pos h0, imgF_at _ _ _ _ _ (by omega)]
    by_cases h1 : 0 ≤ y ∧ y < R ∧ 0 ≤ x ∧ x < C
    · rw [if_pos (by omega), if_pos h1]
    · rw [if_neg (by omega), if_neg h1]
  · rw [if_neg h0, if_neg (by omega)]
theorem hasF_img {R C : Nat} {f : Nat → Nat → Int} (h : Img R C f) (s : Sw) : hasF (imgF R C f) s = swF R C f s := by
  have hR := h.r2; have hC := h.c2
  obtain ⟨y1, y2, x1, x2⟩ := s
  rw [Bool.eq_iff_iff]
  simp only [hasF, cellF_img h, swF, four, Bool.and_eq_true, decide_eq_true_eq]
  by_cases hh : (0 ≤ y1 ∧ 0 ≤ x1) ∧ y1 < y2 ∧ x1 < x2
  · obtain ⟨⟨h1, h2⟩, h3, h4⟩ := hh
    obtain ⟨a, rfl⟩ : ∃ a : Nat, y1 = a := ⟨y1.toNat, by omega⟩
    obtain ⟨b, rfl⟩ : ∃ b : Nat, y2 = b := ⟨y2.toNat, by omega⟩
    obtain ⟨c, rfl⟩ : ∃ c : Nat, x1 = c := ⟨x1.toNat, by omega⟩
    obtain ⟨d, rfl⟩ : ∃ d : Nat, x2 = d := ⟨x2.toNat, by omega⟩
    simp only [Int.toNat_natCast]
    by_cases hb : b < R ∧ d < C
    · obtain ⟨hb, hd⟩ := hb
      have e1 := h.cell a c (by omega) (by omega); have e2 := h.cell a d (by omega) (by omega); have e3 := h.cell b c (by omega) (by omega); have e4 := h.cell b d (by omega) (by omega)
      rw [if_pos (by omega), if_pos (by omega), if_pos (by omega), if_pos (by omega)]
      omega
    · constructor
      · intro hx
        exfalso
        obtain ⟨⟨⟨⟨-, -⟩, g1⟩, g2⟩, g3⟩ := hx
        rw [if_neg (show ¬ (0 ≤ (b : Int) ∧ (b : Int) < R ∧ 0 ≤ (d : Int) ∧ (d : Int) < C) by omega)] at g3
        by_cases hc : a < R ∧ c < C
        · have := h.cell a c hc.1 hc.2
          rw [if_pos (by omega)] at g3
          omega
        · rw [if_neg (show ¬ (0 ≤ (a : Int) ∧ (a : Int) < R ∧ 0 ≤ (c : Int) ∧ (c : Int) < C) by omega)] at g1
          rw [if_neg (by omega)] at g1
          exact g1 rfl
      · rintro ⟨-, h5⟩; omega
  · constructor
    · intro hx
      exfalso
      obtain ⟨⟨⟨⟨k1, k2⟩, g1⟩, g2⟩, g3⟩ := hx
      have hn : ¬ (0 ≤ y1 ∧ 0 ≤ x1) := fun e => hh ⟨e, k1, k2⟩
      rw [if_neg (show ¬ (0 ≤ y1 ∧ y1 < R ∧ 0 ≤ x1 ∧ x1 < C) by omega)] at g1 g3
      split at g1 <;> split at g3 <;> split at g2 <;> first | omega | skip
      all_goals first | (exact g1 rfl) | skip
      all_goals (rename_i q1 q2 q3; omega)
    · rintro ⟨⟨⟨⟨k1, k2⟩, k3⟩, k4⟩, -⟩
      exact absurd ⟨⟨k1, k2⟩, k3, k4⟩ hh
end Go.Proofs.YtcliiefedmiokaaGreat
/-
  Lists of switches in memory.
-/
namespace Go.Proofs.YtcliiefedmiokaaGreat
open Go.RowKit

def cellsS (l : List Sw) : List Value := l.flatMap fun s => [.int .i64 s.y1, .int .i64 s.y2, .int .i64 s.x1, .int .i64 s.x2]
theorem cellsS_len (l : List Sw) : (cellsS l).length = l.length * 4 := by
  induction l with
  | nil => rfl
  | cons s l ih =>
    simp only [cellsS, List.flatMap_cons, List.length_append, List.length_cons, List.length_nil] at ih ⊢
    omega
theorem cellsS_snoc (l : List Sw) (s : Sw) : cellsS (l ++ [s]) = cellsS l ++ (swA s).toList := by
  simp [cellsS, swA]
theorem cellsS_at : ∀ (l : List Sw) (i : Nat) (h : i < l.length), (cellsS l)[i * 4]? = some (.int .i64 l[i].y1) ∧ (cellsS l)[i * 4 + 1]? = some (.int .i64 l[i].y2) ∧ (cellsS l)[i * 4 + 2]? = some (.int .i64 l[i].x1) ∧ (cellsS l)[i * 4 + 3]? = some (.int .i64 l[i].x2)
  | [], i, h => absurd h (Nat.not_lt_zero _)
  | s :: l, 0, _ => ⟨rfl, rfl, rfl, rfl⟩
  | s :: l, i + 1, h => by
    have := cellsS_at l i (by simpa using h)
    have e : cellsS (s :: l) = [.int .i64 s.y1, .int .i64 s.y2, .int .i64 s.x1, .int .i64 s.x2] ++ cellsS l := by simp [cellsS]
    rw [e]
    simp only [List.getElem_cons_succ]
    refine ⟨?_, ?_, ?_, ?_⟩
    · rw [List.getElem?_append_right (by simp; omega)]
      simpa [show (i + 1) * 4 - 4 = i * 4 by omega] using this.1
    · rw [List.getElem?_append_right (by simp; omega)]
      simpa [show (i + 1) * 4 + 1 - 4 = i * 4 + 1 by omega] using this.2.1
    · rw [List.getElem?_append_right (by simp; omega)]
      simpa [show (i + 1) * 4 + 2 - 4 = i * 4 + 2 by omega] using this.2.2.1
    · rw [List.getElem?_append_right (by simp; omega)]
      simpa [show (i + 1) * 4 + 3 - 4 = i * 4 + 3 by omega] using this.2.2.2
/-- The four cells of a switch. -/
def SwC (w : World) (g k : Nat) (s : Sw) : Prop := w.cell? ⟨g, k, none⟩ = some (.int .i64 s.y1) ∧ w.cell? ⟨g, k + 1, none⟩ = some (.int .i64 s.y2) ∧ w.cell? ⟨g, k + 2, none⟩ = some (.int .i64 s.x1) ∧ w.cell? ⟨g, k + 3, none⟩ = some (.int .i64 s.x2)
theorem swC_below {w w' : World} {g k : Nat} {s : Sw} (h : SwC w g k s) (hb : Below w.heap.size w w') (hg : g < w.heap.size) : SwC w' g k s :=
  ⟨below_cell hb hg h.1, below_cell hb hg h.2.1, below_cell hb hg h.2.2.1, below_cell hb hg h.2.2.2⟩
theorem swC_at {w : World} {g : Nat} {s : Sw} (h : SwAt w g s) : SwC w g 0 s := swAt_cells h
theorem wpList_loadSwC {ops : Array Oper} {rest : List Oper} {o : Oper} {a : Act} {Q : Exit → Act → World → Prop} {W : World} {g k : Nat} {s : Sw} (hb : SwC W g k s)
    (d : Tmp) (_hd : o.dst = some d) (hgd : o.guard = none) (x : Operand) (ho : o.op = .load 77 x) (hx : a.eval x = .pointer (some ⟨g, k, none⟩))
    (h : wpList Tryz.prog ops Q rest (a.put o.dst (swV s)) W) : wpList Tryz.prog ops Q (o :: rest) a W := by
  obtain ⟨h0, h1, h2, h3⟩ := hb
  refine wpList_plain hgd fun K hK => ?_
  have : (execOp a.eval o).run Tryz.prog W = .ok (.value (swV s)) W := by
    unfold execOp
    simp only [ho, hx]
    go_simp
    rfl
  unfold Oper.wp
  rw [this]
  exact hK _ _ h
theorem Tryz.zeroSwV (w : World) : (zeroValue 77).run Tryz.prog w = .ok (swV zeroSw) w := Tryz.zeroValue77 w
theorem wpList_allocSw {ops : Array Oper} {rest : List Oper} {o : Oper} {a : Act} {Q : Exit → Act → World → Prop} {W : World}
    (d : Tmp) (_hd : o.dst = some d) (hgd : o.guard = none) (ho : o.op = .alloc 77)
    (h : ∀ w', SwAt w' W.heap.size zeroSw → Below W.heap.size W w' → w'.heap.size = W.heap.size + 1 → wpList Tryz.prog ops Q rest (a.put o.dst (.pointer (some ⟨W.heap.size, 0, none⟩))) w') : wpList Tryz.prog ops Q (o :: rest) a W := by
  refine wpList_plain hgd fun K hK => ?_
  unfold Oper.wp execOp
  simp only [ho, Instr.alloc, Sem.run_bind, Tryz.zeroSwV, Result.andThen_ok]
  simp [newVar, newRow, Value.cells, swV]
  exact hK _ _ (h _ (swAt_new W zeroSw) ((Below.refl _ _).alloc (Nat.le_refl _) _) (by simp))
theorem wpList_storeSw {ops : Array Oper} {rest : List Oper} {o : Oper} {a : Act} {Q : Exit → Act → World → Prop} {W : World} {g : Nat} {s0 : Sw} (hb : SwAt W g s0) (s : Sw)
    (hgd : o.guard = none) (x y : Operand) (ho : o.op = .store 77 x y) (hx : a.eval x = .pointer (some ⟨g, 0, none⟩)) (hy : a.eval y = swV s)
    (h : ∀ w', SwAt w' g s → W.grownBy w' (some g) → w'.heap.size = W.heap.size → wpList Tryz.prog ops Q rest (a.put o.dst undef) w') : wpList Tryz.prog ops Q (o :: rest) a W := by
  refine wpList_plain hgd fun K hK => ?_
  unfold Oper.wp execOp
  simp only [ho, hx, hy, swV, Instr.storeAt, Instr.sureAddr, Sem.run_bind, Sem.run_pure, Result.andThen_ok, run_storeVar_row W g 77 77 (swA s0) (swA s) hb (by rw [Tryz.sizeSw]; rfl) rfl (swA_one s)]
  exact hK _ _ (h _ (setRow_heap W g _ _ _ (0, 0) hb) ⟨rfl, rfl, rfl, by simp, fun k hk hr => setRow_other W g k _ (fun e => hr (by rw [e]))⟩ (by simp))
/-- The slice v reads as the switches l. -/
def InSws (w : World) (v : Value) (l : List Sw) : Prop :=
  ∃ a c, v = .slice a l.length c ∧ l.length ≤ maxLen ∧ (l.length = 0 ∨ ∃ g o, a = some ⟨g, o, none⟩ ∧ g < w.heap.size ∧ ∀ i, (h : i < l.length) → SwC w g (o + i * 4) l[i])
theorem inSws_below {w w' : World} {v : Value} {l : List Sw} (h : InSws w v l) (hb : Below w.heap.size w w') : InSws w' v l := by
  obtain ⟨a, c, hv, hm, hp⟩ := h
  refine ⟨a, c, hv, hm, ?_⟩
  rcases hp with h0 | ⟨g, o, ha, hg, hc⟩
  · exact .inl h0
  · exact .inr ⟨g, o, ha, Nat.lt_of_lt_of_le hg hb.size, fun i hi => swC_below (hc i hi) hb hg⟩
theorem inSws_nil (w : World) : InSws w (.slice none 0 0) [] := ⟨none, 0, rfl, Nat.zero_le _, .inl rfl⟩
/-- The call owns the switches. -/
def OwnSws (w : World) (lo : Nat) (v : Value) (l : List Sw) : Prop := w.ownsRow lo 77 4 v l.length (cellsS l)
theorem ownSws_below {w w' : World} {lo : Nat} {v : Value} {l : List Sw} (h : OwnSws w lo v l) (hb : Below w.heap.size w w') : OwnSws w' lo v l := ownA_below h hb
theorem ownSws_base {w : World} {lo lo' : Nat} {v : Value} {l : List Sw} (h : OwnSws w lo v l) (hb : lo' ≤ lo) : OwnSws w lo' v l := ownA_base h hb
theorem ownSws_nil (w : World) (lo : Nat) : OwnSws w lo (.slice none 0 0) [] := World.ownsRow_nil _ _ _ _
theorem ownSws_cells {w : World} {lo g n c : Nat} {l : List Sw} (h : OwnSws w lo (.slice (some ⟨g, 0, none⟩) n c) l) (i : Nat) (hi : i < l.length) : SwC w g (i * 4) l[i] := by
  have hn : n = l.length := by
    rcases h.2 with ⟨e, _⟩ | ⟨g', cap, cur, e, _⟩
    · cases e
    · cases e; rfl
  subst hn
  obtain ⟨h0, h1, h2, h3⟩ := cellsS_at l i hi
  exact ⟨by rw [World.ownsRow.cellAt h _ (by omega)]; exact h0, by rw [World.ownsRow.cellAt h _ (by omega)]; exact h1, by rw [World.ownsRow.cellAt h _ (by omega)]; exact h2, by rw [World.ownsRow.cellAt h _ (by omega)]; exact h3⟩
theorem inSws_own {w : World} {lo : Nat} {v : Value} {l : List Sw} (h : OwnSws w lo v l) : InSws w v l := by
  have h' := h
  rcases h.2 with ⟨rfl, h0⟩ | ⟨g, cap, cur, rfl, hbg, hg, hc, hm, _⟩
  · exact ⟨none, 0, by rw [h0], by omega, .inl h0⟩
  · exact ⟨_, _, rfl, by omega, .inr ⟨g, 0, rfl, (Array.getElem?_eq_some_iff.1 hg).1, fun i hi => by rw [Nat.zero_add]; exact ownSws_cells h' i hi⟩⟩
theorem Tryz.infoSw : (Tryz.prog.info? 77).map (fun i => (i.zero, i.size, i.bytes)) = some (some (.agg #[.int .i64 0, .int .i64 0, .int .i64 0, .int .i64 0]), 4, 32) := by kernel_rfl
/-- The call answers switches of its own. -/
def SwsRes (l : List Sw) (w : World) (e : Ending) (w' : World) : Prop := ∃ v, e = .returned v ∧ OwnSws w' w.heap.size v l ∧ Below w.heap.size w w'
end Go.Proofs.YtcliiefedmiokaaGreat
/-
  The exact laws' helpers at switches: toSwitch, toSwitchS, szSwitchS, markSwitchS, heldSwitchS.
-/
namespace Go.Proofs.YtcliiefedmiokaaGreat
open Go.RowKit

def set4 (xs : List Value) (k : Nat) (s : Sw) : List Value := (((xs.set k (.int .i64 s.y1)).set (k + 1) (.int .i64 s.y2)).set (k + 2) (.int .i64 s.x1)).set (k + 3) (.int .i64 s.x2)
theorem set4_len (xs : List Value) (k : Nat) (s : Sw) : (set4 xs k s).length = xs.length := by simp [set4]
theorem set4_fill {l : List Sw} {xs : List Value} {k : Nat} (h : xs.length = l.length * 4) (hk : k < l.length) : set4 (cellsS (l.take k) ++ xs.drop (k * 4)) (k * 4) l[k] = cellsS (l.take (k + 1)) ++ xs.drop ((k + 1) * 4) := by
  have hl : (cellsS (l.take k)).length = k * 4 := by rw [cellsS_len, List.length_take]; omega
  obtain ⟨a, b, c, d, r, hr⟩ : ∃ a b c d r, xs.drop (k * 4) = a :: b :: c :: d :: r := by
    have : 4 ≤ (xs.drop (k * 4)).length := by rw [List.length_drop]; omega
    match hx : xs.drop (k * 4), this with
    | a :: b :: c :: d :: r, _ => exact ⟨a, b, c, d, r, rfl⟩
  have hd : xs.drop ((k + 1) * 4) = r := by
    rw [show (k + 1) * 4 = k * 4 + 4 by omega, ← List.drop_drop, hr]; rfl
  rw [hd, hr, List.take_succ_eq_append_getElem hk, cellsS_snoc]
  unfold set4
  rw [List.set_append_right _ _ (by omega), List.set_append_right _ _ (by omega), List.set_append_right _ _ (by omega), List.set_append_right _ _ (by omega), hl]
  rw [show k * 4 - k * 4 = 0 by omega, show k * 4 + 1 - k * 4 = 1 by omega, show k * 4 + 2 - k * 4 = 2 by omega, show k * 4 + 3 - k * 4 = 3 by omega]
  simp [swA]
/-- A switch is stored in a slice of the call's own. -/
theorem exec_storeSwOwn {ρ : Operand → Value} {o : Oper} {w : World} {x y : Operand} {base e g n c i : Nat} {xs : List Value} {s : Sw} (ho : o.op = .store 77 x y) (hx : ρ x = .pointer (some ⟨g, i * 4, none⟩)) (hy : ρ y = swV s)
    (h : w.ownsRow base e 4 (.slice (some ⟨g, 0, none⟩) n c) n xs) (hi : i < n) : ∃ w', (execOp ρ o).run Tryz.prog w = .ok .skip w' ∧ w'.ownsRow base e 4 (.slice (some ⟨g, 0, none⟩) n c) n (set4 xs (i * 4) s) ∧ w.grownBy w' (some g) := by
  have hl := h.1
  have hc : ∀ j, j < n * 4 → ∃ u, w.cell? ⟨g, j, none⟩ = some u := fun j hj => ⟨xs[j], by rw [h.cellAt j hj, List.getElem?_eq_getElem (by omega)]⟩
  obtain ⟨u0, h0⟩ := hc (i * 4) (by omega); obtain ⟨u1, h1⟩ := hc (i * 4 + 1) (by omega); obtain ⟨u2, h2⟩ := hc (i * 4 + 2) (by omega); obtain ⟨u3, h3⟩ := hc (i * 4 + 3) (by omega)
  have f0 := h.frozenAt (i * 4); have f1 := h.frozenAt (i * 4 + 1); have f2 := h.frozenAt (i * 4 + 2); have f3 := h.frozenAt (i * 4 + 3)
  obtain ⟨a1, b1⟩ := h.stored (i * 4) (.int .i64 s.y1)
  obtain ⟨a2, b2⟩ := a1.stored (i * 4 + 1) (.int .i64 s.y2)
  obtain ⟨a3, b3⟩ := a2.stored (i * 4 + 2) (.int .i64 s.x1)
  obtain ⟨a4, b4⟩ := a3.stored (i * 4 + 3) (.int .i64 s.x2)
  refine ⟨_, ?_, a4, grown_trans (grown_trans (grown_trans b1 b2) b3) b4⟩
  unfold execOp
  simp only [ho, hx, hy, swV, swA]
  go_simp
theorem wpList_storeSwOwn {ops : Array Oper} {rest : List Oper} {o : Oper} {a : Act} {Q : Exit → Act → World → Prop} {W : World} {base e g n c i : Nat} {xs : List Value} {s : Sw} (h : W.ownsRow base e 4 (.slice (some ⟨g, 0, none⟩) n c) n xs) (hi : i < n)
    (hgd : o.guard = none) (x y : Operand) (ho : o.op = .store 77 x y) (hx : a.eval x = .pointer (some ⟨g, i * 4, none⟩)) (hy : a.eval y = swV s)
    (hK : ∀ w', w'.ownsRow base e 4 (.slice (some ⟨g, 0, none⟩) n c) n (set4 xs (i * 4) s) → W.grownBy w' (some g) → wpList Tryz.prog ops Q rest (a.put o.dst undef) w') : wpList Tryz.prog ops Q (o :: rest) a W := by
  refine wpList_plain hgd fun K hk => ?_
  obtain ⟨w', h1, h2, h3⟩ := exec_storeSwOwn (ρ := a.eval) ho hx hy h hi
  unfold Oper.wp
  rw [h1]
  exact hk _ _ (hK w' h2 h3)

def SizeS (n left : Nat) (w : World) (e : Ending) (w' : World) : Prop := ∃ r : Int, e = .returned (.int .i64 r) ∧ ((r = -1) ∨ (n ≤ left ∧ r = (left - n : Nat))) ∧ w = w'
/-- The cells are marked one after the other. -/
theorem mark_cell (q j m : Nat) (xs : List Value) (hl : xs.length = m) (hj : j < m) : (ints (markR j q) ++ xs.drop j).set j (.int .i64 ((q + j : Nat) : Int)) = ints (markR (j + 1) q) ++ xs.drop (j + 1) := markR_set m q j xs hl hj
/-- A slice of n elements of four cells, each one greater than the one before. -/
def HeldC (w : World) (v : Value) (n q : Nat) : Prop := ∃ a c, v = .slice a n c ∧ n ≤ maxLen ∧ (n = 0 ∨ ∃ g o, a = some ⟨g, o, none⟩ ∧ g < w.heap.size ∧ ∀ j, j < n * 4 → w.cell? ⟨g, o + j, none⟩ = some (.int .i64 ((q + j : Nat) : Int)))
theorem heldC_below {w w' : World} {v : Value} {n q : Nat} (h : HeldC w v n q) (hb : Below w.heap.size w w') : HeldC w' v n q := by
  obtain ⟨a, c, hv, hm, hp⟩ := h
  refine ⟨a, c, hv, hm, ?_⟩
  rcases hp with h0 | ⟨g, o, ha, hg, hc⟩
  · exact .inl h0
  · exact .inr ⟨g, o, ha, Nat.lt_of_lt_of_le hg hb.size, fun j hj => below_cell hb hg (hc j hj)⟩
theorem heldC_own {w : World} {base e n q : Nat} {v : Value} (h : w.ownsRow base e 4 v n (ints (markR (n * 4) q))) : HeldC w v n q := by
  rcases h.2 with ⟨rfl, h0⟩ | ⟨g, cap, cur, rfl, hbg, hg, hc, hm, _⟩
  · exact ⟨none, 0, by rw [h0], by omega, .inl h0⟩
  · refine ⟨_, _, rfl, by omega, .inr ⟨g, 0, rfl, (Array.getElem?_eq_some_iff.1 hg).1, fun j hj => ?_⟩⟩
    rw [Nat.zero_add, h.cellAt j hj, ints_at _ j (by rw [markR_len]; exact hj), markR_at]
end Go.Proofs.YtcliiefedmiokaaGreat
/-
  l07Reach of the model: a search in the alternating graph.
-/
namespace Go.Proofs.YtcliiefedmiokaaGreat
open Go.RowKit
set_option maxRecDepth 100000

theorem Tryz.infoBool : (Tryz.prog.info? 4).map (fun i => (i.zero, i.size, i.bytes)) = some (some (.bool false), 1, 1) := by kernel_rfl
/-- Bools by number. -/
def bools (n : Nat) (b : Nat → Bool) : List Value := (List.range n).map fun i => .bool (b i)
theorem bools_len (n : Nat) (b : Nat → Bool) : (bools n b).length = n := by simp [bools]
theorem bools_at {n : Nat} {b : Nat → Bool} {i : Nat} (h : i < n) : (bools n b)[i]? = some (.bool (b i)) := by simp [bools, h]
theorem bools_none (n : Nat) : List.replicate n (Value.bool false) = bools n fun _ => false := by
  refine List.ext_getElem? fun i => ?_
  by_cases h : i < n
  · rw [bools_at h]; simp [h]
  · simp [bools, h]
theorem bools_set {n : Nat} (b : Nat → Bool) (k : Nat) (z : Bool) : (bools n b).set k (.bool z) = bools n fun i => if i = k then z else b i := by
  refine List.ext_getElem? fun i => ?_
  rw [List.getElem?_set]
  by_cases h : i < n
  · rw [bools_at (b := fun i => if i = k then z else b i) h, bools_len]
    by_cases e : k = i
    · subst e; simp [h]
    · rw [if_neg e, bools_at h, if_neg (Ne.symm e)]
  · have h1 : (bools n fun i => if i = k then z else b i)[i]? = none := by simp [bools, h]
    have h2 : (bools n b)[i]? = none := by simp [bools, h]
    rw [h1, h2, bools_len]
    by_cases e : k = i
    · subst e; simp [h]
    · rw [if_neg e]
/-- Marks of the call's own. -/
def Marks (w : World) (lo g n : Nat) (b : Nat → Bool) : Prop := w.ownsRow lo 4 1 (.slice (some ⟨g, 0, none⟩) n n) n (bools n b)
theorem marks_below {w w' : World} {lo g n : Nat} {b : Nat → Bool} (h : Marks w lo g n b) (hb : Below w.heap.size w w') : Marks w' lo g n b := own_below h hb
theorem marks_cell {w : World} {lo g n : Nat} {b : Nat → Bool} (h : Marks w lo g n b) {i : Nat} (hi : i < n) : w.cell? ⟨g, i, none⟩ = some (.bool (b i)) ∧ w.frozen? ⟨g, i, none⟩ = false := by
  refine ⟨?_, h.frozenAt i⟩
  rw [World.ownsRow.cellAt h i (by omega)]; exact bools_at hi
theorem marks_lt {w : World} {lo g n : Nat} {b : Nat → Bool} (h : Marks w lo g n b) : lo ≤ g ∧ g < w.heap.size := h.lt g rfl
theorem marks_set {w : World} {lo g n : Nat} {b : Nat → Bool} (h : Marks w lo g n b) (k : Nat) : Marks (w.setCell ⟨g, k, none⟩ (.bool true)) lo g n (fun i => if i = k then true else b i) ∧ w.grownBy (w.setCell ⟨g, k, none⟩ (.bool true)) (some g) := by
  obtain ⟨h1, h2⟩ := h.stored k (.bool true)
  rw [bools_set] at h1
  exact ⟨h1, h2⟩
/-- What stands through the search. -/
def RSt (w : World) (R C N : Nat) (f : Nat → Nat → Int) (s g : Nat) (q : List Nat) (a k : Nat) (qv : Value) (w' : World) : Prop :=
  Rb R C f s q a k ∧ Marks w' w.heap.size g N (fun v => decide (v ∈ q)) ∧ w'.ownsRow w.heap.size 3 1 qv q.length (ints (q.map fun v : Nat => (v : Int))) ∧ Below w.heap.size w w'
/-- What it answers. -/
def ReachRes (R C : Nat) (f : Nat → Nat → Int) (s : Nat) (w : World) (e : Ending) (w' : World) : Prop :=
  ∃ g b, e = .returned (.slice (some ⟨g, 0, none⟩) (R + C) (R + C)) ∧ Marks w' w.heap.size g (R + C) b ∧ Below w.heap.size w w' ∧ ∀ v, v < R + C → (b v = true ↔ Rch R C f s v)
theorem que_at {q : List Nat} {a : Nat} (h : a < q.length) : (ints (q.map fun v : Nat => (v : Int)))[a]? = some (.int .i64 ((q.getD a 0 : Nat) : Int)) := by
  simp [ints, h, List.getD_eq_getElem?_getD]
theorem mem_snoc (q : List Nat) (k : Nat) : (fun i => if i = k then true else decide (i ∈ q)) = fun v => decide (v ∈ q ++ [k]) := by
  funext i
  by_cases e : i = k
  · subst e; simp
  · simp [e]
set_option maxHeartbeats 8000000 in
theorem l07Reach_any (v : Value) (R C : Nat) (f : Nat → Nat → Int) (s : Nat) (w : World) (hin : InMat w v (mkM R C f)) (hI : Img R C f) (hs : s < R + C) :
    Calls Tryz.prog 81 #[v, .int .i64 s] w (ReachRes R C f s w) := by
  have hR := hI.r2; have hC := hI.c2; have hR1 := hI.r1; have hC1 := hI.c1
  have H := hide hI
  obtain ⟨g0, o0, c0, rfl, hg0, hcell⟩ := inMat_img hin (by omega) (by omega)
  have HC := hide hcell
  obtain ⟨g1, o1, k1, hr0, -, -⟩ := hcell 0 (by omega)
  rw [Nat.add_zero] at hr0
  have hlen := fun q a k (h : Rb R C f s q a k) => rb_len h
  have HLEN := hide hlen
  have HRB := hide (rb_start (f := f) hs)
  obtain ⟨N, hN⟩ : ∃ N, N = R + C := ⟨_, rfl⟩
  have HN := hide hN
  have hNI : (R : Int) + (C : Int) = (N : Int) := by omega
  have hsN : s < N := by omega
  have hsI : (s : Int) < (N : Int) := by omega
  have hN10 : N ≤ 10 := by omega
  clear hin hcell hI hlen hs hN
  go_enter Tryz.func81, Tryz.ntmps81
  go_wp2_with (at_make; refine wpList_new w.heap.size N (.bool false) rfl _ _ rfl Tryz.underlying97 Tryz.infoBool rfl (by decide) rfl rfl (by omega) (Nat.le_refl _) ?_; intro w1 ho1 hb1 hg1; rw [bools_none] at ho1; have hz1 := hb1.size; have hm1 : Marks (w1.alloc (.cells #[.int .i64 (s : Int)] 3)) w.heap.size w.heap.size N (fun _ => false) := own_below ho1 ((Below.refl _ _).alloc (Nat.le_refl _) _); obtain ⟨hc1, hf1⟩ := marks_cell hm1 hsN)
  obtain ⟨w2, hw2⟩ : ∃ w2, w2 = w1.alloc (.cells #[.int .i64 (s : Int)] 3) := ⟨_, rfl⟩
  have hq2 : w2.ownsRow w.heap.size 3 1 (.slice (some ⟨w1.heap.size, 0, none⟩) 1 1) 1 [.int .i64 (s : Int)] := by rw [hw2]; exact World.ownsRow_lit w1 #[.int .i64 (s : Int)] 1 hz1 (by decide) rfl
  have hb2 : Below w.heap.size w w2 := by rw [hw2]; exact hb1.alloc hz1 _
  rw [← hw2] at hm1 ⊢
  obtain ⟨hm3, hg3⟩ := marks_set hm1 s
  have HST : Hid (RSt w R C N f s w.heap.size [s] 0 0 (.slice (some ⟨w1.heap.size, 0, none⟩) 1 1) (w2.setCell ⟨w.heap.size, s, none⟩ (.bool true))) := hide ⟨HRB.out, by
    rw [show (fun v => decide (v ∈ [s])) = fun i => if i = s then true else false by funext i; by_cases e : i = s <;> simp [e]]; exact hm3, hq2.kept hg3 (own_types hq2 hm1 (by decide)), hb2.setCell (Nat.le_refl _) _⟩
  clear ho1 hb1 hg1 hm1 hc1 hf1 hw2 hq2 hb2 hm3 hg3 HRB hz1 hr0
  go_loopw [7, 8] (fun qv t w' => ∃ (q : List Nat) (a : Nat) (u : Value), t = .int .i64 a ∧ u = qv ∧ RSt w R C N f s w.heap.size q a 0 u w') (fun _ t _ => 10 - (intOf t).toNat)
  case atStart => exact ⟨[s], 0, _, rfl, rfl, HST.out⟩
  case round =>
    clear HST
    obtain ⟨q, a, qv, rfl, rfl, hst⟩ := hrel
    have HST := hide hst
    have hql := HLEN.out q a 0 hst.1
    have hal := hst.1.le
    obtain ⟨qa, qc, rfl⟩ := own_slice hst.2.2.1
    by_cases hlt : a < q.length
    · obtain ⟨gq, gc, e, -, hgq, -, -, hqc, -⟩ := ownA_some hst.2.2.1 (show 0 < q.length by omega)
      injection e with e1 e2 e3
      subst e1
      clear e2 e3
      have hqa := hqc a (by omega)
      rw [que_at hlt] at hqa
      have huN := rb_at hst.1 hlt
      obtain ⟨u, hu⟩ : ∃ u, u = q.getD a 0 := ⟨_, rfl⟩
      rw [← hu] at hqa huN
      have HU := hide hu
      rw [← HN.out] at huN
      obtain ⟨n, hn⟩ : ∃ n, n = q.length := ⟨_, rfl⟩
      have HNQ := hide hn
      rw [← hn] at HST hlt ⊢
      have hltI : (a : Int) < (n : Int) := by omega
      have ha10 : a < 10 := by omega
      clear hst hqc hu hn hql hal
      go_wp2
      go_loopw [7, 38] (fun qv t w' => ∃ (q : List Nat) (k : Nat) (y : Value), k ≤ N ∧ t = .int .i64 k ∧ y = qv ∧ a < q.length ∧ u = q.getD a 0 ∧ RSt w R C N f s w.heap.size q a k y w') (fun _ t _ => N - (intOf t).toNat)
      case atStart => exact ⟨q, 0, _, Nat.zero_le _, rfl, rfl, by rw [← HNQ.out]; exact hlt, HU.out, HST.out⟩
      case round =>
        clear HST HU HNQ hlt hltI hqa hgq
        obtain ⟨q1, k, y, hk, rfl, rfl, hlt, hu, hst⟩ := hrel
        have HST := hide hst; have HU := hide hu; have HLT := hide hlt
        have hql := HLEN.out q1 a k hst.1
        obtain ⟨qa, qc2, rfl⟩ := own_slice hst.2.2.1
        by_cases hkN : k < N
        · have hkI : (k : Int) < (N : Int) := by omega
          obtain ⟨hmc, hmf⟩ := marks_cell hst.2.1 hkN
          have hB := hst.2.2.2
          obtain ⟨nq, hnq⟩ : ∃ nq, nq = q1.length := ⟨_, rfl⟩
          have HNQ := hide hnq
          rw [← hnq] at HST hql ⊢
          clear hu hst hlt hnq
          by_cases hu2 : u < R
          · have hu2I : (u : Int) < (R : Int) := by omega
            by_cases hk2 : k < R
            · have hk2I : (k : Int) < (R : Int) := by omega
              have HE : Hid (edge R f u k = false) := hide (by unfold edge; simp only [Bool.or_eq_false_iff, Bool.and_eq_false_iff, decide_eq_false_iff_not]; omega)
              have HSK := hide (rb_skip HST.out.1 (by rw [← HU.out, HE.out]; exact (fun h => by cases h)))
              go_wp2
              go_roundw
              case rel => exact ⟨q1, k + 1, _, by omega, by go_num, rfl, HLT.out, HU.out, HSK.out, HST.out.2⟩
              case measure => simp [intOf]; omega
            · have hk2I : (R : Int) ≤ (k : Int) := by omega
              obtain ⟨x, hx⟩ : ∃ x, k = R + x := ⟨k - R, by omega⟩
              have hxC : x < C := by omega
              have hsub2 : (k : Int) - (R : Int) = (x : Int) := by omega
              have HE : Hid (edge R f u k = (f u x == 1)) := hide (by rw [hx]; exact edge_rc hu2)
              obtain ⟨gr, or', kr, hrow, hgr, hcl⟩ := HC.out u hu2
              have hz := below_cell hB hgr (hcl x hxC)
              have hrow' := below_cell hB hg0 hrow
              have HCL := hide (H.out.cell u x hu2 hxC)
              have hxI : (x : Int) < (C : Int) := by omega
              obtain ⟨z, hzz⟩ : ∃ z, z = f u x := ⟨_, rfl⟩
              rw [← hzz] at hz HCL HE
              clear hrow hcl hzz hx
              rcases HCL.out with rfl | rfl
              · have HSK := hide (rb_skip HST.out.1 (by rw [← HU.out, HE.out]; exact (fun h => by cases h)))
                go_wp2
                go_roundw
                case rel => exact ⟨q1, k + 1, _, by omega, by go_num, rfl, HLT.out, HU.out, HSK.out, HST.out.2⟩
                case measure => simp [intOf]; omega
              · by_cases hin : k ∈ q1
                · rw [decide_eq_true hin] at hmc
                  have HSK := hide (rb_skip HST.out.1 (by rw [← HU.out, HE.out]; exact (fun _ => hin)))
                  go_wp2
                  go_roundw
                  case rel => exact ⟨q1, k + 1, _, by omega, by go_num, rfl, HLT.out, HU.out, HSK.out, HST.out.2⟩
                  case measure => simp [intOf]; omega
                · rw [decide_eq_false hin] at hmc
                  have HPU := hide (rb_push HST.out.1 HLT.out (by rw [← HN.out]; exact hkN) (by rw [← HU.out, HE.out]; rfl) hin)
                  have HMS := hide (marks_set HST.out.2.1 k)
                  rw [mem_snoc] at HMS
                  have HQS := hide (HST.out.2.2.1.kept HMS.out.2 (own_types HST.out.2.2.1 HST.out.2.1 (by decide)))
                  have HBS := hide (HST.out.2.2.2.setCell (p := ⟨w.heap.size, k, none⟩) (Nat.le_refl _) (.bool true))
                  have HZ := hide hB.size
                  clear hB
                  go_wp2_with (at_builtin; refine wpList_push (base := w.heap.size) HQS.out (.int .i64 (k : Int)) (.int .i64 0) rfl (.tmp 88) (.tmp 90) rfl Tryz.underlying30 Tryz.infoInt rfl (by decide) rfl (by rw [show (wr.setCell ⟨w.heap.size, k, none⟩ (.bool true)).heap.size = wr.heap.size from by simp [World.setCell]]; rfl) rfl (by have := HNQ.out; omega) (by have := HZ.out; simp [World.setCell]; omega) ?_; intro v91 w9 ho9 hb9 hg9)
                  have HQ9 := hide ho9; have HM9 := hide (HMS.out.1.kept hg9 (own_types HMS.out.1 HQS.out (by decide))); have HB9 := hide (HBS.out.trans hb9)
                  obtain ⟨a91, c91, rfl⟩ := own_slice ho9
                  clear ho9 hb9 hg9
                  go_wp2
                  go_roundw
                  case rel => exact ⟨q1 ++ [k], k + 1, _, by omega, by go_num, rfl, by have := HLT.out; simp; omega, by rw [getD_snoc_lt _ _ _ HLT.out]; exact HU.out, HPU.out, HM9.out, by simpa [ints] using HQ9.out, HB9.out⟩
                  case measure => simp [intOf]; omega
          · have hu2I : (R : Int) ≤ (u : Int) := by omega
            by_cases hk2 : k < R
            · have hk2I : (k : Int) < (R : Int) := by omega
              obtain ⟨x, hx⟩ : ∃ x, u = R + x := ⟨u - R, by omega⟩
              have hxC : x < C := by omega
              have hsub2 : (u : Int) - (R : Int) = (x : Int) := by omega
              have HE : Hid (edge R f u k = (f k x == 0)) := hide (by rw [hx]; exact edge_cr hk2)
              obtain ⟨gr, or', kr, hrow, hgr, hcl⟩ := HC.out k hk2
              have hz := below_cell hB hgr (hcl x hxC)
              have hrow' := below_cell hB hg0 hrow
              have HCL := hide (H.out.cell k x hk2 hxC)
              have hxI : (x : Int) < (C : Int) := by omega
              obtain ⟨z, hzz⟩ : ∃ z, z = f k x := ⟨_, rfl⟩
              rw [← hzz] at hz HCL HE
              clear hrow hcl hzz hx
              rcases HCL.out with rfl | rfl
              · by_cases hin : k ∈ q1
                · rw [decide_eq_true hin] at hmc
                  have HSK := hide (rb_skip HST.out.1 (by rw [← HU.out, HE.out]; exact (fun _ => hin)))
                  go_wp2
                  go_roundw
                  case rel => exact ⟨q1, k + 1, _, by omega, by go_num, rfl, HLT.out, HU.out, HSK.out, HST.out.2⟩
                  case measure => simp [intOf]; omega
                · rw [decide_eq_false hin] at hmc
                  have HPU := hide (rb_push HST.out.1 HLT.out (by rw [← HN.out]; exact hkN) (by rw [← HU.out, HE.out]; rfl) hin)
                  have HMS := hide (marks_set HST.out.2.1 k)
                  rw [mem_snoc] at HMS
                  have HQS := hide (HST.out.2.2.1.kept HMS.out.2 (own_types HST.out.2.2.1 HST.out.2.1 (by decide)))
                  have HBS := hide (HST.out.2.2.2.setCell (p := ⟨w.heap.size, k, none⟩) (Nat.le_refl _) (.bool true))
                  have HZ := hide hB.size
                  clear hB
                  go_wp2_with (at_builtin; refine wpList_push (base := w.heap.size) HQS.out (.int .i64 (k : Int)) (.int .i64 0) rfl (.tmp 88) (.tmp 90) rfl Tryz.underlying30 Tryz.infoInt rfl (by decide) rfl (by rw [show (wr.setCell ⟨w.heap.size, k, none⟩ (.bool true)).heap.size = wr.heap.size from by simp [World.setCell]]; rfl) rfl (by have := HNQ.out; omega) (by have := HZ.out; simp [World.setCell]; omega) ?_; intro v91 w9 ho9 hb9 hg9)
                  have HQ9 := hide ho9; have HM9 := hide (HMS.out.1.kept hg9 (own_types HMS.out.1 HQS.out (by decide))); have HB9 := hide (HBS.out.trans hb9)
                  obtain ⟨a91, c91, rfl⟩ := own_slice ho9
                  clear ho9 hb9 hg9
                  go_wp2
                  go_roundw
                  case rel => exact ⟨q1 ++ [k], k + 1, _, by omega, by go_num, rfl, by have := HLT.out; simp; omega, by rw [getD_snoc_lt _ _ _ HLT.out]; exact HU.out, HPU.out, HM9.out, by simpa [ints] using HQ9.out, HB9.out⟩
                  case measure => simp [intOf]; omega
              · have HSK := hide (rb_skip HST.out.1 (by rw [← HU.out, HE.out]; exact (fun h => by cases h)))
                go_wp2
                go_roundw
                case rel => exact ⟨q1, k + 1, _, by omega, by go_num, rfl, HLT.out, HU.out, HSK.out, HST.out.2⟩
                case measure => simp [intOf]; omega
            · have hk2I : (R : Int) ≤ (k : Int) := by omega
              have HE : Hid (edge R f u k = false) := hide (by unfold edge; simp only [Bool.or_eq_false_iff, Bool.and_eq_false_iff, decide_eq_false_iff_not]; omega)
              have HSK := hide (rb_skip HST.out.1 (by rw [← HU.out, HE.out]; exact (fun h => by cases h)))
              go_wp2
              go_roundw
              case rel => exact ⟨q1, k + 1, _, by omega, by go_num, rfl, HLT.out, HU.out, HSK.out, HST.out.2⟩
              case measure => simp [intOf]; omega
        · obtain rfl : k = N := by omega
          have HNX := hide (rb_next (by have := hst.1; rw [HN.out] at this; exact this) hlt)
          clear hu hst
          go_wp2
          go_roundw
          case rel => exact ⟨q1, a + 1, _, by go_num, rfl, HNX.out, HST.out.2⟩
          case measure => simp [intOf]; omega
    · obtain rfl : a = q.length := by omega
      obtain ⟨n, hn⟩ : ∃ n, n = q.length := ⟨_, rfl⟩
      have HNQ := hide hn
      rw [← hn] at HST ⊢
      clear hst hn hql hal hlt
      go_wp2
      go_ret
      exact ⟨w.heap.size, fun v => decide (v ∈ q), by rw [HN.out]; rfl, by rw [← HN.out]; exact HST.out.2.1, HST.out.2.2.2, fun v hv => by
        rw [decide_eq_true_eq, rb_end (by have := HST.out.1; rw [HNQ.out] at this; exact this)]
        exact ⟨fun h => h.2, fun h => ⟨hv, h⟩⟩⟩

end Go.Proofs.YtcliiefedmiokaaGreat
/-
  TransposeOf, MirrorOf, InvertOf of the model.
-/
namespace Go.Proofs.YtcliiefedmiokaaGreat
open Go.RowKit
set_option linter.unusedVariables false

def upTr (C : Nat) (f : Nat → Nat → Int) (y x a b : Nat) : Int := if b < y ∨ (b = y ∧ a < x) then f b a else 0
theorem upTr_zero (R C : Nat) (f : Nat → Nat → Int) : mkM C R zeroM = mkM C R (upTr C f 0 0) := mkM_congr fun a b ha hb => by rw [upTr, if_neg (by omega)]; rfl
theorem upTr_set (R C : Nat) (f : Nat → Nat → Int) (y x : Nat) (hy : y < R) (hx : x < C) (z : Int) (hz : f y x = z) :
    mkM C R (fun a b => if a = x ∧ b = y then z else upTr C f y x a b) = mkM C R (upTr C f y (x + 1)) := mkM_congr fun a b ha hb => by
  simp only [upTr]
  by_cases e : a = x ∧ b = y
  · obtain ⟨rfl, rfl⟩ := e
    rw [if_pos ⟨rfl, rfl⟩, if_pos (by omega), ← hz]
  · rw [if_neg e]
    by_cases hl : b < y ∨ (b = y ∧ a < x)
    · rw [if_pos hl, if_pos (by omega)]
    · rw [if_neg hl, if_neg (by omega)]
theorem upTr_next (R C : Nat) (f : Nat → Nat → Int) (y : Nat) (hy : y < R) : mkM C R (upTr C f y C) = mkM C R (upTr C f (y + 1) 0) := mkM_congr fun a b ha hb => by
  simp only [upTr]
  by_cases hl : b < y + 1
  · rw [if_pos (by omega), if_pos (by omega)]
  · rw [if_neg (by omega), if_neg (by omega)]
theorem upTr_all (R C : Nat) (f : Nat → Nat → Int) : mkM C R (upTr C f R 0) = mkM C R (trM f) := mkM_congr fun a b ha hb => by
  rw [upTr, if_pos (by omega)]; rfl
def upMi (C : Nat) (f : Nat → Nat → Int) (y x a b : Nat) : Int := if a < y ∨ (a = y ∧ C - 1 - b < x) then f a (C - 1 - b) else 0
theorem upMi_zero (R C : Nat) (f : Nat → Nat → Int) : mkM R C zeroM = mkM R C (upMi C f 0 0) := mkM_congr fun a b ha hb => by rw [upMi, if_neg (by omega)]; rfl
theorem upMi_set (R C : Nat) (f : Nat → Nat → Int) (y x : Nat) (hy : y < R) (hx : x < C) (z : Int) (hz : f y x = z) :
    mkM R C (fun a b => if a = y ∧ b = C - 1 - x then z else upMi C f y x a b) = mkM R C (upMi C f y (x + 1)) := mkM_congr fun a b ha hb => by
  simp only [upMi]
  by_cases e : a = y ∧ b = C - 1 - x
  · obtain ⟨rfl, rfl⟩ := e
    rw [if_pos ⟨rfl, rfl⟩, if_pos (by omega), ← hz]; rw [show C - 1 - (C - 1 - x) = x by omega]
  · rw [if_neg e]
    by_cases hl : a < y ∨ (a = y ∧ C - 1 - b < x)
    · rw [if_pos hl, if_pos (by omega)]
    · rw [if_neg hl, if_neg (by omega)]
theorem upMi_next (R C : Nat) (f : Nat → Nat → Int) (y : Nat) (hy : y < R) : mkM R C (upMi C f y C) = mkM R C (upMi C f (y + 1) 0) := mkM_congr fun a b ha hb => by
  simp only [upMi]
  by_cases hl : a < y + 1
  · rw [if_pos (by omega), if_pos (by omega)]
  · rw [if_neg (by omega), if_neg (by omega)]
theorem upMi_all (R C : Nat) (f : Nat → Nat → Int) : mkM R C (upMi C f R 0) = mkM R C (mirM C f) := mkM_congr fun a b ha hb => by
  rw [upMi, if_pos (by omega)]; rfl
def upIn (C : Nat) (f : Nat → Nat → Int) (y x a b : Nat) : Int := if a < y ∨ (a = y ∧ b < x) then 1 - f a b else 0
theorem upIn_zero (R C : Nat) (f : Nat → Nat → Int) : mkM R C zeroM = mkM R C (upIn C f 0 0) := mkM_congr fun a b ha hb => by rw [upIn, if_neg (by omega)]; rfl
theorem upIn_set (R C : Nat) (f : Nat → Nat → Int) (y x : Nat) (hy : y < R) (hx : x < C) (z : Int) (hz : 1 - f y x = z) :
    mkM R C (fun a b => if a = y ∧ b = x then z else upIn C f y x a b) = mkM R C (upIn C f y (x + 1)) := mkM_congr fun a b ha hb => by
  simp only [upIn]
  by_cases e : a = y ∧ b = x
  · obtain ⟨rfl, rfl⟩ := e
    rw [if_pos ⟨rfl, rfl⟩, if_pos (by omega), ← hz]
  · rw [if_neg e]
    by_cases hl : a < y ∨ (a = y ∧ b < x)
    · rw [if_pos hl, if_pos (by omega)]
    · rw [if_neg hl, if_neg (by omega)]
theorem upIn_next (R C : Nat) (f : Nat → Nat → Int) (y : Nat) (hy : y < R) : mkM R C (upIn C f y C) = mkM R C (upIn C f (y + 1) 0) := mkM_congr fun a b ha hb => by
  simp only [upIn]
  by_cases hl : a < y + 1
  · rw [if_pos (by omega), if_pos (by omega)]
  · rw [if_neg (by omega), if_neg (by omega)]
theorem upIn_all (R C : Nat) (f : Nat → Nat → Int) : mkM R C (upIn C f R 0) = mkM R C (invM f) := mkM_congr fun a b ha hb => by
  rw [upIn, if_pos (by omega)]; rfl
end Go.Proofs.YtcliiefedmiokaaGreat
/-
  ColSums of the model.
-/
namespace Go.Proofs.YtcliiefedmiokaaGreat
open Go.RowKit

end Go.Proofs.YtcliiefedmiokaaGreat
/-
  ColSums of both.
-/
namespace Go.Proofs.YtcliiefedmiokaaGreat
open Go.RowKit

theorem implColSums_no (v : Value) (m : List (List Int)) (w : World) (hin : InMat w v m) (h : okB m = false) :
    Calls Tryz.prog 14 #[v] w (IntsRes [] w) := by
  have HI := hide hin; have H := hide h
  clear hin h
  go_enter Tryz.func14, Tryz.ntmps14
  go_wp2_with fail
  refine (implTransposeOf_no v m _ HI.out H.out).mono ?_
  rintro e w1 ⟨u, rfl, ho, hb⟩
  have HM := hide (inMat_own ho); have HB := hide hb
  clear ho hb
  go_wp2_with fail
  refine (implRowSums_no u [] _ HM.out (by decide)).mono ?_
  rintro e w2 ⟨u2, rfl, ho, hb⟩
  have HO := hide (own_base ho HB.out.size); have HB2 := hide (HB.out.trans (hb.mono HB.out.size))
  clear ho hb
  go_wp2
  go_ret
  exact ⟨_, rfl, HO.out, HB2.out⟩
theorem implColSums_yes (v : Value) (R C : Nat) (f : Nat → Nat → Int) (w : World) (hin : InMat w v (mkM R C f)) (hI : Img R C f) :
    Calls Tryz.prog 14 #[v] w (IntsRes (rowsL C R (trM f)) w) := by
  have HI := hide hin; have H := hide hI
  clear hin hI
  go_enter Tryz.func14, Tryz.ntmps14
  go_wp2_with fail
  refine (implTransposeOf_yes v R C f _ HI.out H.out).mono ?_
  rintro e w1 ⟨u, rfl, ho, hb⟩
  have HM := hide (inMat_own ho); have HB := hide hb
  clear ho hb
  go_wp2_with fail
  refine (implRowSums_yes u C R (trM f) _ HM.out (img_tr H.out)).mono ?_
  rintro e w2 ⟨u2, rfl, ho, hb⟩
  have HO := hide (own_base ho HB.out.size); have HB2 := hide (HB.out.trans (hb.mono HB.out.size))
  clear ho hb
  go_wp2
  go_ret
  exact ⟨_, rfl, HO.out, HB2.out⟩

end Go.Proofs.YtcliiefedmiokaaGreat
/-
  Lists of integers held against one another: slices.Equal.
-/
namespace Go.Proofs.YtcliiefedmiokaaGreat
open Go.RowKit

theorem sameRow_no {r s : List Int} (h : r.length ≠ s.length) : (r == s) = false := by
  rw [beq_eq_false_iff_ne]; intro e; exact h (by rw [e])
theorem sameRow_no2 {r s : List Int} (k : Nat) (hr : k < r.length) (hs : k < s.length) (h : r[k] ≠ s[k]) : (r == s) = false := by
  rw [beq_eq_false_iff_ne]; intro e; subst e; exact h rfl
theorem sameRow_yes {r s : List Int} (h : r.length = s.length) (h2 : ∀ k, (hr : k < r.length) → (hs : k < s.length) → r[k] = s[k]) : (r == s) = true := by
  rw [beq_iff_eq]; exact List.ext_getElem h h2
theorem sameMat_no {r s : List (List Int)} (h : r.length ≠ s.length) : (r == s) = false := by
  rw [beq_eq_false_iff_ne]; intro e; exact h (by rw [e])
theorem sameMat_no2 {r s : List (List Int)} (k : Nat) (hr : k < r.length) (hs : k < s.length) (h : (r[k] == s[k]) = false) : (r == s) = false := by
  rw [beq_eq_false_iff_ne] at h ⊢; intro e; subst e; exact h rfl
theorem sameMat_yes {r s : List (List Int)} (h : r.length = s.length) (h2 : ∀ k, (hr : k < r.length) → (hs : k < s.length) → (r[k] == s[k]) = true) : (r == s) = true := by
  rw [beq_iff_eq]; exact List.ext_getElem h fun k h1 h2' => by simpa using h2 k h1 h2'

end Go.Proofs.YtcliiefedmiokaaGreat
/-
  SameImage, of the model and of the program, and the exact law, walked.
-/
namespace Go.Proofs.YtcliiefedmiokaaGreat
open Go.RowKit

end Go.Proofs.YtcliiefedmiokaaGreat
/-
  PutCell and DistanceOf of the program.
-/
namespace Go.Proofs.YtcliiefedmiokaaGreat
open Go.RowKit

/-- The whole variable is read, behind a guard that says yes. -/
theorem wpList_loadVecG {P : Program} {ops : Array Oper} {rest : List Oper} {o : Oper} {a : Act} {Q : Exit → Act → World → Prop} {W : World} {g n m : Nat} {T T' e : TypeId} {F : Nat → Int} (hb : Blk W g T n F) (d : Tmp) (_hd : o.dst = some d)
    (hw : Region.wanted o (yielded ops a.tmps) = true) (x : Operand) (ho : o.op = .load T' x) (hx : a.eval x = .pointer (some ⟨g, 0, none⟩)) (hu : P.underlying T' = some (.array m e)) (hi : (P.info? T').map (·.size) = some n)
    (h : wpList P ops Q rest (a.put o.dst (.agg (vec n F))) W) : wpList P ops Q (o :: rest) a W :=
  BigFrame.wpList_want hw fun K hK => wp_load_row T' x ho g hx T (vec n F) (0, 0) _ hb hu rfl (by rw [hi, vec_size]) (hK _ _ h)

/-- The image with another cell. -/
def putM (f : Nat → Nat → Int) (a b : Nat) (c : Int) (y x : Nat) : Int := if y = a ∧ x = b then c else f y x
theorem img_put {R C : Nat} {f : Nat → Nat → Int} (h : Img R C f) (a b : Nat) {c : Int} (hc : c = 0 ∨ c = 1) : Img R C (putM f a b c) := ⟨h.r1, h.r2, h.c1, h.c2, fun y x hy hx => by
  unfold putM; split
  · exact hc
  · exact h.cell y x hy hx⟩
theorem imgF_put (R C : Nat) (f : Nat → Nat → Int) (a b : Nat) (c : Int) (ha : a < R) (hb : b < C) (hC : C ≤ 5) : ∀ i, i < 25 → (if i = 5 * a + b then c else imgF R C f i) = imgF R C (putM f a b c) i := fun i hi => by
  simp only [imgF, putM]
  by_cases e : i = 5 * a + b
  · subst e
    rw [if_pos rfl, if_pos (by omega), if_pos (by omega)]
  · rw [if_neg e]
    by_cases h : i / 5 < R ∧ i % 5 < C
    · rw [if_pos h, if_pos h, if_neg (by omega)]
    · rw [if_neg h, if_neg h]

end Go.Proofs.YtcliiefedmiokaaGreat
/-
  DistanceOf of the program.
-/
namespace Go.Proofs.YtcliiefedmiokaaGreat
open Go.RowKit

theorem imageOf_any (v : Value) (m : List (List Int)) (w : World) (hin : InMat w v m) :
    Calls Tryz.prog 68 #[v] w fun e w' => (∃ F, e = .returned (.tuple #[.agg (vec 25 F), .bool (okB m)])) ∧ Below w.heap.size w w' := by
  cases h : okB m with
  | false =>
    refine (imageOf_no v m w hin h).mono ?_
    rintro e w' ⟨rfl, hb⟩
    exact ⟨⟨_, rfl⟩, hb⟩
  | true =>
    obtain ⟨R, C, f, rfl, hI⟩ := ok_img h
    refine (imageOf_yes v R C f w hin hI).mono ?_
    rintro e w' ⟨rfl, hb⟩
    exact ⟨⟨_, rfl⟩, hb⟩
theorem imgF_none {R C : Nat} {f : Nat → Nat → Int} (h : Img R C f) (i : Nat) : imgF R C f i = -1 ↔ ¬ (i / 5 < R ∧ i % 5 < C) := by
  unfold imgF
  by_cases hi : i / 5 < R ∧ i % 5 < C
  · rw [if_pos hi]
    constructor
    · intro e; rcases h.cell _ _ hi.1 hi.2 with e' | e' <;> rw [e'] at e <;> cases e
    · intro e; exact absurd hi e
  · rw [if_neg hi]; exact ⟨fun _ => hi, fun _ => rfl⟩
theorem same_sizes {R C R' C' : Nat} {f g : Nat → Nat → Int} (h : Img R C f) (h' : Img R' C' g) : decide (R = R' ∧ C = C') = true ↔ ∀ i, i < 25 → (imgF R C f i = -1 ↔ imgF R' C' g i = -1) := by
  have a1 := h.r1; have a2 := h.r2; have a3 := h.c1; have a4 := h.c2
  have b1 := h'.r1; have b2 := h'.r2; have b3 := h'.c1; have b4 := h'.c2
  rw [decide_eq_true_eq]
  constructor
  · rintro ⟨rfl, rfl⟩ i hi
    rw [imgF_none h, imgF_none h']
  · intro hall
    have hq : ∀ y x, y < 5 → x < 5 → ((y < R ∧ x < C) ↔ (y < R' ∧ x < C')) := fun y x hy hx => by
      have := hall (5 * y + x) (by omega)
      rw [imgF_none h, imgF_none h', show (5 * y + x) / 5 = y by omega, show (5 * y + x) % 5 = x by omega] at this
      exact ⟨fun h1 => Decidable.byContradiction fun n => (this.2 n) h1, fun h1 => Decidable.byContradiction fun n => (this.1 n) h1⟩
    constructor
    · by_cases l : R < R'
      · have := (hq R 0 (by omega) (by omega)).2 ⟨l, by omega⟩; omega
      · by_cases l2 : R' < R
        · have := (hq R' 0 (by omega) (by omega)).1 ⟨l2, by omega⟩; omega
        · omega
    · by_cases l : C < C'
      · have := (hq 0 C (by omega) (by omega)).2 ⟨by omega, l⟩; omega
      · by_cases l2 : C' < C
        · have := (hq 0 C' (by omega) (by omega)).1 ⟨by omega, l2⟩; omega
        · omega
theorem distance_img (R C R' C' : Nat) (f g : Nat → Nat → Int) (w : World) (h : Img R C f) (h' : Img R' C' g) (b : Bool) (hb : decide (R = R' ∧ C = C') = b) :
    Calls Tryz.prog 69 #[.agg (vec 25 (imgF R C f)), .agg (vec 25 (imgF R' C' g))] w (DistRes b (cnt (fun i => imgF R C f i != imgF R' C' g i) 25) w) := by
  subst hb; exact distance_any _ _ _ _ (same_sizes h h')

set_option maxHeartbeats 1000000 in
theorem implDistanceOf_no (v u : Value) (m k : List (List Int)) (w : World) (hin : InMat w v m) (hin2 : InMat w u k) (h : (okB m && okB k) = false) :
    Calls Tryz.prog 25 #[v, u] w fun e w' => e = .returned (.int .i64 (-1)) ∧ Below w.heap.size w w' := by
  have HI := hide hin; have HI2 := hide hin2
  clear hin hin2
  obtain ⟨p, hp⟩ : ∃ p, p = okB m := ⟨_, rfl⟩
  obtain ⟨q, hq⟩ : ∃ q, q = okB k := ⟨_, rfl⟩
  rw [← hp, ← hq] at h
  have HP := hide hp.symm; have HQ := hide hq.symm
  clear hp hq
  go_enter Tryz.func25, Tryz.ntmps25
  go_wp2_with fail
  refine (imageOf_any v m _ HI.out).mono ?_
  rw [HP.out]
  rintro e w1 ⟨⟨F, rfl⟩, b1⟩
  have B1 := hide b1
  clear b1
  go_wp2_with (first | (with_reducible refine wpList_allocVec 25 5 rfl rfl rfl Tryz.zeroImg ?_; intro waa haa baa saa) | (with_reducible refine wpList_storeVec haa rfl (.tmp 5) (.tmp 14) rfl rfl rfl Tryz.sizeImg ?_; intro wba hba gba sba) | (with_reducible refine wpList_loadVec hba 99 rfl rfl _ rfl rfl Tryz.underlying84 Tryz.sizeImg ?_))
  have B2 := hide (B1.out.trans ((baa.mono B1.out.size).trans (grown_below gba (fun k hk => by cases hk; exact B1.out.size) (by have := B1.out.size; omega))))
  clear haa baa saa hba gba sba
  refine (imageOf_any u k _ (inMat_below HI2.out B2.out)).mono ?_
  rw [HQ.out]
  rintro e w3 ⟨⟨G, rfl⟩, b3⟩
  have B3 := hide (B2.out.trans (b3.mono B2.out.size))
  clear b3
  cases p with
  | false =>
    go_wp2_with (first | (with_reducible refine wpList_allocVec 25 7 rfl rfl rfl Tryz.zeroImg ?_; intro wab hab bab sab) | (with_reducible refine wpList_storeVec hab rfl (.tmp 7) (.tmp 19) rfl rfl rfl Tryz.sizeImg ?_; intro wbb hbb gbb sbb) | (with_reducible refine wpList_loadVec hbb 29 rfl rfl _ rfl rfl Tryz.underlying84 Tryz.sizeImg ?_))
    go_ret
    exact ⟨rfl, B3.out.trans ((bab.mono B3.out.size).trans (grown_below gbb (fun k hk => by cases hk; exact B3.out.size) (by have := B3.out.size; omega)))⟩
  | true =>
    obtain rfl : q = false := by simpa using h
    go_wp2_with (first | (with_reducible refine wpList_allocVec 25 7 rfl rfl rfl Tryz.zeroImg ?_; intro wab hab bab sab) | (with_reducible refine wpList_storeVec hab rfl (.tmp 7) (.tmp 19) rfl rfl rfl Tryz.sizeImg ?_; intro wbb hbb gbb sbb) | (with_reducible refine wpList_loadVec hbb 29 rfl rfl _ rfl rfl Tryz.underlying84 Tryz.sizeImg ?_))
    go_ret
    exact ⟨rfl, B3.out.trans ((bab.mono B3.out.size).trans (grown_below gbb (fun k hk => by cases hk; exact B3.out.size) (by have := B3.out.size; omega)))⟩

set_option maxHeartbeats 1000000 in
theorem implDistanceOf_yes (v u : Value) (R C R' C' : Nat) (f g : Nat → Nat → Int) (w : World) (hin : InMat w v (mkM R C f)) (hin2 : InMat w u (mkM R' C' g)) (h : Img R C f) (h' : Img R' C' g) :
    Calls Tryz.prog 25 #[v, u] w fun e w' => e = .returned (.int .i64 (if R = R' ∧ C = C' then (cnt (fun i => imgF R C f i != imgF R' C' g i) 25 : Nat) else -1)) ∧ Below w.heap.size w w' := by
  have HI := hide hin; have HI2 := hide hin2; have H := hide h; have H' := hide h'
  clear hin hin2 h h'
  obtain ⟨b, hb⟩ : ∃ b : Bool, decide (R = R' ∧ C = C') = b := ⟨_, rfl⟩
  have HB := hide hb
  have HE : Hid ((if R = R' ∧ C = C' then ((cnt (fun i => imgF R C f i != imgF R' C' g i) 25 : Nat) : Int) else -1) = if b then ((cnt (fun i => imgF R C f i != imgF R' C' g i) 25 : Nat) : Int) else -1) := hide (by
    subst hb
    by_cases e : R = R' ∧ C = C'
    · rw [if_pos e, decide_eq_true e]; rfl
    · rw [if_neg e, decide_eq_false e]; rfl)
  rw [HE.out]
  clear hb HE
  obtain ⟨n, hn⟩ : ∃ n, n = cnt (fun i => imgF R C f i != imgF R' C' g i) 25 := ⟨_, rfl⟩
  have HN := hide hn.symm
  rw [← hn]
  clear hn
  go_enter Tryz.func25, Tryz.ntmps25
  go_wp2_with fail
  refine (imageOf_yes v R C f _ HI.out H.out).mono ?_
  rintro e w1 ⟨rfl, b1⟩
  have B1 := hide b1
  clear b1
  go_wp2_with (first | (with_reducible refine wpList_allocVec 25 5 rfl rfl rfl Tryz.zeroImg ?_; intro waa haa baa saa) | (with_reducible refine wpList_storeVec haa rfl (.tmp 5) (.tmp 14) rfl rfl rfl Tryz.sizeImg ?_; intro wba hba gba sba) | (with_reducible refine wpList_loadVec hba 99 rfl rfl _ rfl rfl Tryz.underlying84 Tryz.sizeImg ?_))
  have B2 := hide (B1.out.trans ((baa.mono B1.out.size).trans (grown_below gba (fun k hk => by cases hk; exact B1.out.size) (by have := B1.out.size; omega))))
  have HA := hide hba
  clear haa baa saa hba gba sba
  refine (imageOf_yes u R' C' g _ (inMat_below HI2.out B2.out) H'.out).mono ?_
  rintro e w3 ⟨rfl, b3⟩
  have B3 := hide (B2.out.trans (b3.mono B2.out.size))
  have HA := hide (blk_below HA.out b3)
  clear b3
  go_wp2_with (first | (with_reducible refine wpList_allocVec 25 7 rfl rfl rfl Tryz.zeroImg ?_; intro wab hab bab sab) | (with_reducible refine wpList_storeVec hab rfl (.tmp 7) (.tmp 19) rfl rfl rfl Tryz.sizeImg ?_; intro wbb hbb gbb sbb) | (with_reducible refine wpList_loadVec hbb 29 rfl rfl _ rfl rfl Tryz.underlying84 Tryz.sizeImg ?_) | (with_reducible refine wpList_loadVec (blk_grown (blk_below HA.out bab) gbb (by have := blk_lt HA.out; simp; omega)) 28 rfl rfl _ rfl rfl Tryz.underlying84 Tryz.sizeImg ?_))
  have B4 := hide (B3.out.trans ((bab.mono B3.out.size).trans (grown_below gbb (fun k hk => by cases hk; exact B3.out.size) (by have := B3.out.size; omega))))
  clear hab bab sab hbb gbb sbb HA
  refine (distance_img R C R' C' f g _ H.out H'.out b HB.out).mono ?_
  rw [HN.out]
  rintro e w5 ⟨rfl, b5⟩
  have B5 := hide (B4.out.trans (b5.mono B4.out.size))
  clear b5
  cases b with
  | false =>
    go_wp2
    go_ret
    exact ⟨rfl, B5.out⟩
  | true =>
    go_wp2
    go_ret
    exact ⟨rfl, B5.out⟩
end Go.Proofs.YtcliiefedmiokaaGreat
/-
  DistanceOf of the model.
-/
namespace Go.Proofs.YtcliiefedmiokaaGreat
open Go.RowKit

theorem ok_quiet (v : Value) (m : List (List Int)) (w : World) (n : Nat) (b : Bool) (hin : InMat w v m) (hb : okB m = b) :
    Calls Tryz.prog 34 #[v] (w.drewN n) fun e w'' => e = .returned (.bool b) ∧ ∃ k, w'' = w.drewN k := by
  refine Calls.quiet_of_same ((specImageOk_any v m (w.drewN n) hin).mono ?_)
  rintro e w' ⟨rfl, rfl⟩
  exact ⟨by rw [hb], rfl⟩

end Go.Proofs.YtcliiefedmiokaaGreat
/-
  SameSums of both.
-/
namespace Go.Proofs.YtcliiefedmiokaaGreat
open Go.RowKit Go.Maps

/-- The rows' and the columns' directions. -/
def rc : List (Int × Int) := [(1, 0), (0, 1)]
theorem lines_row (R C : Nat) (f : Nat → Nat → Int) (n : Int) : linesC C f (R * C) ⟨1, 0, n⟩ rc = if 0 ≤ n ∧ n < R then ((rs C f n.toNat : Nat) : Int) else 0 := by
  have h : lineC C f (1, 0) (R * C) ⟨1, 0, n⟩ = (cnt (onL C f (1, 0) n) (C * R) : Nat) := by rw [Nat.mul_comm R C]; exact if_pos ⟨rfl, rfl⟩
  have h2 : lineC C f (0, 1) (R * C) ⟨1, 0, n⟩ = 0 := if_neg (fun h => by cases h.1)
  rw [rc, linesC, linesC, linesC, h, h2, cnt_rows]
  split <;> simp
theorem lines_col (R C : Nat) (f : Nat → Nat → Int) (n : Int) : linesC C f (R * C) ⟨0, 1, n⟩ rc = if 0 ≤ n ∧ n < C then ((cs R f (C - 1 - n.toNat) : Nat) : Int) else 0 := by
  have h : lineC C f (0, 1) (R * C) ⟨0, 1, n⟩ = (cnt (onL C f (0, 1) n) (C * R) : Nat) := by rw [Nat.mul_comm R C]; exact if_pos ⟨rfl, rfl⟩
  have h2 : lineC C f (1, 0) (R * C) ⟨0, 1, n⟩ = 0 := if_neg (fun h => by cases h.1)
  rw [rc, linesC, linesC, linesC, h, h2, cnt_cols]
  split <;> simp
theorem lines_none (C : Nat) (f : Nat → Nat → Int) (N : Nat) (k : Key) (h1 : ¬ (k.x = 1 ∧ k.y = 0)) (h2 : ¬ (k.x = 0 ∧ k.y = 1)) : linesC C f N k rc = 0 := by
  simp only [rc, linesC, lineC]
  rw [if_neg h1, if_neg h2]; rfl
theorem rowsL_eq {R C : Nat} {f g : Nat → Nat → Int} : (rowsL R C f == rowsL R C g) = true ↔ ∀ y, y < R → rs C f y = rs C g y := by
  rw [beq_iff_eq]
  constructor
  · intro h y hy
    have h1 := congrArg (fun l => l[y]?) h
    simp only [rowsL, rowF, List.getElem?_map, List.getElem?_range hy, Option.map_some, Option.some.injEq] at h1
    omega
  · intro h
    exact rowF_congr fun y hy => by rw [h y hy]
def sameL (R C : Nat) (f g : Nat → Nat → Int) : Bool := (rowsL R C f == rowsL R C g) && (rowsL C R (trM f) == rowsL C R (trM g))
theorem same_lines {R C : Nat} {f g : Nat → Nat → Int} (hR : R ≤ 5) (hC : C ≤ 5) : (∀ k : Key, k.wf → thereK (fun k => linesC C f (R * C) k rc - linesC C g (R * C) k rc) k = false) ↔ sameL R C f g = true := by
  have hcs : ∀ (f : Nat → Nat → Int) x, rs R (trM f) x = cs R f x := fun _ _ => rfl
  unfold sameL
  rw [Bool.and_eq_true, rowsL_eq, rowsL_eq]
  constructor
  · intro h
    have h0 : ∀ k : Key, k.wf → linesC C f (R * C) k rc = linesC C g (R * C) k rc := fun k hk => by
      have := h k hk
      simp only [thereK, decide_eq_false_iff_not, ne_eq, Decidable.not_not] at this
      omega
    refine ⟨fun y hy => ?_, fun x hx => ?_⟩
    · have := h0 ⟨1, 0, y⟩ (key_wf (by decide) (by decide) (WalkArith.wf_i64 (by omega)))
      rw [lines_row, lines_row, if_pos (by omega), if_pos (by omega)] at this
      have e : ((y : Int)).toNat = y := by omega
      rw [e] at this; omega
    · rw [hcs, hcs]
      have := h0 ⟨0, 1, (C - 1 - x : Nat)⟩ (key_wf (by decide) (by decide) (WalkArith.wf_i64 (by omega)))
      rw [lines_col, lines_col, if_pos (by omega), if_pos (by omega)] at this
      have e : C - 1 - (((C - 1 - x : Nat) : Int)).toNat = x := by omega
      rw [e] at this; omega
  · rintro ⟨h1, h2⟩ k -
    simp only [thereK, decide_eq_false_iff_not, ne_eq, Decidable.not_not]
    obtain ⟨kx, ky, n⟩ := k
    by_cases e1 : kx = 1 ∧ ky = 0
    · obtain ⟨rfl, rfl⟩ := e1
      rw [lines_row, lines_row]
      split
      · rename_i hn; rw [h1 n.toNat (by omega)]; omega
      · rfl
    · by_cases e2 : kx = 0 ∧ ky = 1
      · obtain ⟨rfl, rfl⟩ := e2
        rw [lines_col, lines_col]
        split
        · rename_i hn
          have := h2 (C - 1 - n.toNat) (by omega)
          rw [hcs, hcs] at this
          rw [this]; omega
        · rfl
      · rw [lines_none C f (R * C) _ e1 e2, lines_none C g (R * C) _ e1 e2]; rfl

theorem iok_quiet (v : Value) (m : List (List Int)) (w : World) (n : Nat) (b : Bool) (hin : InMat w v m) (hb : okB m = b) :
    Calls Tryz.prog 37 #[v] (w.drewN n) fun e w'' => e = .returned (.bool b) ∧ ∃ k, w'' = w.drewN k := by
  refine Calls.quiet_of_same ((implImageOk_any v m (w.drewN n) hin).mono ?_)
  rintro e w' ⟨rfl, rfl⟩
  exact ⟨by rw [hb], rfl⟩
set_option maxRecDepth 100000 in
set_option maxHeartbeats 1000000 in
theorem implSameSums_no (v u : Value) (m l : List (List Int)) (w : World) (hin : InMat w v m) (hin2 : InMat w u l) (h : (okB m && okB l) = false) :
    Calls Tryz.prog 17 #[v, u] w fun e w' => e = .returned (.bool false) ∧ Below w.heap.size w w' := by
  have HI := hide hin; have HJ := hide hin2
  clear hin hin2
  cases h1 : okB m with
  | false =>
    have H1 := hide h1
    clear h h1
    go_enter Tryz.func17, Tryz.ntmps17
    go_wp2
    go_quiet ((go_at_call 37; exact iok_quiet _ m _ _ false HI.out H1.out))
    go_wp2
    go_ret
    exact ⟨rfl, below_draws (Below.refl _ _) _⟩
  | true =>
    have h2 : okB l = false := by rw [h1] at h; simpa using h
    have H1 := hide h1; have H2 := hide h2
    clear h h1 h2
    go_enter Tryz.func17, Tryz.ntmps17
    go_wp2
    go_quiet ((go_at_call 37; (first | with_reducible exact iok_quiet v m _ _ true HI.out H1.out | with_reducible exact iok_quiet u l _ _ false HJ.out H2.out)))
    go_wp2
    go_ret
    exact ⟨rfl, below_draws (Below.refl _ _) _⟩
set_option maxRecDepth 100000 in
set_option maxHeartbeats 1000000 in
theorem implSameSums_rows (v u : Value) (R C R' C' : Nat) (f g : Nat → Nat → Int) (w : World) (hin : InMat w v (mkM R C f)) (hin2 : InMat w u (mkM R' C' g)) (hI : Img R C f) (hI' : Img R' C' g) (hne : R ≠ R') :
    Calls Tryz.prog 17 #[v, u] w fun e w' => e = .returned (.bool false) ∧ Below w.heap.size w w' := by
  have HI := hide hin; have HJ := hide hin2; have H1 := hide (img_ok hI); have H2 := hide (img_ok hI')
  have hR1 := hI.r1; have hC1 := hI.c1; have hR := hI.r2; have hC := hI.c2
  have hR1' := hI'.r1; have hC1' := hI'.c1; have hR' := hI'.r2; have hC' := hI'.c2
  obtain ⟨ga, oa, ca, rfl, hga, -⟩ := inMat_img hin (by omega) (by omega)
  obtain ⟨gb, ob, cb, rfl, hgb, -⟩ := inMat_img hin2 (by omega) (by omega)
  have q1 : ((R : Int) == (R' : Int)) = false := by simp; omega
  have q2 : ((R : Int) != (R' : Int)) = true := by simp; omega
  clear hin hin2 hI hI' hne
  go_enter Tryz.func17, Tryz.ntmps17
  go_wp2
  go_quiet ((go_at_call 37; (first | with_reducible exact iok_quiet (.slice (some ⟨ga, oa, none⟩) R ca) _ _ _ true HI.out H1.out | with_reducible exact iok_quiet (.slice (some ⟨gb, ob, none⟩) R' cb) _ _ _ true HJ.out H2.out)))
  go_wp2
  go_ret
  exact ⟨rfl, below_draws (Below.refl _ _) _⟩
set_option maxRecDepth 100000 in
set_option maxHeartbeats 1000000 in
theorem implSameSums_cols (v u : Value) (R C C' : Nat) (f g : Nat → Nat → Int) (w : World) (hin : InMat w v (mkM R C f)) (hin2 : InMat w u (mkM R C' g)) (hI : Img R C f) (hI' : Img R C' g) (hne : C ≠ C') :
    Calls Tryz.prog 17 #[v, u] w fun e w' => e = .returned (.bool false) ∧ Below w.heap.size w w' := by
  have HI := hide hin; have HJ := hide hin2; have H1 := hide (img_ok hI); have H2 := hide (img_ok hI')
  have hR1 := hI.r1; have hC1 := hI.c1; have hR := hI.r2; have hC := hI.c2
  have hR1' := hI'.r1; have hC1' := hI'.c1; have hR' := hI'.r2; have hC' := hI'.c2
  obtain ⟨ga, oa, ca, rfl, hga, ha⟩ := inMat_img hin (by omega) (by omega)
  obtain ⟨gb, ob, cb, rfl, hgb, hb⟩ := inMat_img hin2 (by omega) (by omega)
  obtain ⟨ga', oa', ca', hxa, -, -⟩ := ha 0 (by omega)
  obtain ⟨gb', ob', cb', hxb, -, -⟩ := hb 0 (by omega)
  rw [Nat.add_zero] at hxa hxb
  have q1 : ((C : Int) == (C' : Int)) = false := by simp; omega
  have q2 : ((C : Int) != (C' : Int)) = true := by simp; omega
  have q3 : ((R : Int) != (R : Int)) = false := by simp
  have hR0 : 0 < R := by omega
  clear hin hin2 hI hI' hne ha hb
  go_enter Tryz.func17, Tryz.ntmps17
  go_wp2
  go_quiet ((go_at_call 37; (first | with_reducible exact iok_quiet (.slice (some ⟨ga, oa, none⟩) R ca) _ _ _ true HI.out H1.out | with_reducible exact iok_quiet (.slice (some ⟨gb, ob, none⟩) R cb) _ _ _ true HJ.out H2.out)))
  go_wp2
  go_ret
  exact ⟨rfl, below_draws (Below.refl _ _) _⟩
set_option maxRecDepth 100000 in
set_option maxHeartbeats 2000000 in
theorem implSameSums_same (v u : Value) (R C : Nat) (f g : Nat → Nat → Int) (w : World) (hin : InMat w v (mkM R C f)) (hin2 : InMat w u (mkM R C g)) (hI : Img R C f) (hI' : Img R C g) :
    Calls Tryz.prog 17 #[v, u] w fun e w' => e = .returned (.bool (sameL R C f g)) ∧ Below w.heap.size w w' := by
  have HI := hide hin; have HJ := hide hin2; have H1 := hide (img_ok hI); have H2 := hide (img_ok hI')
  have HA := hide hI; have HB := hide hI'
  have hR1 := hI.r1; have hC1 := hI.c1; have hR := hI.r2; have hC := hI.c2
  obtain ⟨ga, oa, ca, rfl, hga, ha⟩ := inMat_img hin (by omega) (by omega)
  obtain ⟨gb, ob, cb, rfl, hgb, hb⟩ := inMat_img hin2 (by omega) (by omega)
  obtain ⟨ga', oa', ca', hxa, -, -⟩ := ha 0 (by omega)
  obtain ⟨gb', ob', cb', hxb, -, -⟩ := hb 0 (by omega)
  rw [Nat.add_zero] at hxa hxb
  have q2 : ((C : Int) != (C : Int)) = false := by simp
  have q3 : ((R : Int) != (R : Int)) = false := by simp
  have hR0 : 0 < R := by omega
  have HSL := hide (same_lines (f := f) (g := g) hR hC)
  have HND : Hid (∀ d ∈ rc, Near d.1 d.2) := hide (by
    intro d hd
    simp only [rc, List.mem_cons, List.not_mem_nil, or_false] at hd
    rcases hd with rfl | rfl <;> exact ⟨by decide, by decide, by decide, by decide⟩)
  have HRG : Hid (∀ (h : Nat → Nat → Int) (k : Key), 0 ≤ linesC C h (R * C) k rc ∧ linesC C h (R * C) k rc ≤ 1000) := hide fun h k => by
    have h1 := linesC_range C h (R * C) k rc
    have h2 : ((R * C : Nat) : Int) * (rc.length : Int) ≤ 50 := by
      have : R * C * rc.length ≤ 25 * 2 := Nat.mul_le_mul (Nat.mul_le_mul hR hC) (by decide)
      exact_mod_cast this
    omega
  clear hin hin2 hI hI' ha hb
  go_enter Tryz.func17, Tryz.ntmps17
  go_wp2
  go_quiet ((go_at_call 37; (first | with_reducible exact iok_quiet (.slice (some ⟨ga, oa, none⟩) R ca) _ _ _ true HI.out H1.out | with_reducible exact iok_quiet (.slice (some ⟨gb, ob, none⟩) R cb) _ _ _ true HJ.out H2.out)))
  go_wp2_with fail
  refine (alongRows_any _).mono ?_
  rintro e w1 ⟨rfl, hb⟩
  have HB1 := hide ((below_draws (Below.refl w.heap.size w) nq).trans hb); clear hb
  go_wp2_with fail
  refine (alongCols_any _).mono ?_
  rintro e w2 ⟨rfl, hb⟩
  have HB2 := hide (HB1.out.trans (hb.mono HB1.out.size)); clear hb
  have HB3 := hide (HB2.out.alloc HB2.out.size (.cells #[.int .i64 1, .int .i64 0, .int .i64 0, .int .i64 1] 58))
  go_wp2_with fail
  refine (lineMapOf_any _ _ R C f rc _ (inMat_below HI.out HB3.out) HA.out (inDirs2 w2 1 0 0 1) (by decide) HND.out).mono ?_
  rintro e w4 ⟨b1, rfl, hg1, hl, hb⟩
  have hbw1 := lm_lt hl
  have HL4 := hide hl; have HB4 := hide (HB3.out.trans (hb.mono HB3.out.size)); have hbW : w.heap.size ≤ b1 := Nat.le_trans HB3.out.size hg1
  clear hl hb hg1
  go_wp2_with fail
  refine (alongRows_any _).mono ?_
  rintro e w5 ⟨rfl, hb⟩
  have HL5 := hide (lm_below HL4.out hb); have hs5 := hb.size; have HB5 := hide (HB4.out.trans (hb.mono HB4.out.size)); clear hb
  go_wp2_with fail
  refine (alongCols_any _).mono ?_
  rintro e w6 ⟨rfl, hb⟩
  have HL6 := hide (lm_below HL5.out hb); have hs6 := hb.size; have HB6 := hide (HB5.out.trans (hb.mono HB5.out.size)); clear hb
  have hal : Below w6.heap.size w6 (w6.alloc (.cells #[.int .i64 1, .int .i64 0, .int .i64 0, .int .i64 1] 58)) := (Below.refl _ _).alloc (Nat.le_refl _) _
  have HL7 := hide (lm_below HL6.out hal); have HB7 := hide (HB6.out.trans (hal.mono HB6.out.size)); have hs7 := hal.size
  clear hal
  go_wp2_with fail
  refine (lineMapOf_any _ _ R C g rc _ (inMat_below HJ.out HB7.out) HB.out (inDirs2 w6 1 0 0 1) (by decide) HND.out).mono ?_
  rintro e w8 ⟨b2, rfl, hg2, hl, hb⟩
  have hne : b1 ≠ b2 := by omega
  have HL8 := hide (lm_below HL7.out hb); have HM8 := hide hl; have HB8 := hide (HB7.out.trans (hb.mono HB7.out.size))
  clear hl hb hg2 hs5 hs6 hs7
  go_wp2_with fail
  refine (cancel_any b1 b2 50 50 _ _ _ _ HL8.out HM8.out hne (by decide) (by decide) (HRG.out f) (HRG.out g)).mono ?_
  rintro e w9 ⟨nn, rfl, hnn, hl, hgr⟩
  have HL9 := hide hl
  have HB9 := hide (HB8.out.trans (grown_below hgr (fun k hk => by cases hk; exact hbW) HB8.out.size))
  clear hl hgr
  go_wp2_with (at_len; refine wpList_lenLM _ rfl _ rfl rfl HL9.out ?_; intro s hs hiff; have HIF := hide (hiff.trans HSL.out); clear hiff)
  go_ret
  refine ⟨ret_bool ?_, HB9.out⟩
  cases e : sameL R C f g with
  | true => have := HIF.out.2 e; simp [this]
  | false =>
    have : s ≠ 0 := fun h => by have := HIF.out.1 h; rw [e] at this; cases this
    simp [this]
theorem implSameSums_any (v u : Value) (R C R' C' : Nat) (f g : Nat → Nat → Int) (w : World) (hin : InMat w v (mkM R C f)) (hin2 : InMat w u (mkM R' C' g)) (h : Img R C f) (h' : Img R' C' g) :
    Calls Tryz.prog 17 #[v, u] w fun e w' => e = .returned (.bool (if R = R' ∧ C = C' then sameL R C f g else false)) ∧ Below w.heap.size w w' := by
  by_cases hR : R = R'
  · subst hR
    by_cases hC : C = C'
    · subst hC
      rw [if_pos ⟨rfl, rfl⟩]
      exact implSameSums_same v u R C f g w hin hin2 h h'
    · rw [if_neg fun e => hC e.2]
      exact implSameSums_cols v u R C C' f g w hin hin2 h h' hC
  · rw [if_neg fun e => hR e.1]
    exact implSameSums_rows v u R C R' C' f g w hin hin2 h h' hR

end Go.Proofs.YtcliiefedmiokaaGreat
