/-
  LineOf, of the model and of the program.
-/
import Derived.Test.YteogbddbafkieaaLine
namespace Go.Proofs.Yteogbddbafkieaa
open Go.RowKit

def sizeOk (r c : Int) : Bool := decide (1 ≤ r ∧ r ≤ 5) && decide (1 ≤ c ∧ c ≤ 5)
theorem sizeOk_yes {r c : Int} (h : sizeOk r c = true) : (1 ≤ r ∧ r ≤ 5) ∧ (1 ≤ c ∧ c ≤ 5) := by simpa [sizeOk] using h
theorem l03Size_any (r c : Int) (w : World) :
    Calls Try.prog 43 #[.int .i64 r, .int .i64 c] w fun e w' => e = .returned (.bool (sizeOk r c)) ∧ w = w' := by
  have HS : Hid (sizeOk r c = (decide (1 ≤ r ∧ r ≤ 5) && decide (1 ≤ c ∧ c ≤ 5))) := hide rfl
  by_cases h1 : 1 ≤ r ∧ r ≤ 5
  · have H1 := hide (decide_eq_true h1)
    clear h1
    go_enter Try.func43, Try.ntmps43
    go_wp2_with (first | (with_reducible refine (l01In_any r 1 5 _).mono ?_; rw [H1.out]; rintro e w' ⟨rfl, rfl⟩) | (with_reducible refine (l01In_any c 1 5 _).mono ?_; rintro e w' ⟨rfl, rfl⟩))
    go_ret
    exact ⟨ret_bool (by rw [HS.out, H1.out]; simp), rfl⟩
  · have H1 := hide (decide_eq_false h1)
    clear h1
    go_enter Try.func43, Try.ntmps43
    go_wp2_with (first | (with_reducible refine (l01In_any r 1 5 _).mono ?_; rw [H1.out]; rintro e w' ⟨rfl, rfl⟩))
    go_ret
    exact ⟨ret_bool (by rw [HS.out, H1.out]; rfl), rfl⟩

theorem sizesOk_any (r c dx dy : Int) (w : World) :
    Calls Try.prog 45 #[.int .i64 r, .int .i64 c, .agg #[.int .i64 dx, .int .i64 dy]] w fun e w' => e = .returned (.bool (sizeOk r c && dirOk dx dy)) ∧ Below w.heap.size w w' := by
  have HS : Hid (sizeOk r c = (decide (1 ≤ r ∧ r ≤ 5) && decide (1 ≤ c ∧ c ≤ 5))) := hide rfl
  by_cases h1 : 1 ≤ r ∧ r ≤ 5
  · have H1 := hide (decide_eq_true h1)
    clear h1
    by_cases h2 : 1 ≤ c ∧ c ≤ 5
    · have H2 := hide (decide_eq_true h2)
      clear h2
      go_enter Try.func45, Try.ntmps45
      go_wp2_with (first | (with_reducible refine (sideOk_any r _).mono ?_; rw [H1.out]; rintro e w' ⟨rfl, rfl⟩) | (with_reducible refine (sideOk_any c _).mono ?_; rw [H2.out]; rintro e w' ⟨rfl, rfl⟩) | (with_reducible refine (implDirectionOk_any dx dy _).mono ?_; rintro e w1 ⟨rfl, hb⟩; have HB := hide hb; clear hb))
      go_ret
      exact ⟨ret_bool (by rw [HS.out, H1.out, H2.out]; rfl), ((Below.refl _ _).alloc (Nat.le_refl _) _).trans (HB.out.mono (by simp))⟩
    · have H2 := hide (decide_eq_false h2)
      clear h2
      go_enter Try.func45, Try.ntmps45
      go_wp2_with (first | (with_reducible refine (sideOk_any r _).mono ?_; rw [H1.out]; rintro e w' ⟨rfl, rfl⟩) | (with_reducible refine (sideOk_any c _).mono ?_; rw [H2.out]; rintro e w' ⟨rfl, rfl⟩))
      go_ret
      exact ⟨ret_bool (by rw [HS.out, H1.out, H2.out]; rfl), (Below.refl _ _).alloc (Nat.le_refl _) _⟩
  · have H1 := hide (decide_eq_false h1)
    clear h1
    go_enter Try.func45, Try.ntmps45
    go_wp2_with (first | (with_reducible refine (sideOk_any r _).mono ?_; rw [H1.out]; rintro e w' ⟨rfl, rfl⟩))
    go_ret
    exact ⟨ret_bool (by rw [HS.out, H1.out]; rfl), (Below.refl _ _).alloc (Nat.le_refl _) _⟩

/-- A direction in a variable. -/
def DirAt (w : World) (g : Nat) (dx dy : Int) : Prop := w.heap[g]? = some (.cells #[.int .i64 dx, .int .i64 dy] 34 (0, 0))
theorem dirAt_below {w w' : World} {g : Nat} {dx dy : Int} (h : DirAt w g dx dy) (hb : Below w.heap.size w w') : DirAt w' g dx dy := by
  unfold DirAt; rw [hb.block g (Array.getElem?_eq_some_iff.1 h).1]; exact h
theorem Try.sizeDir : (Try.prog.info? 34).map (·.size) = some 2 := by kernel_rfl
theorem exec_loadDir {ρ : Operand → Value} {o : Oper} {w : World} {x : Operand} {g : Nat} {dx dy : Int} (ho : o.op = .load 34 x) (hx : ρ x = .pointer (some ⟨g, 0, none⟩)) (hd : DirAt w g dx dy) :
    (execOp ρ o).run Try.prog w = .ok (.value (.agg #[.int .i64 dx, .int .i64 dy])) w := by
  unfold execOp
  simp only [ho, hx, Instr.loadAt, Instr.sureAddr, Sem.run_bind, Sem.run_pure, Result.andThen_ok, run_loadVar_row w g _ _ _ _ _ hd Try.underlying34 rfl Try.sizeDir]
theorem exec_field0 {ρ : Operand → Value} {o : Oper} {w : World} {x : Operand} {g : Nat} (ho : o.op = .fieldAddr 34 x 0) (hx : ρ x = .pointer (some ⟨g, 0, none⟩)) : (execOp ρ o).run Try.prog w = .ok (.value (.pointer (some ⟨g, 0, none⟩))) w := by
  unfold execOp
  simp only [ho, hx]
  go_simp
theorem exec_field1 {ρ : Operand → Value} {o : Oper} {w : World} {x : Operand} {g : Nat} (ho : o.op = .fieldAddr 34 x 1) (hx : ρ x = .pointer (some ⟨g, 0, none⟩)) : (execOp ρ o).run Try.prog w = .ok (.value (.pointer (some ⟨g, 1, none⟩))) w := by
  unfold execOp
  simp only [ho, hx]
  go_simp
theorem exec_loadX {ρ : Operand → Value} {o : Oper} {w : World} {x : Operand} {g : Nat} {dx dy : Int} (ho : o.op = .load 3 x) (hx : ρ x = .pointer (some ⟨g, 0, none⟩)) (hd : DirAt w g dx dy) : (execOp ρ o).run Try.prog w = .ok (.value (.int .i64 dx)) w := by
  have hc : w.cell? ⟨g, 0, none⟩ = some (.int .i64 dx) := by rw [cell_of_row w g 0 _ _ _ hd]; rfl
  unfold execOp
  simp only [ho, hx]
  go_simp
theorem exec_loadY {ρ : Operand → Value} {o : Oper} {w : World} {x : Operand} {g : Nat} {dx dy : Int} (ho : o.op = .load 3 x) (hx : ρ x = .pointer (some ⟨g, 1, none⟩)) (hd : DirAt w g dx dy) : (execOp ρ o).run Try.prog w = .ok (.value (.int .i64 dy)) w := by
  have hc : w.cell? ⟨g, 1, none⟩ = some (.int .i64 dy) := by rw [cell_of_row w g 1 _ _ _ hd]; rfl
  unfold execOp
  simp only [ho, hx]
  go_simp

theorem below_drew {B : Nat} {a w : World} (h : Below B a w) : Below B a w.drew := ⟨h.os, h.tape, h.output, h.size, h.block⟩
theorem set_get {ts : Array Value} {d n : Tmp} {v : Value} (hs : ts.size = n) (hd : d < n) : (ts.setIfInBounds d v).getD d undef = v := by
  have : d < ts.size := Nat.lt_of_lt_of_eq hd hs.symm
  simp [this]

set_option maxHeartbeats 1000000 in
theorem specLineOf_yes (rows cols dx dy y x : Int) (w : World) (hs : sizeOk rows cols = true) (hd : dirOk dx dy = true) (hy : 0 ≤ y ∧ y < rows) (hx : 0 ≤ x ∧ x < cols) :
    Calls Try.prog 25 #[.int .i64 rows, .int .i64 cols, .agg #[.int .i64 dx, .int .i64 dy], .int .i64 y, .int .i64 x] w fun e w' => e = .returned (.int .i64 (lnum dx dy cols y x)) ∧ Below w.heap.size w w' := by
  obtain ⟨⟨r1, r2⟩, c1, c2⟩ := sizeOk_yes hs
  have HS := hide hs; have HD := hide hd; have HN := hide (near_of hd)
  clear hs hd
  obtain ⟨y1, y2⟩ := hy
  obtain ⟨x1, x2⟩ := hx
  have HY : Hid (decide (0 ≤ y ∧ y ≤ rows - 1) = true) := hide (decide_eq_true (by omega))
  have HX : Hid (decide (0 ≤ x ∧ x ≤ cols - 1) = true) := hide (decide_eq_true (by omega))
  go_enter Try.func25, Try.ntmps25
  go_wp2_with (first | (with_reducible refine (l03Size_any rows cols _).mono ?_; rw [HS.out]; rintro e w' ⟨rfl, rfl⟩) | (with_reducible refine (specDirectionOk_any dx dy _).mono ?_; rw [HD.out]; rintro e w1 ⟨rfl, hb⟩; have HB := hide hb; clear hb) | (with_reducible refine (l01In_any y 0 (rows - 1) _).mono ?_; rw [HY.out]; rintro e w' ⟨rfl, rfl⟩) | (with_reducible refine (l01In_any x 0 (cols - 1) _).mono ?_; rw [HX.out]; rintro e w' ⟨rfl, rfl⟩))
  obtain ⟨n1, n2, n3, n4⟩ := HN.out
  obtain ⟨hp1, hp2⟩ := mul_dx n1 n2 y1 (by omega)
  obtain ⟨hq1, hq2⟩ := mul_dy n3 n4 x1 (by omega)
  have hl : -15 ≤ least dy cols ∧ least dy cols ≤ 0 := by
    have := mul_dy (a := -dy) (b := cols - 1) (by omega) (by omega) (by omega) (by omega)
    unfold least; omega
  obtain ⟨hl1, hl2⟩ := hl
  have l1 : IntKind.i64.wrap (dx * y) = dx * y := IntWalk.i64_in _ (by omega)
  have l2 : IntKind.i64.wrap (dy * x) = dy * x := IntWalk.i64_in _ (by omega)
  have l3 : IntKind.i64.wrap (dx * y - dy * x) = dx * y - dy * x := IntWalk.i64_in _ (by omega)
  have l4 : IntKind.i64.wrap (dx * y - dy * x - least dy cols) = dx * y - dy * x - least dy cols := IntWalk.i64_in _ (by omega)
  have hA : Below w.heap.size w w1 := ((Below.refl _ _).alloc (Nat.le_refl _) _).trans (HB.out.mono (by simp))
  have hG : DirAt w1 w.heap.size dx dy := dirAt_below (heap_alloc_new w _) HB.out
  refine wp_region_tail (S := fun w' => DirAt w' w.heap.size dx dy ∧ Below w.heap.size w w') [isV (.pointer (some ⟨w.heap.size, 0, none⟩)), isV (.int .i64 dx), isV (.int .i64 y), isV (.int .i64 (dx * y)), isV (.pointer (some ⟨w.heap.size, 1, none⟩)), isV (.int .i64 dy), isV (.int .i64 x), isV (.int .i64 (dy * x)), isV (.int .i64 (dx * y - dy * x)), isV (.int .i64 cols), isV (.agg #[.int .i64 dx, .int .i64 dy]), isV (.int .i64 (least dy cols)), isV (.int .i64 (lnum dx dy cols y x))]
    [(1, .int .i64 cols), (3, .int .i64 y), (4, .int .i64 x), (7, .pointer (some ⟨w.heap.size, 0, none⟩))] _ _ 13 (by kernel_rfl) rfl rfl (by kernel_rfl) (by kernel_rfl) rfl (by kernel_rfl) ?base ⟨hG, below_drew hA⟩ ?ob rfl ?fin
  case base =>
    intro t v ht
    simp only [List.lookup_cons, List.lookup_nil] at ht
    repeat' split at ht
    all_goals first | (cases ht; done) | (obtain rfl := Option.some.inj ht; rename_i hh; obtain rfl := eq_of_beq hh; rfl)
  case ob =>
    have hst : ∀ f ∈ [isV (.pointer (some ⟨w.heap.size, 0, none⟩)), isV (.int .i64 dx), isV (.int .i64 y), isV (.int .i64 (dx * y)), isV (.pointer (some ⟨w.heap.size, 1, none⟩)), isV (.int .i64 dy), isV (.int .i64 x), isV (.int .i64 (dy * x)), isV (.int .i64 (dx * y - dy * x)), isV (.int .i64 cols), isV (.agg #[.int .i64 dx, .int .i64 dy]), isV (.int .i64 (least dy cols)), isV (.int .i64 (lnum dx dy cols y x))], StableP f := by
      intro f hf
      simp only [List.mem_cons, List.not_mem_nil, or_false] at hf
      rcases hf with rfl | rfl | rfl | rfl | rfl | rfl | rfl | rfl | rfl | rfl | rfl | rfl | rfl <;> exact stable_v _
    exact ⟨obt_one (.pointer (some ⟨w.heap.size, 0, none⟩)) rfl rfl (srt_b 7 rfl) (fun ρ w' _ hx => exec_field0 rfl hx),
      obt_one (.int .i64 dx) rfl rfl (srt_j 0 rfl (by kernel_rfl) rfl) (fun ρ w' hS hx => exec_loadX rfl hx hS.1),
      obt_move (.int .i64 y) rfl rfl rfl (srt_b 3 rfl),
      obt_two (.int .i64 (dx * y)) rfl rfl (srt_j 1 rfl (by kernel_rfl) rfl) (srt_j 2 rfl (by kernel_rfl) rfl) (fun ρ w' _ hx hy => by go_simp),
      obt_one (.pointer (some ⟨w.heap.size, 1, none⟩)) rfl rfl (srt_b 7 rfl) (fun ρ w' _ hx => exec_field1 rfl hx),
      obt_one (.int .i64 dy) rfl rfl (srt_j 4 rfl (by kernel_rfl) rfl) (fun ρ w' hS hx => exec_loadY rfl hx hS.1),
      obt_move (.int .i64 x) rfl rfl rfl (srt_b 4 rfl),
      obt_two (.int .i64 (dy * x)) rfl rfl (srt_j 5 rfl (by kernel_rfl) rfl) (srt_j 6 rfl (by kernel_rfl) rfl) (fun ρ w' _ hx hy => by go_simp),
      obt_two (.int .i64 (dx * y - dy * x)) rfl rfl (srt_j 3 rfl (by kernel_rfl) rfl) (srt_j 7 rfl (by kernel_rfl) rfl) (fun ρ w' _ hx hy => by go_simp),
      obt_move (.int .i64 cols) rfl rfl rfl (srt_b 1 rfl),
      obt_one (.agg #[.int .i64 dx, .int .i64 dy]) rfl rfl (srt_b 7 rfl) (fun ρ w' hS hx => exec_loadDir rfl hx hS.1),
      obt_call hst [.int .i64 cols, .agg #[.int .i64 dx, .int .i64 dy]] rfl Try.func44 (by kernel_rfl) (by kernel_rfl) rfl ⟨srt_j 9 rfl (by kernel_rfl) rfl, srt_j 10 rfl (by kernel_rfl) rfl, trivial⟩
        (fun w' hS => (l03Least_any dx dy cols w' HN.out ⟨c1, c2⟩).mono fun e w2 hh => ⟨_, hh.1, ⟨dirAt_below hS.1 hh.2, hS.2.trans (hh.2.mono hS.2.size)⟩, hh.2, rfl⟩),
      obt_two (.int .i64 (lnum dx dy cols y x)) rfl rfl (srt_j 8 rfl (by kernel_rfl) rfl) (srt_j 11 rfl (by kernel_rfl) rfl) (fun ρ w' _ hx hy => by rw [lnum]; go_simp), trivial⟩
  case fin =>
    intro a' w' h1 h2 _ hS h4 K hK
    have hv : a'.eval (.tmp 46) = .int .i64 (lnum dx dy cols y x) := h4 12 46 rfl (by decide)
    refine tail_assign rfl hv ?_ K hK
    go_wp2
    exact bodyPost_ret (results_tmp rfl _ _ _) rfl ⟨congrArg Ending.returned (set_get (n := 47) h1 (by decide)), hS.2⟩
set_option maxHeartbeats 400000 in
theorem specLineOf_size (rows cols dx dy y x : Int) (w : World) (hs : sizeOk rows cols = false) :
    Calls Try.prog 25 #[.int .i64 rows, .int .i64 cols, .agg #[.int .i64 dx, .int .i64 dy], .int .i64 y, .int .i64 x] w fun e w' => e = .returned (.int .i64 (-1)) ∧ Below w.heap.size w w' := by
  have HS := hide hs
  clear hs
  go_enter Try.func25, Try.ntmps25
  go_wp2_with (first | (with_reducible refine (l03Size_any rows cols _).mono ?_; rw [HS.out]; rintro e w' ⟨rfl, rfl⟩))
  go_ret
  exact ⟨rfl, (Below.refl _ _).alloc (Nat.le_refl _) _⟩
set_option maxHeartbeats 400000 in
theorem specLineOf_dir (rows cols dx dy y x : Int) (w : World) (hs : sizeOk rows cols = true) (hd : dirOk dx dy = false) :
    Calls Try.prog 25 #[.int .i64 rows, .int .i64 cols, .agg #[.int .i64 dx, .int .i64 dy], .int .i64 y, .int .i64 x] w fun e w' => e = .returned (.int .i64 (-1)) ∧ Below w.heap.size w w' := by
  have HS := hide hs; have HD := hide hd
  clear hs hd
  go_enter Try.func25, Try.ntmps25
  go_wp2_with (first | (with_reducible refine (l03Size_any rows cols _).mono ?_; rw [HS.out]; rintro e w' ⟨rfl, rfl⟩) | (with_reducible refine (specDirectionOk_any dx dy _).mono ?_; rw [HD.out]; rintro e w1 ⟨rfl, hb⟩; have HB := hide hb; clear hb))
  go_ret
  exact ⟨rfl, ((Below.refl _ _).alloc (Nat.le_refl _) _).trans (HB.out.mono (by simp))⟩
set_option maxHeartbeats 400000 in
theorem specLineOf_y (rows cols dx dy y x : Int) (w : World) (hs : sizeOk rows cols = true) (hd : dirOk dx dy = true) (hy : ¬ (0 ≤ y ∧ y < rows)) :
    Calls Try.prog 25 #[.int .i64 rows, .int .i64 cols, .agg #[.int .i64 dx, .int .i64 dy], .int .i64 y, .int .i64 x] w fun e w' => e = .returned (.int .i64 (-1)) ∧ Below w.heap.size w w' := by
  obtain ⟨⟨r1, r2⟩, c1, c2⟩ := sizeOk_yes hs
  have HS := hide hs; have HD := hide hd
  have HY : Hid (decide (0 ≤ y ∧ y ≤ rows - 1) = false) := hide (decide_eq_false (by omega))
  clear hs hd hy
  go_enter Try.func25, Try.ntmps25
  go_wp2_with (first | (with_reducible refine (l03Size_any rows cols _).mono ?_; rw [HS.out]; rintro e w' ⟨rfl, rfl⟩) | (with_reducible refine (specDirectionOk_any dx dy _).mono ?_; rw [HD.out]; rintro e w1 ⟨rfl, hb⟩; have HB := hide hb; clear hb) | (with_reducible refine (l01In_any y 0 (rows - 1) _).mono ?_; rw [HY.out]; rintro e w' ⟨rfl, rfl⟩))
  go_ret
  exact ⟨rfl, ((Below.refl _ _).alloc (Nat.le_refl _) _).trans (HB.out.mono (by simp))⟩
set_option maxHeartbeats 400000 in
theorem specLineOf_x (rows cols dx dy y x : Int) (w : World) (hs : sizeOk rows cols = true) (hd : dirOk dx dy = true) (hy : 0 ≤ y ∧ y < rows) (hx : ¬ (0 ≤ x ∧ x < cols)) :
    Calls Try.prog 25 #[.int .i64 rows, .int .i64 cols, .agg #[.int .i64 dx, .int .i64 dy], .int .i64 y, .int .i64 x] w fun e w' => e = .returned (.int .i64 (-1)) ∧ Below w.heap.size w w' := by
  obtain ⟨⟨r1, r2⟩, c1, c2⟩ := sizeOk_yes hs
  have HS := hide hs; have HD := hide hd
  have HY : Hid (decide (0 ≤ y ∧ y ≤ rows - 1) = true) := hide (decide_eq_true (by omega))
  have HX : Hid (decide (0 ≤ x ∧ x ≤ cols - 1) = false) := hide (decide_eq_false (by omega))
  clear hs hd hy hx
  go_enter Try.func25, Try.ntmps25
  go_wp2_with (first | (with_reducible refine (l03Size_any rows cols _).mono ?_; rw [HS.out]; rintro e w' ⟨rfl, rfl⟩) | (with_reducible refine (specDirectionOk_any dx dy _).mono ?_; rw [HD.out]; rintro e w1 ⟨rfl, hb⟩; have HB := hide hb; clear hb) | (with_reducible refine (l01In_any y 0 (rows - 1) _).mono ?_; rw [HY.out]; rintro e w' ⟨rfl, rfl⟩) | (with_reducible refine (l01In_any x 0 (cols - 1) _).mono ?_; rw [HX.out]; rintro e w' ⟨rfl, rfl⟩))
  go_ret
  exact ⟨rfl, ((Below.refl _ _).alloc (Nat.le_refl _) _).trans (HB.out.mono (by simp))⟩

/-- What LineOf returns. -/
def lineOf (rows cols dx dy y x : Int) : Int := if (sizeOk rows cols = true ∧ dirOk dx dy = true) ∧ (0 ≤ y ∧ y < rows) ∧ 0 ≤ x ∧ x < cols then lnum dx dy cols y x else -1
theorem specLineOf_any (rows cols dx dy y x : Int) (w : World) :
    Calls Try.prog 25 #[.int .i64 rows, .int .i64 cols, .agg #[.int .i64 dx, .int .i64 dy], .int .i64 y, .int .i64 x] w fun e w' => e = .returned (.int .i64 (lineOf rows cols dx dy y x)) ∧ Below w.heap.size w w' := by
  cases hs : sizeOk rows cols with
  | false => rw [lineOf, if_neg (fun h => by rw [hs] at h; cases h.1.1)]; exact specLineOf_size rows cols dx dy y x w hs
  | true =>
    cases hd : dirOk dx dy with
    | false => rw [lineOf, if_neg (fun h => by rw [hd] at h; cases h.1.2)]; exact specLineOf_dir rows cols dx dy y x w hs hd
    | true =>
      by_cases hy : 0 ≤ y ∧ y < rows
      · by_cases hx : 0 ≤ x ∧ x < cols
        · rw [lineOf, if_pos ⟨⟨hs, hd⟩, hy, hx⟩]; exact specLineOf_yes rows cols dx dy y x w hs hd hy hx
        · rw [lineOf, if_neg (fun h => hx h.2.2)]; exact specLineOf_x rows cols dx dy y x w hs hd hy hx
      · rw [lineOf, if_neg (fun h => hy h.2.1)]; exact specLineOf_y rows cols dx dy y x w hs hd hy

/-- A direction's variable is read whole. -/
theorem wpList_loadDir {ops : Array Oper} {rest : List Oper} {o : Oper} {a : Act} {Q : Exit → Act → World → Prop} {W : World} {g : Nat} {dx dy : Int} (hb : DirAt W g dx dy)
    (hgd : o.guard = none) (x : Operand) (ho : o.op = .load 34 x) (hx : a.eval x = .pointer (some ⟨g, 0, none⟩))
    (h : wpList Try.prog ops Q rest (a.put o.dst (.agg #[.int .i64 dx, .int .i64 dy])) W) : wpList Try.prog ops Q (o :: rest) a W :=
  wpList_load_row hgd _ x ho g hx _ _ (0, 0) _ hb Try.underlying34 rfl Try.sizeDir h
set_option maxHeartbeats 400000 in
theorem implLineOf_size (rows cols dx dy y x : Int) (w : World) (hs : (sizeOk rows cols && dirOk dx dy) = false) :
    Calls Try.prog 26 #[.int .i64 rows, .int .i64 cols, .agg #[.int .i64 dx, .int .i64 dy], .int .i64 y, .int .i64 x] w fun e w' => e = .returned (.int .i64 (-1)) ∧ Below w.heap.size w w' := by
  have HS := hide hs
  clear hs
  go_enter Try.func26, Try.ntmps26
  go_wp2_with (first | ((with_reducible refine (sizesOk_any rows cols dx dy _).mono ?_); rw [HS.out]; rintro e w1 ⟨rfl, hb⟩; have HG := hide (dirAt_below (heap_alloc_new w _) hb); have HB := hide (((Below.refl _ _).alloc (Nat.le_refl _) _).trans (hb.mono (by simp))); clear hb))
  go_ret
  exact ⟨rfl, HB.out⟩
set_option maxHeartbeats 400000 in
theorem implLineOf_y1 (rows cols dx dy y x : Int) (w : World) (hs : (sizeOk rows cols && dirOk dx dy) = true) (hy : y < 0) :
    Calls Try.prog 26 #[.int .i64 rows, .int .i64 cols, .agg #[.int .i64 dx, .int .i64 dy], .int .i64 y, .int .i64 x] w fun e w' => e = .returned (.int .i64 (-1)) ∧ Below w.heap.size w w' := by
  have HS := hide hs
  clear hs
  go_enter Try.func26, Try.ntmps26
  go_wp2_with (first | ((with_reducible refine (sizesOk_any rows cols dx dy _).mono ?_); rw [HS.out]; rintro e w1 ⟨rfl, hb⟩; have HG := hide (dirAt_below (heap_alloc_new w _) hb); have HB := hide (((Below.refl _ _).alloc (Nat.le_refl _) _).trans (hb.mono (by simp))); clear hb))
  go_ret
  exact ⟨rfl, HB.out⟩
set_option maxHeartbeats 400000 in
theorem implLineOf_y2 (rows cols dx dy y x : Int) (w : World) (hs : (sizeOk rows cols && dirOk dx dy) = true) (hy : rows ≤ y) (hy0 : 0 ≤ y) :
    Calls Try.prog 26 #[.int .i64 rows, .int .i64 cols, .agg #[.int .i64 dx, .int .i64 dy], .int .i64 y, .int .i64 x] w fun e w' => e = .returned (.int .i64 (-1)) ∧ Below w.heap.size w w' := by
  have HS := hide hs
  clear hs
  go_enter Try.func26, Try.ntmps26
  go_wp2_with (first | ((with_reducible refine (sizesOk_any rows cols dx dy _).mono ?_); rw [HS.out]; rintro e w1 ⟨rfl, hb⟩; have HG := hide (dirAt_below (heap_alloc_new w _) hb); have HB := hide (((Below.refl _ _).alloc (Nat.le_refl _) _).trans (hb.mono (by simp))); clear hb))
  go_ret
  exact ⟨rfl, HB.out⟩
set_option maxHeartbeats 400000 in
theorem implLineOf_x1 (rows cols dx dy y x : Int) (w : World) (hs : (sizeOk rows cols && dirOk dx dy) = true) (hy : 0 ≤ y) (hy2 : y < rows) (hx : x < 0) :
    Calls Try.prog 26 #[.int .i64 rows, .int .i64 cols, .agg #[.int .i64 dx, .int .i64 dy], .int .i64 y, .int .i64 x] w fun e w' => e = .returned (.int .i64 (-1)) ∧ Below w.heap.size w w' := by
  have HS := hide hs
  clear hs
  go_enter Try.func26, Try.ntmps26
  go_wp2_with (first | ((with_reducible refine (sizesOk_any rows cols dx dy _).mono ?_); rw [HS.out]; rintro e w1 ⟨rfl, hb⟩; have HG := hide (dirAt_below (heap_alloc_new w _) hb); have HB := hide (((Below.refl _ _).alloc (Nat.le_refl _) _).trans (hb.mono (by simp))); clear hb))
  go_ret
  exact ⟨rfl, HB.out⟩
set_option maxHeartbeats 400000 in
theorem implLineOf_x2 (rows cols dx dy y x : Int) (w : World) (hs : (sizeOk rows cols && dirOk dx dy) = true) (hy : 0 ≤ y) (hy2 : y < rows) (hx : cols ≤ x) (hx0 : 0 ≤ x) :
    Calls Try.prog 26 #[.int .i64 rows, .int .i64 cols, .agg #[.int .i64 dx, .int .i64 dy], .int .i64 y, .int .i64 x] w fun e w' => e = .returned (.int .i64 (-1)) ∧ Below w.heap.size w w' := by
  have HS := hide hs
  clear hs
  go_enter Try.func26, Try.ntmps26
  go_wp2_with (first | ((with_reducible refine (sizesOk_any rows cols dx dy _).mono ?_); rw [HS.out]; rintro e w1 ⟨rfl, hb⟩; have HG := hide (dirAt_below (heap_alloc_new w _) hb); have HB := hide (((Below.refl _ _).alloc (Nat.le_refl _) _).trans (hb.mono (by simp))); clear hb))
  go_ret
  exact ⟨rfl, HB.out⟩
set_option maxHeartbeats 400000 in
theorem implLineOf_yes (rows cols dx dy y x : Int) (w : World) (hs : sizeOk rows cols = true) (hd : dirOk dx dy = true) (hy : 0 ≤ y ∧ y < rows) (hx : 0 ≤ x ∧ x < cols) :
    Calls Try.prog 26 #[.int .i64 rows, .int .i64 cols, .agg #[.int .i64 dx, .int .i64 dy], .int .i64 y, .int .i64 x] w fun e w' => e = .returned (.int .i64 (lnum dx dy cols y x)) ∧ Below w.heap.size w w' := by
  obtain ⟨⟨r1, r2⟩, c1, c2⟩ := sizeOk_yes hs
  have HN := hide (near_of hd)
  have HS : Hid ((sizeOk rows cols && dirOk dx dy) = true) := hide (by rw [hs, hd]; rfl)
  clear hs hd
  obtain ⟨y1, y2⟩ := hy
  obtain ⟨x1, x2⟩ := hx
  go_enter Try.func26, Try.ntmps26
  go_wp2_with (first | ((with_reducible refine (sizesOk_any rows cols dx dy _).mono ?_); rw [HS.out]; rintro e w1 ⟨rfl, hb⟩; have HG := hide (dirAt_below (heap_alloc_new w _) hb); have HB := hide (((Below.refl _ _).alloc (Nat.le_refl _) _).trans (hb.mono (by simp))); clear hb) | (with_reducible refine wpList_loadDir HG.out rfl _ rfl rfl ?_) | ((with_reducible refine (lineNumber_any dx dy cols y x _ HN.out ⟨by omega, by omega⟩ ⟨by omega, by omega⟩ ⟨by omega, by omega⟩).mono ?_); rintro e w2 ⟨rfl, hb⟩; have HB2 := hide (HB.out.trans (hb.mono HB.out.size)); clear hb))
  go_ret
  exact ⟨rfl, HB2.out⟩
theorem implLineOf_any (rows cols dx dy y x : Int) (w : World) :
    Calls Try.prog 26 #[.int .i64 rows, .int .i64 cols, .agg #[.int .i64 dx, .int .i64 dy], .int .i64 y, .int .i64 x] w fun e w' => e = .returned (.int .i64 (lineOf rows cols dx dy y x)) ∧ Below w.heap.size w w' := by
  cases hs : (sizeOk rows cols && dirOk dx dy) with
  | false => rw [lineOf, if_neg (fun h => by rw [h.1.1, h.1.2] at hs; cases hs)]; exact implLineOf_size rows cols dx dy y x w hs
  | true =>
    by_cases hy : 0 ≤ y
    · by_cases hy2 : y < rows
      · by_cases hx : 0 ≤ x
        · by_cases hx2 : x < cols
          · rw [Bool.and_eq_true] at hs
            rw [lineOf, if_pos ⟨hs, ⟨hy, hy2⟩, hx, hx2⟩]; exact implLineOf_yes rows cols dx dy y x w hs.1 hs.2 ⟨hy, hy2⟩ ⟨hx, hx2⟩
          · rw [lineOf, if_neg (fun h => hx2 h.2.2.2)]; exact implLineOf_x2 rows cols dx dy y x w hs hy hy2 (by omega) hx
        · rw [lineOf, if_neg (fun h => hx h.2.2.1)]; exact implLineOf_x1 rows cols dx dy y x w hs hy hy2 (by omega)
      · rw [lineOf, if_neg (fun h => hy2 h.2.1.2)]; exact implLineOf_y2 rows cols dx dy y x w hs (by omega) hy
    · rw [lineOf, if_neg (fun h => hy h.2.1.1)]; exact implLineOf_y1 rows cols dx dy y x w hs (by omega)
end Go.Proofs.Yteogbddbafkieaa
