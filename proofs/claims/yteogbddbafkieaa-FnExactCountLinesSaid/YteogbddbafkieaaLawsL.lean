/-
  The exact laws on directions and line numbers, walked.
-/
import Derived.Test.YteogbddbafkieaaCountL
namespace Go.Proofs.Yteogbddbafkieaa
open Go.RowKit
set_option linter.unusedVariables false

/-- A direction of the laws in a variable. -/
def LDirAt (w : World) (g : Nat) (dx dy : Int) : Prop := w.heap[g]? = some (.cells #[.int .i64 dx, .int .i64 dy] 32 (0, 0))
theorem ldirAt_below {w w' : World} {g : Nat} {dx dy : Int} (h : LDirAt w g dx dy) (hb : Below w.heap.size w w') : LDirAt w' g dx dy := by
  unfold LDirAt; rw [hb.block g (Array.getElem?_eq_some_iff.1 h).1]; exact h
theorem Try.sizeLDir : (Try.prog.info? 32).map (·.size) = some 2 := by kernel_rfl
theorem wpList_loadLDir {ops : Array Oper} {rest : List Oper} {o : Oper} {a : Act} {Q : Exit → Act → World → Prop} {W : World} {g : Nat} {dx dy : Int} (hb : LDirAt W g dx dy)
    (hgd : o.guard = none) (x : Operand) (ho : o.op = .load 32 x) (hx : a.eval x = .pointer (some ⟨g, 0, none⟩))
    (h : wpList Try.prog ops Q rest (a.put o.dst (.agg #[.int .i64 dx, .int .i64 dy])) W) : wpList Try.prog ops Q (o :: rest) a W :=
  wpList_load_row hgd _ x ho g hx _ _ (0, 0) _ hb Try.underlying32 rfl Try.sizeLDir h

set_option maxHeartbeats 1000000 in
theorem lawDirectionOk_walk (dx dy : Int) (w : World) :
    Calls Try.prog 5 #[.agg #[.int .i64 dx, .int .i64 dy]] w fun e w' => e = .returned (.bool true) ∧ Below w.heap.size w w' := by
  obtain ⟨r, HR⟩ : ∃ r, Hid (dirOk dx dy = r) := ⟨_, hide rfl⟩
  have HG0 := hide (show LDirAt (w.alloc (.cells #[.int .i64 dx, .int .i64 dy] 32)) w.heap.size dx dy from heap_alloc_new w _)
  have HB0 := hide ((Below.refl w.heap.size w).alloc (Nat.le_refl _) (.cells #[.int .i64 dx, .int .i64 dy] 32))
  go_enter Try.func5, Try.ntmps5
  go_wp2_with fail
  refine (toDirection_any dx dy _).mono ?_
  rintro e w1 ⟨rfl, hb⟩
  have HG1 := hide (ldirAt_below HG0.out hb); have HB1 := hide (HB0.out.trans (hb.mono HB0.out.size)); clear hb
  go_wp2_with fail
  refine (specDirectionOk_any dx dy _).mono ?_
  rw [HR.out]
  rintro e w2 ⟨rfl, hb⟩
  have HG2 := hide (ldirAt_below HG1.out hb); have HB2 := hide (HB1.out.trans (hb.mono HB1.out.size)); clear hb
  go_wp2_with (with_reducible refine wpList_loadLDir HG2.out rfl _ rfl rfl ?_)
  refine (toDirection_any dx dy _).mono ?_
  rintro e w3 ⟨rfl, hb⟩
  have HB3 := hide (HB2.out.trans (hb.mono HB2.out.size)); clear hb
  go_wp2_with fail
  refine (implDirectionOk_any dx dy _).mono ?_
  rw [HR.out]
  rintro e w4 ⟨rfl, hb⟩
  have HB4 := hide (HB3.out.trans (hb.mono HB3.out.size)); clear hb
  cases r
  all_goals
    go_wp2
    go_ret
    exact ⟨rfl, HB4.out⟩

set_option maxHeartbeats 1000000 in
theorem lawLineOf_walk (rows cols dx dy y x : Int) (w : World) (_h1 : (Lit.int .i64 rows).wf = true) (_h2 : (Lit.int .i64 cols).wf = true) (_h3 : (Lit.int .i64 y).wf = true) (_h4 : (Lit.int .i64 x).wf = true) :
    Calls Try.prog 6 #[.int .i64 rows, .int .i64 cols, .agg #[.int .i64 dx, .int .i64 dy], .int .i64 y, .int .i64 x] w fun e w' => e = .returned (.bool true) ∧ Below w.heap.size w w' := by
  clear _h1 _h2 _h3 _h4
  obtain ⟨r, HR⟩ : ∃ r, Hid (lineOf rows cols dx dy y x = r) := ⟨_, hide rfl⟩
  have HG0 := hide (show LDirAt (w.alloc (.cells #[.int .i64 dx, .int .i64 dy] 32)) w.heap.size dx dy from heap_alloc_new w _)
  have HB0 := hide ((Below.refl w.heap.size w).alloc (Nat.le_refl _) (.cells #[.int .i64 dx, .int .i64 dy] 32))
  go_enter Try.func6, Try.ntmps6
  go_wp2_with fail
  refine (toDirection_any dx dy _).mono ?_
  rintro e w1 ⟨rfl, hb⟩
  have HG1 := hide (ldirAt_below HG0.out hb); have HB1 := hide (HB0.out.trans (hb.mono HB0.out.size)); clear hb
  go_wp2_with fail
  refine (specLineOf_any rows cols dx dy y x _).mono ?_
  rw [HR.out]
  rintro e w2 ⟨rfl, hb⟩
  have HG2 := hide (ldirAt_below HG1.out hb); have HB2 := hide (HB1.out.trans (hb.mono HB1.out.size)); clear hb
  go_wp2_with (with_reducible refine wpList_loadLDir HG2.out rfl _ rfl rfl ?_)
  refine (toDirection_any dx dy _).mono ?_
  rintro e w3 ⟨rfl, hb⟩
  have HB3 := hide (HB2.out.trans (hb.mono HB2.out.size)); clear hb
  go_wp2_with fail
  refine (implLineOf_any rows cols dx dy y x _).mono ?_
  rw [HR.out]
  rintro e w4 ⟨rfl, hb⟩
  have HB4 := hide (HB3.out.trans (hb.mono HB3.out.size)); clear hb
  go_wp2
  go_ret
  exact ⟨rfl, HB4.out⟩

set_option maxHeartbeats 1000000 in
theorem lawCountLines_walk (rows cols dx dy : Int) (w : World) (_h1 : (Lit.int .i64 rows).wf = true) (_h2 : (Lit.int .i64 cols).wf = true) :
    Calls Try.prog 7 #[.int .i64 rows, .int .i64 cols, .agg #[.int .i64 dx, .int .i64 dy]] w fun e w' => e = .returned (.bool true) ∧ Below w.heap.size w w' := by
  clear _h1 _h2
  obtain ⟨r, HR⟩ : ∃ r, Hid ((if (sizeOk rows cols && dirOk dx dy) = true then countL rows cols dx dy else -1) = r) := ⟨_, hide rfl⟩
  have HG0 := hide (show LDirAt (w.alloc (.cells #[.int .i64 dx, .int .i64 dy] 32)) w.heap.size dx dy from heap_alloc_new w _)
  have HB0 := hide ((Below.refl w.heap.size w).alloc (Nat.le_refl _) (.cells #[.int .i64 dx, .int .i64 dy] 32))
  go_enter Try.func7, Try.ntmps7
  go_wp2_with fail
  refine (toDirection_any dx dy _).mono ?_
  rintro e w1 ⟨rfl, hb⟩
  have HG1 := hide (ldirAt_below HG0.out hb); have HB1 := hide (HB0.out.trans (hb.mono HB0.out.size)); clear hb
  go_wp2_with fail
  refine (specCountLines_any rows cols dx dy _).mono ?_
  rw [HR.out]
  rintro e w2 ⟨rfl, hb⟩
  have HG2 := hide (ldirAt_below HG1.out hb); have HB2 := hide (HB1.out.trans (hb.mono HB1.out.size)); clear hb
  go_wp2_with (with_reducible refine wpList_loadLDir HG2.out rfl _ rfl rfl ?_)
  refine (toDirection_any dx dy _).mono ?_
  rintro e w3 ⟨rfl, hb⟩
  have HB3 := hide (HB2.out.trans (hb.mono HB2.out.size)); clear hb
  go_wp2_with fail
  refine (implCountLines_any rows cols dx dy _).mono ?_
  rw [HR.out]
  rintro e w4 ⟨rfl, hb⟩
  have HB4 := hide (HB3.out.trans (hb.mono HB3.out.size)); clear hb
  go_wp2
  go_ret
  exact ⟨rfl, HB4.out⟩
end Go.Proofs.Yteogbddbafkieaa
