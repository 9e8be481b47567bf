/-
  CountLines, of the model and of the program.
-/
import Derived.Test.YteogbddbafkieaaLineOf
namespace Go.Proofs.Yteogbddbafkieaa
open Go.RowKit

theorem lnum_range {rows cols dx dy y x : Int} (hn : Near dx dy) (r1 : 1 ≤ rows) (r2 : rows ≤ 5) (c1 : 1 ≤ cols) (c2 : cols ≤ 5) (y1 : 0 ≤ y) (y2 : y < rows) (x1 : 0 ≤ x) (x2 : x < cols) :
    0 ≤ lnum dx dy cols y x ∧ lnum dx dy cols y x ≤ 40 ∧ lnum dx dy cols y x ≤ max (lnum dx dy cols (rows - 1) 0) (lnum dx dy cols (rows - 1) (cols - 1)) := by
  obtain ⟨n1, n2, n3, n4⟩ := hn
  have hx : dx = 0 ∨ dx = 1 ∨ dx = 2 ∨ dx = 3 := by omega
  have hy : dy = -3 ∨ dy = -2 ∨ dy = -1 ∨ dy = 0 ∨ dy = 1 ∨ dy = 2 ∨ dy = 3 := by omega
  unfold lnum least
  rcases hx with rfl | rfl | rfl | rfl <;> rcases hy with rfl | rfl | rfl | rfl | rfl | rfl | rfl <;> omega
/-- The greatest number of a line, plus 1. -/
def countL (rows cols dx dy : Int) : Int := 1 + max (lnum dx dy cols (rows - 1) 0) (lnum dx dy cols (rows - 1) (cols - 1))
/-- n is the greatest 1 + number of the cells up to (k, j). -/
def UpTo (dx dy cols k j n : Int) : Prop :=
  (0 ≤ n ∧ n ≤ 41) ∧ (∀ y x, 0 ≤ y → 0 ≤ x → x < cols → (y < k ∨ (y = k ∧ x < j)) → 1 + lnum dx dy cols y x ≤ n) ∧ (n = 0 ∨ ∃ y x, 0 ≤ y ∧ 0 ≤ x ∧ x < cols ∧ (y < k ∨ (y = k ∧ x < j)) ∧ n = 1 + lnum dx dy cols y x)
theorem upTo_zero (dx dy cols : Int) : UpTo dx dy cols 0 0 0 := ⟨by omega, fun y x h1 h2 h3 h4 => by omega, .inl rfl⟩
theorem upTo_step {rows cols dx dy k j n : Int} (hn : Near dx dy) (r1 : 1 ≤ rows) (r2 : rows ≤ 5) (c1 : 1 ≤ cols) (c2 : cols ≤ 5) (y1 : 0 ≤ k) (y2 : k < rows) (x1 : 0 ≤ j) (x2 : j < cols) (h : UpTo dx dy cols k j n) :
    UpTo dx dy cols k (j + 1) (max n (1 + lnum dx dy cols k j)) := by
  obtain ⟨⟨h1, h2⟩, h3, h4⟩ := h
  obtain ⟨l1, l2, -⟩ := lnum_range hn r1 r2 c1 c2 y1 y2 x1 x2
  refine ⟨by omega, fun y x q1 q2 q3 q4 => ?_, ?_⟩
  · by_cases e : y = k ∧ x = j
    · obtain ⟨rfl, rfl⟩ := e; omega
    · have := h3 y x q1 q2 q3 (by omega); omega
  · by_cases e : n ≤ 1 + lnum dx dy cols k j
    · exact .inr ⟨k, j, y1, x1, x2, by omega, by omega⟩
    · rcases h4 with h4 | ⟨y, x, q1, q2, q3, q4, q5⟩
      · omega
      · exact .inr ⟨y, x, q1, q2, q3, by omega, by omega⟩
theorem upTo_row {cols dx dy k n : Int} (_c : 0 < cols) (h : UpTo dx dy cols k cols n) : UpTo dx dy cols (k + 1) 0 n := by
  obtain ⟨h1, h3, h4⟩ := h
  refine ⟨h1, fun y x q1 q2 q3 q4 => h3 y x q1 q2 q3 (by omega), ?_⟩
  rcases h4 with h4 | ⟨y, x, q1, q2, q3, q4, q5⟩
  · exact .inl h4
  · exact .inr ⟨y, x, q1, q2, q3, by omega, q5⟩
theorem upTo_all {rows cols dx dy n : Int} (hn : Near dx dy) (r1 : 1 ≤ rows) (r2 : rows ≤ 5) (c1 : 1 ≤ cols) (c2 : cols ≤ 5) (h : UpTo dx dy cols rows 0 n) : n = countL rows cols dx dy := by
  obtain ⟨⟨h1, h2⟩, h3, h4⟩ := h
  have a := h3 (rows - 1) 0 (by omega) (by omega) (by omega) (by omega)
  have b := h3 (rows - 1) (cols - 1) (by omega) (by omega) (by omega) (by omega)
  obtain ⟨p1, -⟩ := lnum_range hn r1 r2 c1 c2 (show 0 ≤ rows - 1 by omega) (by omega) (show 0 ≤ (0 : Int) by omega) (by omega)
  unfold countL
  rcases h4 with h4 | ⟨y, x, q1, q2, q3, q4, q5⟩
  · omega
  · obtain ⟨-, -, q⟩ := lnum_range hn r1 r2 c1 c2 q1 (by omega) q2 q3
    omega

set_option maxHeartbeats 400000 in
theorem specCountLines_size (rows cols dx dy : Int) (w : World) (hs : sizeOk rows cols = false) :
    Calls Try.prog 27 #[.int .i64 rows, .int .i64 cols, .agg #[.int .i64 dx, .int .i64 dy]] w fun e w' => e = .returned (.int .i64 (-1)) ∧ Below w.heap.size w w' := by
  have HS := hide hs
  clear hs
  go_enter Try.func27, Try.ntmps27
  go_wp2_with (first | (with_reducible refine (l03Size_any rows cols _).mono ?_; rw [HS.out]; rintro e w' ⟨rfl, rfl⟩))
  go_ret
  exact ⟨rfl, (Below.refl _ _).alloc (Nat.le_refl _) _⟩
set_option maxHeartbeats 400000 in
theorem specCountLines_dir (rows cols dx dy : Int) (w : World) (hs : sizeOk rows cols = true) (hd : dirOk dx dy = false) :
    Calls Try.prog 27 #[.int .i64 rows, .int .i64 cols, .agg #[.int .i64 dx, .int .i64 dy]] w fun e w' => e = .returned (.int .i64 (-1)) ∧ Below w.heap.size w w' := by
  have HS := hide hs; have HD := hide hd
  clear hs hd
  go_enter Try.func27, Try.ntmps27
  go_wp2_with (first | (with_reducible refine (l03Size_any rows cols _).mono ?_; rw [HS.out]; rintro e w' ⟨rfl, rfl⟩) | ((with_reducible refine (specDirectionOk_any dx dy _).mono ?_); rw [HD.out]; rintro e w1 ⟨rfl, hb⟩; have HG := hide (dirAt_below (heap_alloc_new w _) hb); have HB := hide (((Below.refl _ _).alloc (Nat.le_refl _) _).trans (hb.mono (by simp))); clear hb))
  go_ret
  exact ⟨rfl, HB.out⟩
set_option maxHeartbeats 1000000 in
theorem specCountLines_yes (rows cols dx dy : Int) (w : World) (hs : sizeOk rows cols = true) (hd : dirOk dx dy = true) :
    Calls Try.prog 27 #[.int .i64 rows, .int .i64 cols, .agg #[.int .i64 dx, .int .i64 dy]] w fun e w' => e = .returned (.int .i64 (countL rows cols dx dy)) ∧ Below w.heap.size w w' := by
  obtain ⟨⟨r1, r2⟩, c1, c2⟩ := sizeOk_yes hs
  have HL : Hid (∀ y x : Int, 0 ≤ y → y < rows → 0 ≤ x → x < cols → lineOf rows cols dx dy y x = lnum dx dy cols y x) := hide fun y x q1 q2 q3 q4 => by rw [lineOf, if_pos ⟨⟨hs, hd⟩, ⟨q1, q2⟩, q3, q4⟩]
  have HS := hide hs; have HD := hide hd; have HN := hide (near_of hd)
  clear hs hd
  obtain ⟨M, HM⟩ : ∃ M, Hid (M = countL rows cols dx dy) := ⟨_, hide rfl⟩
  rw [← HM.out]
  go_enter Try.func27, Try.ntmps27
  go_wp2_with (first | (with_reducible refine (l03Size_any rows cols _).mono ?_; rw [HS.out]; rintro e w' ⟨rfl, rfl⟩) | ((with_reducible refine (specDirectionOk_any dx dy _).mono ?_); rw [HD.out]; rintro e w1 ⟨rfl, hb⟩; have HG := hide (dirAt_below (heap_alloc_new w _) hb); have HB := hide (((Below.refl _ _).alloc (Nat.le_refl _) _).trans (hb.mono (by simp))); clear hb))
  go_loopw [7, 8] (fun s t wr => ∃ k n : Int, (0 ≤ k ∧ k ≤ rows) ∧ s = .int .i64 n ∧ t = .int .i64 k ∧ UpTo dx dy cols k 0 n ∧ DirAt wr w.heap.size dx dy ∧ Below w.heap.size w wr) (fun _ t _ => (rows - intOf t).toNat)
  case atStart => exact ⟨0, 0, by omega, rfl, rfl, upTo_zero _ _ _, HG.out, HB.out⟩
  case round =>
    obtain ⟨k, n, ⟨k1, k2⟩, rfl, rfl, hu, hg, hb⟩ := hrel
    have HU := hide hu; have HG1 := hide hg; have HB1 := hide hb
    clear hu hg hb
    by_cases hlt : k < rows
    · go_wp2
      go_loopw [7, 9] (fun s t wr => ∃ j n : Int, (0 ≤ j ∧ j ≤ cols) ∧ s = .int .i64 n ∧ t = .int .i64 j ∧ UpTo dx dy cols k j n ∧ DirAt wr w.heap.size dx dy ∧ Below w.heap.size w wr) (fun _ t _ => (cols - intOf t).toNat)
      case atStart => exact ⟨0, n, by omega, rfl, rfl, HU.out, HG1.out, HB1.out⟩
      case round =>
        obtain ⟨j, n', ⟨j1, j2⟩, rfl, rfl, hu, hg, hb⟩ := hrel
        have HU2 := hide hu; have HG2 := hide hg; have HB2 := hide hb
        clear hu hg hb
        by_cases hlj : j < cols
        · obtain ⟨l1, l2, -⟩ := lnum_range HN.out r1 r2 c1 c2 k1 hlt j1 hlj
          have HST := hide (upTo_step HN.out r1 r2 c1 c2 k1 hlt j1 hlj HU2.out)
          have HE := hide (HL.out k j k1 hlt j1 hlj)
          obtain ⟨q1, q2⟩ := HU2.out.1
          go_wp2_with (first | (with_reducible refine wpList_loadDir HG2.out rfl _ rfl rfl ?_) | ((with_reducible refine (specLineOf_any rows cols dx dy k j _).mono ?_); rw [HE.out]; rintro e w3 ⟨rfl, hb⟩; have HG3 := hide (dirAt_below HG2.out hb); have HB3 := hide (HB2.out.trans (hb.mono HB2.out.size)); clear hb))
          all_goals
            go_roundw
            case rel => exact ⟨j + 1, _, by omega, congrArg (Value.int .i64) (by split <;> omega), rfl, HST.out, HG3.out, HB3.out⟩
            case measure => simp [intOf]; omega
        · obtain rfl : j = cols := by omega
          have HR := hide (upTo_row (by omega) HU2.out)
          go_wp2
          go_roundw
          case rel => exact ⟨k + 1, n', by omega, rfl, rfl, HR.out, HG2.out, HB2.out⟩
          case measure => simp [intOf]; omega
    · obtain rfl : k = rows := by omega
      have HE := hide (upTo_all HN.out r1 r2 c1 c2 HU.out)
      go_wp2
      go_ret
      exact ⟨ret_int (by rw [HM.out]; exact HE.out), HB1.out⟩

theorem max_if (a b : Int) : (if a < b then b else a) = max a b := by split <;> omega
theorem exec_max {ρ : Operand → Value} {o : Oper} {w : World} {x y : Operand} {a b : Int} (ho : o.op = .call { callee := .builtin .max, args := #[x, y], argTypes := #[3, 3] }) (ht : o.type = 3) (hx : ρ x = .int .i64 a) (hy : ρ y = .int .i64 b) : (execOp ρ o).run Try.prog w = .ok (.value (.int .i64 (max a b))) w := by
  unfold execOp
  simp only [ho, ht]
  rw [← max_if]
  go_simp
set_option maxHeartbeats 400000 in
theorem implCountLines_no (rows cols dx dy : Int) (w : World) (hs : (sizeOk rows cols && dirOk dx dy) = false) :
    Calls Try.prog 28 #[.int .i64 rows, .int .i64 cols, .agg #[.int .i64 dx, .int .i64 dy]] w fun e w' => e = .returned (.int .i64 (-1)) ∧ Below w.heap.size w w' := by
  have HS := hide hs
  clear hs
  go_enter Try.func28, Try.ntmps28
  go_wp2_with (first | ((with_reducible refine (sizesOk_any rows cols dx dy _).mono ?_); rw [HS.out]; rintro e w1 ⟨rfl, hb⟩; have HG := hide (dirAt_below (heap_alloc_new w _) hb); have HB := hide (((Below.refl _ _).alloc (Nat.le_refl _) _).trans (hb.mono (by simp))); clear hb))
  go_ret
  exact ⟨rfl, HB.out⟩
set_option maxHeartbeats 1000000 in
theorem implCountLines_yes (rows cols dx dy : Int) (w : World) (hs : sizeOk rows cols = true) (hd : dirOk dx dy = true) :
    Calls Try.prog 28 #[.int .i64 rows, .int .i64 cols, .agg #[.int .i64 dx, .int .i64 dy]] w fun e w' => e = .returned (.int .i64 (countL rows cols dx dy)) ∧ Below w.heap.size w w' := by
  obtain ⟨⟨r1, r2⟩, c1, c2⟩ := sizeOk_yes hs
  have HN := hide (near_of hd)
  have HS : Hid ((sizeOk rows cols && dirOk dx dy) = true) := hide (by rw [hs, hd]; rfl)
  clear hs hd
  go_enter Try.func28, Try.ntmps28
  go_wp2_with (first | ((with_reducible refine (sizesOk_any rows cols dx dy _).mono ?_); rw [HS.out]; rintro e w1 ⟨rfl, hb⟩; have HG := hide (dirAt_below (heap_alloc_new w _) hb); have HB := hide (((Below.refl _ _).alloc (Nat.le_refl _) _).trans (hb.mono (by simp))); clear hb))
  obtain ⟨p1, p2, -⟩ := lnum_range HN.out r1 r2 c1 c2 (show 0 ≤ rows - 1 by omega) (by omega) (show 0 ≤ (0 : Int) by omega) (by omega)
  obtain ⟨q1, q2, -⟩ := lnum_range HN.out r1 r2 c1 c2 (show 0 ≤ rows - 1 by omega) (by omega) (show 0 ≤ cols - 1 by omega) (by omega)
  have l1 : IntKind.i64.wrap (rows - 1) = rows - 1 := IntWalk.i64_in _ (by omega)
  have l2 : IntKind.i64.wrap (cols - 1) = cols - 1 := IntWalk.i64_in _ (by omega)
  have l3 : IntKind.i64.wrap (1 + max (lnum dx dy cols (rows - 1) 0) (lnum dx dy cols (rows - 1) (cols - 1))) = 1 + max (lnum dx dy cols (rows - 1) 0) (lnum dx dy cols (rows - 1) (cols - 1)) := IntWalk.i64_in _ (by omega)
  obtain ⟨fs, hfs⟩ : ∃ fs : List FactP, fs = [isV (.int .i64 cols), isV (.agg #[.int .i64 dx, .int .i64 dy]), isV (.int .i64 rows), isV (.int .i64 (rows - 1)), isV (.int .i64 (lnum dx dy cols (rows - 1) 0)), isV (.int .i64 cols), isV (.agg #[.int .i64 dx, .int .i64 dy]), isV (.int .i64 rows), isV (.int .i64 (rows - 1)), isV (.int .i64 cols), isV (.int .i64 (cols - 1)), isV (.int .i64 (lnum dx dy cols (rows - 1) (cols - 1))), isV (.int .i64 (max (lnum dx dy cols (rows - 1) 0) (lnum dx dy cols (rows - 1) (cols - 1)))), isV (.int .i64 (countL rows cols dx dy))] := ⟨_, rfl⟩
  have hst : ∀ f ∈ fs, StableP f := by
    rw [hfs]; intro f hf
    simp only [List.mem_cons, List.not_mem_nil, or_false] at hf
    rcases hf with rfl | rfl | rfl | rfl | rfl | rfl | rfl | rfl | rfl | rfl | rfl | rfl | rfl | rfl <;> exact stable_v _
  subst hfs
  refine wp_region_tail (S := fun w2 => DirAt w2 w.heap.size dx dy ∧ Below w.heap.size w w2) [isV (.int .i64 cols), isV (.agg #[.int .i64 dx, .int .i64 dy]), isV (.int .i64 rows), isV (.int .i64 (rows - 1)), isV (.int .i64 (lnum dx dy cols (rows - 1) 0)), isV (.int .i64 cols), isV (.agg #[.int .i64 dx, .int .i64 dy]), isV (.int .i64 rows), isV (.int .i64 (rows - 1)), isV (.int .i64 cols), isV (.int .i64 (cols - 1)), isV (.int .i64 (lnum dx dy cols (rows - 1) (cols - 1))), isV (.int .i64 (max (lnum dx dy cols (rows - 1) 0) (lnum dx dy cols (rows - 1) (cols - 1)))), isV (.int .i64 (countL rows cols dx dy))] [(0, .int .i64 rows), (1, .int .i64 cols), (5, .pointer (some ⟨w.heap.size, 0, none⟩))] _ _ 14 (by kernel_rfl) rfl rfl (by kernel_rfl) (by kernel_rfl) rfl (by kernel_rfl) ?base ⟨HG.out, below_drew HB.out⟩ ?ob rfl ?fin
  case base =>
    intro t v ht
    simp only [List.lookup_cons, List.lookup_nil] at ht
    repeat' split at ht
    all_goals first | (cases ht; done) | (obtain rfl := Option.some.inj ht; rename_i hh; obtain rfl := eq_of_beq hh; rfl)
  case ob =>
    exact ⟨obt_move (.int .i64 cols) rfl rfl rfl (srt_b 1 rfl),
      obt_one (.agg #[.int .i64 dx, .int .i64 dy]) rfl rfl (srt_b 5 rfl) (fun ρ w2 hS hx => exec_loadDir rfl hx hS.1),
      obt_move (.int .i64 rows) rfl rfl rfl (srt_b 0 rfl),
      obt_two (.int .i64 (rows - 1)) rfl rfl (srt_j 2 rfl (by kernel_rfl) rfl) (srt_c (v := .int .i64 1)) (fun ρ w2 hS hx hy => by go_simp),
      obt_call hst [.int .i64 cols, .agg #[.int .i64 dx, .int .i64 dy], .int .i64 (rows - 1), .int .i64 0] rfl Try.func46 (by kernel_rfl) (by kernel_rfl) rfl ⟨(srt_j 0 rfl (by kernel_rfl) rfl), (srt_j 1 rfl (by kernel_rfl) rfl), (srt_j 3 rfl (by kernel_rfl) rfl), srt_c, trivial⟩ (fun w2 hS => (lineNumber_any dx dy cols (rows - 1) 0 w2 HN.out ⟨c1, c2⟩ ⟨by omega, by omega⟩ ⟨by omega, by omega⟩).mono fun e w3 hh => ⟨_, hh.1, ⟨dirAt_below hS.1 hh.2, hS.2.trans (hh.2.mono hS.2.size)⟩, hh.2, rfl⟩),
      obt_move (.int .i64 cols) rfl rfl rfl (srt_b 1 rfl),
      obt_one (.agg #[.int .i64 dx, .int .i64 dy]) rfl rfl (srt_b 5 rfl) (fun ρ w2 hS hx => exec_loadDir rfl hx hS.1),
      obt_move (.int .i64 rows) rfl rfl rfl (srt_b 0 rfl),
      obt_two (.int .i64 (rows - 1)) rfl rfl (srt_j 7 rfl (by kernel_rfl) rfl) (srt_c (v := .int .i64 1)) (fun ρ w2 hS hx hy => by go_simp),
      obt_move (.int .i64 cols) rfl rfl rfl (srt_b 1 rfl),
      obt_two (.int .i64 (cols - 1)) rfl rfl (srt_j 9 rfl (by kernel_rfl) rfl) (srt_c (v := .int .i64 1)) (fun ρ w2 hS hx hy => by go_simp),
      obt_call hst [.int .i64 cols, .agg #[.int .i64 dx, .int .i64 dy], .int .i64 (rows - 1), .int .i64 (cols - 1)] rfl Try.func46 (by kernel_rfl) (by kernel_rfl) rfl ⟨(srt_j 5 rfl (by kernel_rfl) rfl), (srt_j 6 rfl (by kernel_rfl) rfl), (srt_j 8 rfl (by kernel_rfl) rfl), (srt_j 10 rfl (by kernel_rfl) rfl), trivial⟩ (fun w2 hS => (lineNumber_any dx dy cols (rows - 1) (cols - 1) w2 HN.out ⟨c1, c2⟩ ⟨by omega, by omega⟩ ⟨by omega, by omega⟩).mono fun e w3 hh => ⟨_, hh.1, ⟨dirAt_below hS.1 hh.2, hS.2.trans (hh.2.mono hS.2.size)⟩, hh.2, rfl⟩),
      obt_two (.int .i64 (max (lnum dx dy cols (rows - 1) 0) (lnum dx dy cols (rows - 1) (cols - 1)))) rfl rfl (srt_j 4 rfl (by kernel_rfl) rfl) (srt_j 11 rfl (by kernel_rfl) rfl) (fun ρ w2 hS hx hy => exec_max rfl rfl hx hy),
      obt_two (.int .i64 (countL rows cols dx dy)) rfl rfl (srt_c (v := .int .i64 1)) (srt_j 12 rfl (by kernel_rfl) rfl) (fun ρ w2 hS hx hy => by rw [countL]; go_simp),
      trivial⟩
  case fin =>
    intro a' w' h1 h2 h3 hS h4 K hK
    have hv : a'.eval (.tmp 25) = .int .i64 (countL rows cols dx dy) := h4 13 25 rfl (by decide)
    refine tail_assign rfl hv ?_ K hK
    go_wp2
    exact bodyPost_ret (results_tmp rfl _ _ _) rfl ⟨congrArg Ending.returned (set_get (n := 26) h1 (by decide)), hS.2⟩
theorem implCountLines_any (rows cols dx dy : Int) (w : World) :
    Calls Try.prog 28 #[.int .i64 rows, .int .i64 cols, .agg #[.int .i64 dx, .int .i64 dy]] w fun e w' => e = .returned (.int .i64 (if (sizeOk rows cols && dirOk dx dy) = true then countL rows cols dx dy else -1)) ∧ Below w.heap.size w w' := by
  cases hs : (sizeOk rows cols && dirOk dx dy) with
  | false => exact implCountLines_no rows cols dx dy w hs
  | true =>
    rw [Bool.and_eq_true] at hs
    exact implCountLines_yes rows cols dx dy w hs.1 hs.2
theorem specCountLines_any (rows cols dx dy : Int) (w : World) :
    Calls Try.prog 27 #[.int .i64 rows, .int .i64 cols, .agg #[.int .i64 dx, .int .i64 dy]] w fun e w' => e = .returned (.int .i64 (if (sizeOk rows cols && dirOk dx dy) = true then countL rows cols dx dy else -1)) ∧ Below w.heap.size w w' := by
  cases hs : sizeOk rows cols with
  | false => exact specCountLines_size rows cols dx dy w hs
  | true =>
    cases hd : dirOk dx dy with
    | false => exact specCountLines_dir rows cols dx dy w hs hd
    | true => exact specCountLines_yes rows cols dx dy w hs hd
end Go.Proofs.Yteogbddbafkieaa
