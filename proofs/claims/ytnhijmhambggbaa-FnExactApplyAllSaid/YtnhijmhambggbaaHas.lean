/-
  hasSwitch of the program.
-/
import Derived.Test.YtnhijmhambggbaaSwV
import Derived.Test.YtnhijmhambggbaaOv
namespace Go.Proofs.Ytnhijmhambggbaa
open Go.RowKit

theorem exec_loadVec {P : Program} {ρ : Operand → Value} {o : Oper} {w : World} {x : Operand} {g n m : Nat} {T T' e : TypeId} {F : Nat → Int} (ho : o.op = .load T' x) (hx : ρ x = .pointer (some ⟨g, 0, none⟩)) (hb : Blk w g T n F) (hu : P.underlying T' = some (.array m e)) (hi : (P.info? T').map (·.size) = some n) :
    (execOp ρ o).run P w = .ok (.value (.agg (vec n F))) w := by
  unfold execOp
  simp only [ho, hx, Instr.loadAt, Instr.sureAddr, Sem.run_bind, Sem.run_pure, Result.andThen_ok, run_loadVar_row w g T T' (vec n F) (0, 0) _ hb hu rfl (by rw [hi, vec_size])]
/-- The whole variable is read, where a guard asks for it. -/
theorem wpList_loadVecW {P : Program} {ops : Array Oper} {rest : List Oper} {o : Oper} {a : Act} {Q : Exit → Act → World → Prop} {W : World} {g n m : Nat} {T T' e : TypeId} {F : Nat → Int} (hb : Blk W g T n F)
    (d : Tmp) (_hd : o.dst = some d) (j : Nat) (want : Bool) (hg : o.guard = some (j, want)) (b : Bool) (hy : yielded ops a.tmps j = some b) (hw : b = want) (x : Operand) (ho : o.op = .load T' x) (hx : a.eval x = .pointer (some ⟨g, 0, none⟩)) (hu : P.underlying T' = some (.array m e)) (hi : (P.info? T').map (·.size) = some n)
    (h : wpList P ops Q rest (a.put o.dst (.agg (vec n F))) W) : wpList P ops Q (o :: rest) a W :=
  wpList_step fun K hK => by rw [if_pos (show Region.wanted o (yielded ops a.tmps) = true by unfold Region.wanted; rw [hg]; simp only [hy, hw, beq_self_eq_true])]; exact wp_load_row T' x ho g hx T (vec n F) (0, 0) _ hb hu rfl (by rw [hi, vec_size]) (hK _ _ h)
theorem exec_fieldSw {ρ : Operand → Value} {o : Oper} {w : World} {x : Operand} {g k : Nat} (ho : o.op = .fieldAddr 42 x k) (hx : ρ x = .pointer (some ⟨g, 0, none⟩)) (hk : k < 4) : (execOp ρ o).run Try.prog w = .ok (.value (.pointer (some ⟨g, k, none⟩))) w := by
  unfold execOp
  simp only [ho, hx]
  have : k = 0 ∨ k = 1 ∨ k = 2 ∨ k = 3 := by omega
  rcases this with rfl | rfl | rfl | rfl <;> go_simp
theorem exec_loadInt {ρ : Operand → Value} {o : Oper} {w : World} {x : Operand} {g k : Nat} {z : Int} (ho : o.op = .load 3 x) (hx : ρ x = .pointer (some ⟨g, k, none⟩)) (hc : w.cell? ⟨g, k, none⟩ = some (.int .i64 z)) : (execOp ρ o).run Try.prog w = .ok (.value (.int .i64 z)) w := by
  unfold execOp
  simp only [ho, hx]
  go_simp
set_option maxHeartbeats 1000000 in
theorem hasSwitch_no (F : Nat → Int) (s : Sw) (w : World) (h : ¬ (s.y1 < s.y2 ∧ s.x1 < s.x2)) :
    Calls Try.prog 81 #[.agg (vec 25 F), swV s] w fun e w' => e = .returned (.bool (hasF F s)) ∧ Below w.heap.size w w' := by
  have HN : Hid (hasF F s = false) := hide (by
    unfold hasF
    by_cases e : s.y1 < s.y2
    · rw [decide_eq_false (show ¬ s.x1 < s.x2 from fun e2 => h ⟨e, e2⟩)]; simp
    · rw [decide_eq_false e]; simp)
  rw [HN.out]
  go_enter Try.func81, Try.ntmps81
  go_wp2_with (first | (with_reducible refine wpList_boxVec 25 F 2 rfl rfl (.tmp 0) rfl rfl ?_; intro w1 h1 b1 s1) | (with_reducible refine wpList_boxSw s 3 rfl rfl (.tmp 1) rfl rfl ?_; intro w2 h2 b2 s2; have hb1 := blk_below h1 b2; have hbw := b1.trans (b2.mono b1.size); rw [s1] at h2 s2 ⊢; clear h1 b1 s1 b2; obtain ⟨c0, c1, c2, c3⟩ := swAt_cells h2))
  all_goals first
    | (exfalso; omega)
    | (go_ret; exact ⟨rfl, hbw⟩)
set_option maxRecDepth 100000 in
set_option maxHeartbeats 2000000 in
theorem hasSwitch_yes (F : Nat → Int) (s : Sw) (w : World) (h1' : s.y1 < s.y2) (h2' : s.x1 < s.x2) :
    Calls Try.prog 81 #[.agg (vec 25 F), swV s] w fun e w' => e = .returned (.bool (hasF F s)) ∧ Below w.heap.size w w' := by
  have HH : Hid (hasF F s = (decide (cellF F s.y1 s.x1 ≠ cellF F s.y1 s.x2) && decide (cellF F s.y2 s.x1 = cellF F s.y1 s.x2) && decide (cellF F s.y2 s.x2 = cellF F s.y1 s.x1))) := hide (by
    unfold hasF; rw [decide_eq_true h1', decide_eq_true h2']; simp)
  rw [HH.out]
  obtain ⟨A, hA⟩ : ∃ A, A = cellF F s.y1 s.x1 := ⟨_, rfl⟩
  obtain ⟨B, hB⟩ : ∃ B, B = cellF F s.y1 s.x2 := ⟨_, rfl⟩
  obtain ⟨C, hC⟩ : ∃ C, C = cellF F s.y2 s.x1 := ⟨_, rfl⟩
  obtain ⟨D, hD⟩ : ∃ D, D = cellF F s.y2 s.x2 := ⟨_, rfl⟩
  have HA := hide hA; have HB := hide hB; have HC := hide hC; have HD := hide hD
  rw [← hA, ← hB, ← hC, ← hD]
  clear hA hB hC hD HH
  go_enter Try.func81, Try.ntmps81
  go_wp2_with (first | (with_reducible refine wpList_boxVec 25 F 2 rfl rfl (.tmp 0) rfl rfl ?_; intro w1 h1 b1 s1) | (with_reducible refine wpList_boxSw s 3 rfl rfl (.tmp 1) rfl rfl ?_; intro w2 h2 b2 s2; have hb1 := blk_below h1 b2; have hbw := b1.trans (b2.mono b1.size); rw [s1] at h2 s2 ⊢; clear h1 b1 s1 b2; obtain ⟨c0, c1, c2, c3⟩ := swAt_cells h2))
  obtain ⟨fs, hfs⟩ : ∃ fs : List FactP, fs = [isV (.agg (vec 25 F)), isV (.pointer (some ⟨w.heap.size + 1, 0, none⟩)), isV (.int .i64 s.y1), isV (.pointer (some ⟨w.heap.size + 1, 2, none⟩)), isV (.int .i64 s.x1), isV (.int .i64 A), isV (.agg (vec 25 F)), isV (.pointer (some ⟨w.heap.size + 1, 0, none⟩)), isV (.int .i64 s.y1), isV (.pointer (some ⟨w.heap.size + 1, 3, none⟩)), isV (.int .i64 s.x2), isV (.int .i64 B), isV (.int .i64 A)] := ⟨_, rfl⟩
  have hst : ∀ f ∈ fs, StableP f := by
    rw [hfs]; intro f hf
    simp only [List.mem_cons, List.not_mem_nil, or_false] at hf
    rcases hf with rfl | rfl | rfl | rfl | rfl | rfl | rfl | rfl | rfl | rfl | rfl | rfl | rfl <;> exact stable_v _
  subst hfs
  refine wp_region_tail (S := fun w2 => Blk w2 w.heap.size 88 25 F ∧ SwAt w2 (w.heap.size + 1) s ∧ Below w.heap.size w w2) [isV (.agg (vec 25 F)), isV (.pointer (some ⟨w.heap.size + 1, 0, none⟩)), isV (.int .i64 s.y1), isV (.pointer (some ⟨w.heap.size + 1, 2, none⟩)), isV (.int .i64 s.x1), isV (.int .i64 A), isV (.agg (vec 25 F)), isV (.pointer (some ⟨w.heap.size + 1, 0, none⟩)), isV (.int .i64 s.y1), isV (.pointer (some ⟨w.heap.size + 1, 3, none⟩)), isV (.int .i64 s.x2), isV (.int .i64 B), isV (.int .i64 A)] [(2, .pointer (some ⟨w.heap.size, 0, none⟩)), (3, .pointer (some ⟨w.heap.size + 1, 0, none⟩))] _ _ 13 (by kernel_rfl) rfl rfl (by kernel_rfl) (by kernel_rfl) rfl (by kernel_rfl) ?base ⟨hb1, h2, below_drew hbw⟩ ?ob rfl ?fin
  case base =>
    intro t v ht
    simp only [List.lookup_cons, List.lookup_nil] at ht
    repeat' split at ht
    all_goals first | (cases ht; done) | (obtain rfl := Option.some.inj ht; rename_i hh; obtain rfl := eq_of_beq hh; rfl)
  case ob =>
    exact ⟨obt_one (.agg (vec 25 F)) rfl rfl (srt_b 2 rfl) (fun ρ w2 hS hx => exec_loadVec rfl hx hS.1 Try.underlying88 Try.sizeImg),
      obt_one (.pointer (some ⟨w.heap.size + 1, 0, none⟩)) rfl rfl (srt_b 3 rfl) (fun ρ w2 hS hx => exec_fieldSw rfl hx (by decide)),
      obt_one (.int .i64 s.y1) rfl rfl (srt_j 1 rfl (by kernel_rfl) rfl) (fun ρ w2 hS hx => exec_loadInt rfl hx (swAt_cells hS.2.1).1),
      obt_one (.pointer (some ⟨w.heap.size + 1, 2, none⟩)) rfl rfl (srt_b 3 rfl) (fun ρ w2 hS hx => exec_fieldSw rfl hx (by decide)),
      obt_one (.int .i64 s.x1) rfl rfl (srt_j 3 rfl (by kernel_rfl) rfl) (fun ρ w2 hS hx => exec_loadInt rfl hx (swAt_cells hS.2.1).2.2.1),
      obt_call hst [.agg (vec 25 F), .int .i64 s.y1, .int .i64 s.x1] rfl Try.func113 (by kernel_rfl) (by kernel_rfl) rfl ⟨(srt_j 0 rfl (by kernel_rfl) rfl), (srt_j 2 rfl (by kernel_rfl) rfl), (srt_j 4 rfl (by kernel_rfl) rfl), trivial⟩ (fun w2 hS => (by have := cell_any F s.y1 s.x1 w2; rw [← HA.out] at this; exact this.mono fun e w3 hh => ⟨_, hh.1, ⟨blk_below hS.1 hh.2, swAt_below hS.2.1 hh.2, hS.2.2.trans (hh.2.mono hS.2.2.size)⟩, hh.2, rfl⟩)),
      obt_one (.agg (vec 25 F)) rfl rfl (srt_b 2 rfl) (fun ρ w2 hS hx => exec_loadVec rfl hx hS.1 Try.underlying88 Try.sizeImg),
      obt_one (.pointer (some ⟨w.heap.size + 1, 0, none⟩)) rfl rfl (srt_b 3 rfl) (fun ρ w2 hS hx => exec_fieldSw rfl hx (by decide)),
      obt_one (.int .i64 s.y1) rfl rfl (srt_j 7 rfl (by kernel_rfl) rfl) (fun ρ w2 hS hx => exec_loadInt rfl hx (swAt_cells hS.2.1).1),
      obt_one (.pointer (some ⟨w.heap.size + 1, 3, none⟩)) rfl rfl (srt_b 3 rfl) (fun ρ w2 hS hx => exec_fieldSw rfl hx (by decide)),
      obt_one (.int .i64 s.x2) rfl rfl (srt_j 9 rfl (by kernel_rfl) rfl) (fun ρ w2 hS hx => exec_loadInt rfl hx (swAt_cells hS.2.1).2.2.2),
      obt_call hst [.agg (vec 25 F), .int .i64 s.y1, .int .i64 s.x2] rfl Try.func113 (by kernel_rfl) (by kernel_rfl) rfl ⟨(srt_j 6 rfl (by kernel_rfl) rfl), (srt_j 8 rfl (by kernel_rfl) rfl), (srt_j 10 rfl (by kernel_rfl) rfl), trivial⟩ (fun w2 hS => (by have := cell_any F s.y1 s.x2 w2; rw [← HB.out] at this; exact this.mono fun e w3 hh => ⟨_, hh.1, ⟨blk_below hS.1 hh.2, swAt_below hS.2.1 hh.2, hS.2.2.trans (hh.2.mono hS.2.2.size)⟩, hh.2, rfl⟩)),
      obt_assign (.int .i64 A) rfl rfl rfl (srt_j 5 rfl (by kernel_rfl) rfl),
      trivial⟩
  case fin =>
    intro a' w' h1 h2 h3 hS h4 K hK
    have hv : a'.eval (.tmp 30) = .int .i64 B := h4 11 30 rfl (by decide)
    refine tail_assign rfl hv ?_ K hK
    have ha := frame_ov rfl h1 h2 h3 [(19, .agg (vec 25 F)), (20, .pointer (some ⟨w.heap.size + 1, 0, none⟩)), (21, .int .i64 s.y1), (22, .pointer (some ⟨w.heap.size + 1, 2, none⟩)), (23, .int .i64 s.x1), (24, .int .i64 A), (25, .agg (vec 25 F)), (26, .pointer (some ⟨w.heap.size + 1, 0, none⟩)), (27, .int .i64 s.y1), (28, .pointer (some ⟨w.heap.size + 1, 3, none⟩)), (29, .int .i64 s.x2), (30, .int .i64 B), (5, .int .i64 A), (6, a'.tmps.getD 6 undef)] (by kernel_rfl) ⟨h4 0 19 rfl (by decide), h4 1 20 rfl (by decide), h4 2 21 rfl (by decide), h4 3 22 rfl (by decide), h4 4 23 rfl (by decide), h4 5 24 rfl (by decide), h4 6 25 rfl (by decide), h4 7 26 rfl (by decide), h4 8 27 rfl (by decide), h4 9 28 rfl (by decide), h4 10 29 rfl (by decide), h4 11 30 rfl (by decide), h4 12 5 rfl (by decide), rfl, trivial⟩
    dsimp only [ov, List.lookup, Nat.reduceBEq, Nat.reduceAdd] at ha
    show Exit.then _ _ Exit.normal (Act.put a' (some 6) (.int .i64 B)) _
    rw [ha]
    generalize a'.tmps.getD 6 undef = u6
    clear ha h1 h2 h3 h4 hst hK hv
    obtain ⟨hb3, hs3, hw3⟩ := hS
    obtain ⟨d0, d1, d2, d3⟩ := swAt_cells hs3
    by_cases e1 : A = B
    · subst e1
      go_wp2
      go_ret
      exact ⟨ret_bool (by simp), hw3⟩
    · have hne : (A != B) = true := bne_iff_ne.2 e1
      by_cases e2 : C = B
      · have hne2 : (C == B) = true := beq_iff_eq.2 e2
        have E2 := hide e2; have E1 := hide e1
        clear e2 e1
        go_wp2_with (first | (with_reducible refine wpList_loadVecW hb3 35 rfl 3 true rfl true rfl rfl _ rfl rfl Try.underlying88 Try.sizeImg ?_) | ((with_reducible refine (cell_any F s.y2 s.x1 _).mono ?_); rw [← HC.out]; rintro e w4 ⟨rfl, hb4⟩; have hb5 := blk_below hb3 hb4; obtain ⟨f0, f1, f2, f3⟩ := swAt_cells (swAt_below hs3 hb4); have hw4 := hw3.trans (hb4.mono hw3.size)) | (with_reducible refine wpList_loadVecW hb5 45 rfl 13 true rfl true rfl rfl _ rfl rfl Try.underlying88 Try.sizeImg ?_) | ((with_reducible refine (cell_any F s.y2 s.x2 _).mono ?_); rw [← HD.out]; rintro e w5 ⟨rfl, hb6⟩; have hw5 := hw4.trans (hb6.mono hw4.size)))
        go_ret
        exact ⟨ret_bool (by rw [Bool.eq_iff_iff]; simp [E1.out, E2.out]), hw5⟩
      · have hne2 : (C == B) = false := beq_eq_false_iff_ne.2 e2
        go_wp2_with (first | (with_reducible refine wpList_loadVecW hb3 35 rfl 3 true rfl true rfl rfl _ rfl rfl Try.underlying88 Try.sizeImg ?_) | ((with_reducible refine (cell_any F s.y2 s.x1 _).mono ?_); rw [← HC.out]; rintro e w4 ⟨rfl, hb4⟩; have hw4 := hw3.trans (hb4.mono hw3.size)))
        go_ret
        exact ⟨ret_bool (by simp [e1, e2]), hw4⟩
theorem hasSwitch_any (F : Nat → Int) (s : Sw) (w : World) :
    Calls Try.prog 81 #[.agg (vec 25 F), swV s] w fun e w' => e = .returned (.bool (hasF F s)) ∧ Below w.heap.size w w' := by
  by_cases h : s.y1 < s.y2 ∧ s.x1 < s.x2
  · exact hasSwitch_yes F s w h.1 h.2
  · exact hasSwitch_no F s w h
end Go.Proofs.Ytnhijmhambggbaa
