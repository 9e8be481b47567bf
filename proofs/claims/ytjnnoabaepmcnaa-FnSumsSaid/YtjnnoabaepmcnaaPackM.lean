/-
  Texts of this claim, one behind the other: MkD, MkDs, Eq, Same, Alike, FnSumR.
-/
import Derived.Test.YtjnnoabaepmcnaaPackL
import Derived.Test.YtjnnoabaepmcnaaPackF
import Derived.Test.YtjnnoabaepmcnaaPackI
import Derived.Test.YtjnnoabaepmcnaaPackC
import Derived.WalkMore
import Derived.Deep.LoopGhost
import Derived.Test.YtjnnoabaepmcnaaPackA
import Derived.Test.YtjnnoabaepmcnaaPackK
/-
  Directions that are drawn, of the model.
-/
namespace Go.Proofs.Ytjnnoabaepmcnaa
open Go.RowKit
set_option maxRecDepth 100000

theorem exec_storeDr {ρ : Operand → Value} {o : Oper} {w : World} {x y : Operand} {g : Nat} {r0 c0 : Int} (r c : Int) (ho : o.op = .store 29 x y) (hx : ρ x = .pointer (some ⟨g, 0, none⟩)) (hy : ρ y = .agg #[.int .i64 r, .int .i64 c]) (hb : DirAt w g r0 c0) :
    ∃ w', (execOp ρ o).run Try.prog w = .ok .skip w' ∧ DirAt w' g r c ∧ w.grownBy w' (some g) ∧ w'.heap.size = w.heap.size := by
  unfold execOp
  simp only [ho, hx, hy, Instr.storeAt, Instr.sureAddr, Sem.run_bind, Sem.run_pure, Result.andThen_ok, run_storeVar_row w g 29 29 #[.int .i64 r0, .int .i64 c0] #[.int .i64 r, .int .i64 c] hb (by rw [Try.sizeDir]; rfl) rfl (by simp [Value.oneCell'])]
  exact ⟨_, rfl, setRow_heap w g _ _ _ (0, 0) hb, ⟨rfl, rfl, rfl, by simp, fun k hk hr => setRow_other w g k _ (fun e => hr (by rw [e]))⟩, by simp⟩
theorem wpList_storeDr {ops : Array Oper} {rest : List Oper} {o : Oper} {a : Act} {Q : Exit → Act → World → Prop} {W : World} {g : Nat} {r0 c0 : Int} (hb : DirAt W g r0 c0) (r c : Int)
    (hgd : o.guard = none) (x y : Operand) (ho : o.op = .store 29 x y) (hx : a.eval x = .pointer (some ⟨g, 0, none⟩)) (hy : a.eval y = .agg #[.int .i64 r, .int .i64 c])
    (h : ∀ w', DirAt w' g r c → W.grownBy w' (some g) → w'.heap.size = W.heap.size → wpList Try.prog ops Q rest (a.put o.dst undef) w') : wpList Try.prog ops Q (o :: rest) a W := by
  refine wpList_plain hgd fun K hK => ?_
  obtain ⟨w', h1, h2, h3, h4⟩ := exec_storeDr (ρ := a.eval) r c ho hx hy hb
  unfold Oper.wp
  rw [h1]
  exact hK _ _ (h w' h2 h3 h4)
theorem sixGrown {w wb w3 w4 w5 : World} {B g : Nat} (h1 : Below w.heap.size w wb) (h2 : wb.grownBy w3 (some B)) (h3 : Below w3.heap.size w3 w4) (h4 : w4.grownBy w5 (some g)) (hg : w.heap.size ≤ g) : w.grownBy w5 (some B) := by
  have s1 := h1.size; have s2 := h2.size; have s3 := h3.size
  refine ⟨?_, ?_, ?_, ?_, fun k hk hne => ?_⟩
  · rw [h4.os, h3.os, h2.os, h1.os]
  · rw [h4.tape, h3.tape, h2.tape, h1.tape]
  · rw [h4.output, h3.output, h2.output, h1.output]
  · have := h4.size; omega
  · rw [h4.block k (by omega) (by simp; omega), h3.block k (by omega), h2.block k (by omega) hne, h1.block k (by omega)]
/-- The six directions that are drawn. -/
def sixD : List (Int × Int) := [(1, 0), (0, 1), (1, 1), (1, -1), (2, 1), (1, 2)]
set_option maxHeartbeats 2000000 in
theorem l03Direction_any (B n : Nat) (a : Option Addr) (w : World) (base : Nat) (hc : CurAt w B a n) (hin : InBytes w base a n) (hbase : base ≤ B) :
    Calls Try.prog 33 #[.pointer (some ⟨B, 0, none⟩)] w fun e w' => ∃ d : Int × Int, d ∈ sixD ∧ e = .returned (.agg #[.int .i64 d.1, .int .i64 d.2]) ∧ CurAt w' B a n ∧ w.grownBy w' (some B) := by
  have hBw := curAt_lt hc
  obtain ⟨wa, hwa⟩ : ∃ wa, wa = w.alloc (.cells #[.int .i64 0, .int .i64 0] 29) := ⟨_, rfl⟩
  obtain ⟨wb, hwb⟩ : ∃ wb, wb = wa.alloc (.cells #[.int .i64 0, .int .i64 1, .int .i64 2, .int .i64 3, .int .i64 4, .int .i64 5] 3) := ⟨_, rfl⟩
  have za : wa.heap.size = w.heap.size + 1 := by rw [hwa]; simp
  have zb : wb.heap.size = w.heap.size + 2 := by rw [hwb]; simp [za]
  have hba : Below w.heap.size w wa := by rw [hwa]; exact (Below.refl _ _).alloc (Nat.le_refl _) _
  have hbb : Below wa.heap.size wa wb := by rw [hwb]; exact (Below.refl _ _).alloc (Nat.le_refl _) _
  have hbab := hba.trans (hbb.mono hba.size)
  have HD0 := hide (dirAt_below (show DirAt wa w.heap.size 0 0 by rw [hwa]; exact heap_alloc_new w _) hbb)
  have HCB := hide (curAt_below hc hbab); have HIB := hide (inBytes_below hin (hbab.mono (by omega)))
  have HCL : Hid (∀ i, (h : i < [(0 : Int), 1, 2, 3, 4, 5].length) → wb.cell? ⟨wa.heap.size, i, none⟩ = some (.int .i64 [(0 : Int), 1, 2, 3, 4, 5][i])) := hide fun i h => by
    rw [hwb, World.cell?_alloc_new]
    have : i < 6 := h
    rcases i with _ | _ | _ | _ | _ | _ | i
    all_goals first | rfl | omega
  have HPK := hide (l01Pick_any B n a wa.heap.size 6 6 [0, 1, 2, 3, 4, 5] rfl wb base HCB.out HIB.out hbase (by simp) (by omega) (by omega) HCL.out)
  have HBAB := hide hbab
  rw [za] at HPK
  have HWB : Hid (wb = (w.alloc (.cells #[.int .i64 0, .int .i64 0] 29)).alloc (.cells #[.int .i64 0, .int .i64 1, .int .i64 2, .int .i64 3, .int .i64 4, .int .i64 5] 3)) := hide (by rw [hwb, hwa])
  have HZB := hide zb
  clear hc hin hwa hwb za zb hba hbb hbab HCL
  go_enter Try.func33, Try.ntmps33
  go_wp2_with fail
  rw [← HWB.out]
  refine HPK.out.mono ?_
  rintro e w3 ⟨z, hz, rfl, hc3, hg3⟩
  have HC3 := hide hc3; have HG3 := hide hg3
  have HD3 := hide (show DirAt w3 w.heap.size 0 0 by unfold DirAt; rw [hg3.block _ (Array.getElem?_eq_some_iff.1 HD0.out).1 (by simp; omega)]; exact HD0.out)
  have HD4 := hide fun o : Obj => dirAt_below HD3.out ((Below.refl w3.heap.size w3).alloc (Nat.le_refl _) o)
  have HAL := hide ((Below.refl w3.heap.size w3).alloc (Nat.le_refl _) (.cells #[.int .i64 1, .int .i64 0, .int .i64 0, .int .i64 1, .int .i64 1, .int .i64 1, .int .i64 1, .int .i64 (-1), .int .i64 2, .int .i64 1, .int .i64 1, .int .i64 2] 29))
  clear hc3 hg3 HWB
  simp only [List.mem_cons, List.not_mem_nil, or_false] at hz
  rcases hz with rfl | rfl | rfl | rfl | rfl | rfl
  · go_wp2_with (with_reducible refine wpList_storeDr (HD4.out _) _ _ rfl _ _ rfl rfl rfl ?_; intro w4 hd4 hg4 hz4)
    obtain ⟨q0, q1⟩ := drC_at hd4
    simp only at q0 q1
    refine bodyPost_ret (v := .agg #[.int .i64 (1), .int .i64 (0)]) ?_ rfl ⟨(1, 0), by simp [sixD], rfl, ?_, sixGrown HBAB.out HG3.out HAL.out hg4 (Nat.le_refl _)⟩
    · simp [results, Try.results33, go_sem, q0, q1]
    · have s3 := HG3.out.size
      have s2 := HBAB.out.size
      exact curAt_within HC3.out (by rw [hg4.block B (by simp; omega) (by simp; omega), HAL.out.block B (by omega)])
  · go_wp2_with (with_reducible refine wpList_storeDr (HD4.out _) _ _ rfl _ _ rfl rfl rfl ?_; intro w4 hd4 hg4 hz4)
    obtain ⟨q0, q1⟩ := drC_at hd4
    simp only at q0 q1
    refine bodyPost_ret (v := .agg #[.int .i64 (0), .int .i64 (1)]) ?_ rfl ⟨(0, 1), by simp [sixD], rfl, ?_, sixGrown HBAB.out HG3.out HAL.out hg4 (Nat.le_refl _)⟩
    · simp [results, Try.results33, go_sem, q0, q1]
    · have s3 := HG3.out.size
      have s2 := HBAB.out.size
      exact curAt_within HC3.out (by rw [hg4.block B (by simp; omega) (by simp; omega), HAL.out.block B (by omega)])
  · go_wp2_with (with_reducible refine wpList_storeDr (HD4.out _) _ _ rfl _ _ rfl rfl rfl ?_; intro w4 hd4 hg4 hz4)
    obtain ⟨q0, q1⟩ := drC_at hd4
    simp only at q0 q1
    refine bodyPost_ret (v := .agg #[.int .i64 (1), .int .i64 (1)]) ?_ rfl ⟨(1, 1), by simp [sixD], rfl, ?_, sixGrown HBAB.out HG3.out HAL.out hg4 (Nat.le_refl _)⟩
    · simp [results, Try.results33, go_sem, q0, q1]
    · have s3 := HG3.out.size
      have s2 := HBAB.out.size
      exact curAt_within HC3.out (by rw [hg4.block B (by simp; omega) (by simp; omega), HAL.out.block B (by omega)])
  · go_wp2_with (with_reducible refine wpList_storeDr (HD4.out _) _ _ rfl _ _ rfl rfl rfl ?_; intro w4 hd4 hg4 hz4)
    obtain ⟨q0, q1⟩ := drC_at hd4
    simp only at q0 q1
    refine bodyPost_ret (v := .agg #[.int .i64 (1), .int .i64 (-1)]) ?_ rfl ⟨(1, -1), by simp [sixD], rfl, ?_, sixGrown HBAB.out HG3.out HAL.out hg4 (Nat.le_refl _)⟩
    · simp [results, Try.results33, go_sem, q0, q1]
    · have s3 := HG3.out.size
      have s2 := HBAB.out.size
      exact curAt_within HC3.out (by rw [hg4.block B (by simp; omega) (by simp; omega), HAL.out.block B (by omega)])
  · go_wp2_with (with_reducible refine wpList_storeDr (HD4.out _) _ _ rfl _ _ rfl rfl rfl ?_; intro w4 hd4 hg4 hz4)
    obtain ⟨q0, q1⟩ := drC_at hd4
    simp only at q0 q1
    refine bodyPost_ret (v := .agg #[.int .i64 (2), .int .i64 (1)]) ?_ rfl ⟨(2, 1), by simp [sixD], rfl, ?_, sixGrown HBAB.out HG3.out HAL.out hg4 (Nat.le_refl _)⟩
    · simp [results, Try.results33, go_sem, q0, q1]
    · have s3 := HG3.out.size
      have s2 := HBAB.out.size
      exact curAt_within HC3.out (by rw [hg4.block B (by simp; omega) (by simp; omega), HAL.out.block B (by omega)])
  · go_wp2_with (with_reducible refine wpList_storeDr (HD4.out _) _ _ rfl _ _ rfl rfl rfl ?_; intro w4 hd4 hg4 hz4)
    obtain ⟨q0, q1⟩ := drC_at hd4
    simp only at q0 q1
    refine bodyPost_ret (v := .agg #[.int .i64 (1), .int .i64 (2)]) ?_ rfl ⟨(1, 2), by simp [sixD], rfl, ?_, sixGrown HBAB.out HG3.out HAL.out hg4 (Nat.le_refl _)⟩
    · simp [results, Try.results33, go_sem, q0, q1]
    · have s3 := HG3.out.size
      have s2 := HBAB.out.size
      exact curAt_within HC3.out (by rw [hg4.block B (by simp; omega) (by simp; omega), HAL.out.block B (by omega)])
end Go.Proofs.Ytjnnoabaepmcnaa
/-
  MakeDirections, of the model: from one to three directions, drawn, all valid and different.
-/
namespace Go.Proofs.Ytjnnoabaepmcnaa
open Go.RowKit
set_option maxRecDepth 100000

/-- What MakeDirections answers. -/
def DirsRes (w : World) (e : Ending) (w' : World) : Prop := ∃ (v : Value) (l : List (Int × Int)), e = .returned v ∧ dirsB l = true ∧ DrsC w' v l ∧ Below w.heap.size w w'
/-- A list of directions of the call's own that is not nil. -/
def OwnDrE (w : World) (lo : Nat) (v : Value) (l : List (Int × Int)) : Prop := OwnDrs w lo v l ∧ ∃ g c, v = .slice (some ⟨g, 0, none⟩) l.length c
theorem ownDrE_below {w w' : World} {lo : Nat} {v : Value} {l : List (Int × Int)} (h : OwnDrE w lo v l) (hb : Below w.heap.size w w') : OwnDrE w' lo v l := ⟨ownDrs_below h.1 hb, h.2⟩
theorem drE_of {w : World} {B : Nat} {v : Value} {l : List (Int × Int)} (h : OwnDrs w B v l) (hne : v ≠ .slice none 0 0) : OwnDrE w B v l := by
  refine ⟨h, ?_⟩
  rcases h.2 with ⟨e, -⟩ | ⟨g, cap, cur, e, -⟩
  · exact absurd e hne
  · exact ⟨g, cap, e⟩
/-- An empty list of directions, new. -/
def emptyDF (B : Nat) : FactP := fun u w2 => ∃ g, u = .slice (some ⟨g, 0, none⟩) 0 0 ∧ B ≤ g ∧ w2.heap[g]? = some (.cells #[] 29 (0, 0))
theorem stable_emptyDF (B : Nat) : StableP (emptyDF B) := fun _ _ _ hb h => by
  obtain ⟨g, h1, h2, h3⟩ := h
  exact ⟨g, h1, h2, by rw [hb.block g (Array.getElem?_eq_some_iff.1 h3).1]; exact h3⟩
/-- A list of one direction, new. -/
def oneDF (B : Nat) (s : Int × Int) : FactP := fun u w2 => ∃ b, u = .slice (some ⟨b, 0, none⟩) 1 1 ∧ B ≤ b ∧ DirAt w2 b s.1 s.2
theorem stable_oneDF (B : Nat) (s : Int × Int) : StableP (oneDF B s) := fun _ _ _ hb h => by
  obtain ⟨b, h1, h2, h3⟩ := h
  exact ⟨b, h1, h2, dirAt_below h3 hb⟩
def drsF (W : World) (l : List (Int × Int)) : FactP := fun u w2 => OwnDrE w2 W.heap.size u l ∧ Below W.heap.size W w2
theorem stable_drsF (W : World) (l : List (Int × Int)) : StableP (drsF W l) := fun _ _ _ hb h => ⟨ownDrE_below h.1 hb, h.2.trans (hb.mono h.2.size)⟩
theorem exec_buildNoDr {ρ : Operand → Value} {o : Oper} {w : World} (ho : o.op = .buildSlice 26 0 #[]) :
    (execOp ρ o).run Try.prog w = .ok (.value (.slice (some ⟨w.heap.size, 0, none⟩) 0 0)) (w.alloc (.cells #[] 29)) := by
  unfold execOp
  simp only [ho]
  go_simp
theorem exec_buildDr {ρ : Operand → Value} {o : Oper} {w : World} {x : Operand} {s : Int × Int} (ho : o.op = .buildSlice 26 1 #[(0, x)]) (hx : ρ x = drV s) :
    (execOp ρ o).run Try.prog w = .ok (.value (.slice (some ⟨w.heap.size, 0, none⟩) 1 1)) (w.alloc (.cells (drA s) 29)) := by
  unfold drV at hx
  unfold execOp drA
  simp only [ho]
  go_simp
theorem cellsD_one (l : List (Int × Int)) : ∀ u ∈ cellsD l, u.oneCell' = true := by
  intro u hu
  unfold cellsD at hu
  obtain ⟨s, -, h⟩ := List.mem_flatMap.1 hu
  simp only [List.mem_cons, List.not_mem_nil, or_false] at h
  rcases h with rfl | rfl <;> rfl
/-- 'append(v, x...)' at directions. -/
theorem exec_appDrs (ty : TypeId) {W : World} {B lo m gp c : Nat} {v : Value} {p q : List (Int × Int)}
    (hv : OwnDrE W B v p) (hp : OwnDrs W lo (.slice (some ⟨gp, 0, none⟩) m c) q) (hB : B ≤ W.heap.size) (hn : p.length + q.length ≤ 4000000) :
    ∃ v' w', (∀ (ρ : Operand → Value) (o : Oper) (x y : Operand), o.op = .call { callee := .builtin .append, args := #[x, y], argTypes := #[26, 26] } → o.type = ty → ρ x = v → ρ y = .slice (some ⟨gp, 0, none⟩) m c → (execOp ρ o).run Try.prog W = .ok (.value v') w') ∧ OwnDrE w' B v' (p ++ q) ∧ W.grownBy w' v.ownBlock := by
  obtain ⟨i0, hi, hz0, hz1, hz2⟩ := info_parts Try.infoDr
  have hm : m = q.length := by
    rcases hp.2 with ⟨e, -⟩ | ⟨g, cap, cur, e, -⟩
    · cases e
    · cases e; rfl
  subst hm
  obtain ⟨hv1, g, cv, rfl⟩ := hv
  obtain ⟨v', w', hr, g1, g2, g3⟩ := run_append_own (P := Try.prog) W B 26 ty 29 i0 _ 2 16 Try.underlying26 hi hz0 hz1 hz2 rfl (by decide) _ p.length (cellsD p) hv1 ⟨gp, 0, none⟩ q.length c (cellsD q) (cellsD_len q) (fun j u hj => by
      rw [addr_add, Nat.zero_add]
      have hj' : j < q.length * 2 := by have := (List.getElem?_eq_some_iff.1 hj).1; rwa [cellsD_len] at this
      rw [World.ownsRow.cellAt hp j hj', hj]) (cellsD_one q) (by unfold maxLen; omega) (by omega) hB
  refine ⟨v', w', ?_, drE_of ?_ ?_, g2⟩
  · intro ρ o x y ho ht hx hy
    subst ht
    unfold execOp
    simp only [ho, resolve, invoke, builtin, Sem.run_bind, Sem.run_pure, Result.andThen_ok, List.map_toArray, List.map_cons, List.map_nil, hx, hy, hr]
  · unfold OwnDrs
    rw [List.length_append, show cellsD (p ++ q) = cellsD p ++ cellsD q by simp [cellsD]]
    exact g1
  · intro e
    have := (g3.1 e).1
    cases this
/-- A list of one direction, to be read. -/
theorem oneDF_own {w : World} {b : Nat} {s : Int × Int} (h : DirAt w b s.1 s.2) : OwnDrs w 0 (.slice (some ⟨b, 0, none⟩) 1 1) [s] :=
  ⟨rfl, .inr ⟨b, 1, drA s, rfl, Nat.zero_le _, h, Nat.le_refl _, by decide, rfl, rfl⟩⟩
theorem emptyDF_own {w : World} {g B : Nat} (h : w.heap[g]? = some (.cells #[] 29 (0, 0))) (hB : B ≤ g) : OwnDrE w B (.slice (some ⟨g, 0, none⟩) 0 0) [] :=
  ⟨⟨rfl, .inr ⟨g, 0, #[], rfl, hB, h, Nat.le_refl _, by decide, rfl, rfl⟩⟩, g, 0, rfl⟩
theorem oneDF_far {w w' : World} {B g : Nat} {s : Int × Int} {u : Value} (h : oneDF B s u w) (hg : w.heap[g]? = some (.cells #[] 29 (0, 0))) (hw : w.grownBy w' (some g)) : oneDF B s u w' := by
  obtain ⟨b, h1, h2, h3⟩ := h
  refine ⟨b, h1, h2, ?_⟩
  have hne : b ≠ g := by
    intro e
    subst e
    unfold DirAt at h3
    rw [h3] at hg
    simp at hg
  unfold DirAt at h3 ⊢
  rw [hw.block b (Array.getElem?_eq_some_iff.1 h3).1 (fun e => hne (Option.some.inj e))]
  exact h3
theorem six_alone : ∀ d ∈ sixD, dirsB [d] = true := by decide

set_option maxHeartbeats 8000000 in
theorem makeDirs_any (n c : Nat) (a : Option Addr) (m : Nat) (w : World) (hin : InBytes w w.heap.size a n) (hn : n ≤ 2000000) (hm : m ≤ 1000) :
    Calls Try.prog 8 #[.slice a n c, .int .i64 m] w (DirsRes w) := by
  have HI := hide hin
  clear hin
  go_enter Try.func8, Try.ntmps8
  go_wp2_with fail
  refine (l18New_any n c a m _ w.heap.size HI.out hn hm).mono ?_
  rintro e w1 ⟨rfl, hc, hb, hlt⟩
  have HC := hide hc; have HB := hide hb; have HLT := hide hlt
  obtain ⟨B, hB⟩ : ∃ B, B = w.heap.size := ⟨_, rfl⟩
  rw [← hB] at HC HLT
  rw [← hB]
  have HBE := hide hB
  clear hc hb hlt hB
  go_wp2_with fail
  obtain ⟨w2, hw2⟩ : ∃ w2, w2 = w1.alloc (.cells #[] 29) := ⟨_, rfl⟩
  have HG0 := hide (show OwnDrE w2 w1.heap.size (.slice (some ⟨w1.heap.size, 0, none⟩) 0 0) [] from emptyDF_own (by rw [hw2]; exact heap_alloc_new w1 _) (Nat.le_refl _))
  have hb12 : Below w1.heap.size w1 w2 := by rw [hw2]; exact (Below.refl _ _).alloc (Nat.le_refl _) _
  have HC2 := hide (curAt_below HC.out hb12)
  have HB2 := hide (HB.out.trans (hb12.mono HB.out.size))
  rw [← hw2]
  clear hw2 HC
  have HB12 := hide hb12
  clear hb12
  refine (l01Below_any B n a 3 _ w.heap.size (by omega) (by omega) HC2.out (inBytes_below HI.out HB2.out) (by have := HBE.out; omega)).mono ?_
  rintro e w3 ⟨x, hx0, hx1, rfl, hc3, hg3⟩
  have HC3 := hide hc3
  have HB3 := hide (below_drawn HB2.out hg3 (by have := HBE.out; omega))
  have HO3 := hide (show OwnDrE w3 w1.heap.size (.slice (some ⟨w1.heap.size, 0, none⟩) 0 0) [] from ⟨ownA_grown HG0.out.1 hg3 (fun k hk => by cases hk; have := HLT.out; simp [Value.ownBlock]; omega), HG0.out.2⟩)
  clear hc3 hg3 HG0 HC2 HB2 HB12
  go_wp2
  have HW1 : Hid (w.heap.size ≤ w1.heap.size ∧ B < w1.heap.size) := hide (by have := HB.out.size; have := HLT.out; exact ⟨by omega, by omega⟩)
  obtain ⟨L1, hL1⟩ : ∃ L1, L1 = w1.heap.size := ⟨_, rfl⟩
  rw [← hL1] at HO3 HW1 ⊢
  clear HB HLT hL1
  go_loopw [6, 7] (fun s6 s7 w' => ∃ (l : List (Int × Int)) (g cap k : Nat), s6 = .slice (some ⟨g, 0, none⟩) l.length cap ∧ s7 = .int .i64 k ∧ OwnDrs w' L1 s6 l ∧ l.length + k ≤ 3 ∧ ((l = [] ∧ 1 ≤ k) ∨ dirsB l = true) ∧ CurAt w' B a n ∧ Below w.heap.size w w') (fun _ s7 _ => (intOf s7).toNat)
  case atStart =>
    obtain ⟨k, rfl⟩ : ∃ k : Nat, x = k := ⟨x.toNat, by omega⟩
    exact ⟨[], L1, 0, k + 1, rfl, by go_num, HO3.out.1, by simp; omega, .inl ⟨rfl, by omega⟩, HC3.out, HB3.out⟩
  case round =>
    clear HO3 HC3 HB3
    obtain ⟨l, g, cap, k, rfl, rfl, hown, hlk, hcase, hcur, hbw⟩ := hrel
    have HO := hide hown; have HCU := hide hcur; have HBW := hide hbw; have HCASE := hide hcase; have HLK := hide hlk
    obtain ⟨nl, hnl⟩ : ∃ nl, nl = l.length := ⟨_, rfl⟩
    rw [← hnl] at HO hlk ⊢
    have HNL := hide hnl
    have hk3 : k ≤ 3 := by omega
    have hnl3 : nl ≤ 3 := by omega
    have HW2 := hide (show L1 ≤ wr.heap.size from by
      rcases (HO.out).2 with ⟨e, -⟩ | ⟨g', cap', cur, e, h1, h2, -⟩
      · cases e
      · have := (Array.getElem?_eq_some_iff.1 h2).1; omega)
    have HGL : Hid (L1 ≤ g ∧ g < wr.heap.size) := hide (World.ownsRow.lt HO.out g rfl)
    clear hown hcur hbw hcase hlk hnl
    by_cases hk : 0 < k
    · have hkI : (0 : Int) < k := by omega
      have HIB := hide (inBytes_below HI.out HBW.out)
      go_wp2_with fail
      refine (l03Direction_any B n a _ w.heap.size HCU.out HIB.out (by have := HBE.out; omega)).mono ?_
      rintro e w4 ⟨d, hd, rfl, hc4, hg4⟩
      have HD := hide hd
      have HC4 := hide hc4
      have HB4 := hide (below_drawn HBW.out hg4 (by have := HBE.out; omega))
      have HO4 := hide (ownA_grown HO.out hg4 (fun k hk => by cases hk; have := HGL.out; have := HW1.out; simp [Value.ownBlock]; omega))
      have HS4 := hide hg4.size
      clear hd hc4 hg4 HO HCU HBW HIB
      have HDN := hide fun o : Obj => (Below.refl w4.heap.size w4).alloc (Nat.le_refl _) o
      have HDZ : Hid (DirAt (w4.alloc (.cells #[.int .i64 0, .int .i64 0] 29)) w4.heap.size 0 0) := hide (heap_alloc_new w4 _)
      obtain ⟨d1, d2⟩ := d
      go_wp2_with (with_reducible refine wpList_storeDr HDZ.out _ _ rfl _ _ rfl rfl rfl ?_; intro w5 hd5 hg5 hz5)
      have HD5 := hide hd5
      have hb45 : Below w4.heap.size w4 w5 := below_drawn (HDN.out _) hg5 (Nat.le_refl _)
      have HC5 := hide (curAt_below HC4.out hb45)
      have HO5 := hide (ownDrs_below HO4.out hb45)
      have HB5 := hide (HB4.out.trans (hb45.mono (by have := HB4.out.size; omega)))
      have HS5 := hide (Nat.le_trans HS4.out hb45.size)
      obtain ⟨p8, hp8⟩ : ∃ p8, p8 = w4.heap.size := ⟨_, rfl⟩
      rw [← hp8] at HD5 ⊢
      clear hd5 hg5 hz5 hb45 HDN HDZ HC4 HO4 HB4 HS4 hp8
      have hfs : ∀ f ∈ ([emptyDF w5.heap.size, isV (.slice (some ⟨g, 0, none⟩) nl cap), drsF w5 l, isV (drV (d1, d2)), oneDF w5.heap.size (d1, d2), drsF w5 (l ++ [(d1, d2)])] : List FactP), StableP f := by
        intro f hf
        simp only [List.mem_cons, List.not_mem_nil, or_false] at hf
        rcases hf with rfl | rfl | rfl | rfl | rfl | rfl <;> first | exact stable_v _ | exact stable_emptyDF _ | exact stable_drsF _ _ | exact stable_oneDF _ _
      have hS1 : ∀ (wy wz : World), Below w5.heap.size w5.drew wy → Below wy.heap.size wy wz → Below w5.heap.size w5.drew wz := fun wy wz h k => h.trans (k.mono h.size)
      have hS0 : ∀ wy : World, Below w5.heap.size w5.drew wy → Below w5.heap.size w5 wy := fun wy h => (below_drew (Below.refl _ w5)).trans h
      refine wp_region_pen (S := fun wy => Below w5.heap.size w5.drew wy) 5 [emptyDF w5.heap.size, isV (.slice (some ⟨g, 0, none⟩) nl cap), drsF w5 l, isV (drV (d1, d2)), oneDF w5.heap.size (d1, d2), drsF w5 (l ++ [(d1, d2)])] [(6, .slice (some ⟨g, 0, none⟩) nl cap), (8, .pointer (some ⟨p8, 0, none⟩))] _ _ 6 (by kernel_rfl) (by decide) (by kernel_rfl) rfl rfl (by kernel_rfl) (by kernel_rfl) rfl (by kernel_rfl) ?baseA (Below.refl _ _) ?obA rfl ?finA
      case baseA =>
        intro t v ht
        simp only [List.lookup_cons, List.lookup_nil] at ht
        repeat' split at ht
        all_goals first | (cases ht; done) | (obtain rfl := Option.some.inj ht; rename_i hh; obtain rfl := eq_of_beq hh; rfl)
      case obA =>
        exact ⟨obp_of (obn_of (by kernel_rfl) (obt_make hfs rfl fun ac wy hS hs => ⟨_, _, exec_buildNoDr rfl, hS1 _ _ hS ((Below.refl _ _).alloc (Nat.le_refl _) _), (Below.refl _ _).alloc (Nat.le_refl _) _, ⟨wy.heap.size, rfl, hS.size, heap_alloc_new wy _⟩⟩)),
          obp_of (obn_of (by kernel_rfl) (obt_move (.slice (some ⟨g, 0, none⟩) nl cap) rfl rfl rfl (srt_b 6 rfl))),
          (fun ac wy hS hB hD K hK => by
            obtain ⟨g1, e22, hg1, hg2⟩ : emptyDF w5.heap.size (ac.tmps.getD 22 undef) wy := hD 0 22 rfl (by kernel_rfl)
            have h23 : ac.tmps.getD 23 undef = .slice (some ⟨g, 0, none⟩) nl cap := hD 1 23 rfl (by kernel_rfl)
            obtain ⟨v', wz, hr, ho, hgr⟩ := exec_appDrs 26 (emptyDF_own hg2 hg1) (ownDrs_below HO5.out (hS0 _ hS)) hS.size (by have := HNL.out; simp only [List.length_nil]; omega)
            have hbz := hS.grown hgr hS.size (fun k hk => by cases hk; exact hg1)
            refine ⟨.inl rfl, run_value v' (hr ac.eval _ (.tmp 22) (.tmp 23) rfl rfl e22 h23) (hK _ _ (fun _ => hbz) (fun j hj => ?_) ⟨ho, hS0 _ hbz⟩)⟩
            have hj' := List.all_eq_true.1 (show ((needPL _ 2).all fun j => j == 3 || j == 4) = true by kernel_rfl) j (needPL_of hj)
            simp only [Bool.or_eq_true, beq_iff_eq] at hj'
            rcases hj' with rfl | rfl
            · exact fun u h => h
            · exact fun u h => oneDF_far h hg2 hgr),
          obp_of (obn_of (by kernel_rfl) (obt_one (drV (d1, d2)) rfl rfl (srt_b 8 rfl) (fun ρ w2 hS hx => exec_loadDir rfl hx (dirAt_below HD5.out (hS0 _ hS))))),
          obp_of (obn_of (by kernel_rfl) (obt_make hfs rfl fun ac wy hS hs => ⟨_, _, exec_buildDr (s := (d1, d2)) rfl (hs _ _ (srt_j 3 rfl (by kernel_rfl) rfl)), hS1 _ _ hS ((Below.refl _ _).alloc (Nat.le_refl _) _), (Below.refl _ _).alloc (Nat.le_refl _) _, ⟨wy.heap.size, rfl, hS.size, heap_alloc_new wy _⟩⟩)),
          (fun ac wy hS hB hD K hK => by
            obtain ⟨h24, -⟩ : drsF w5 l (ac.tmps.getD 24 undef) wy := hD 2 24 rfl (by kernel_rfl)
            obtain ⟨b, e26, hb1, hb2⟩ : oneDF w5.heap.size (d1, d2) (ac.tmps.getD 26 undef) wy := hD 4 26 rfl (by kernel_rfl)
            obtain ⟨v', wz, hr, ho, hgr⟩ := exec_appDrs 26 h24 (oneDF_own hb2) hS.size (by have := HNL.out; simp only [List.length_singleton]; omega)
            have hbz := hS.grown hgr hS.size (fun k hk => (World.ownsRow.lt h24.1 k hk).1)
            exact ⟨.inl rfl, run_value v' (hr ac.eval _ (.tmp 24) (.tmp 26) rfl rfl rfl e26) (hK _ _ (fun hne => absurd rfl hne) (fun j hj => absurd (needPL_of hj) (by rw [show needPL _ 5 = [] by kernel_rfl]; simp)) ⟨ho, hS0 _ hbz⟩)⟩),
          trivial⟩
      case finA =>
        intro a' w' h1 h2 h3 h4 K hK
        obtain ⟨ho, hb6⟩ : drsF w5 (l ++ [(d1, d2)]) (a'.tmps.getD 27 undef) w' := h4 5 27 rfl (by decide) (by kernel_rfl)
        obtain ⟨v27, hv27⟩ : ∃ u, a'.tmps.getD 27 undef = u := ⟨_, rfl⟩
        rw [hv27] at ho
        refine run_call rfl Try.func34 (by kernel_rfl) (by kernel_rfl) #[v27] (by
          simp only [List.map_toArray, List.map_cons, List.map_nil]
          rw [show a'.eval (.tmp 27) = a'.tmps.getD 27 undef from rfl, hv27]) ?_
        refine (specDirsOk_any v27 (l ++ [(d1, d2)]) w' (drsC_own ho.1)).mono ?_
        rintro e w7 ⟨rfl, hb7⟩
        refine ⟨_, rfl, hK _ _ ?_⟩
        have ha := frame_ov rfl h1 h2 h3 [(22, a'.tmps.getD 22 undef), (23, a'.tmps.getD 23 undef), (24, a'.tmps.getD 24 undef), (25, a'.tmps.getD 25 undef), (26, a'.tmps.getD 26 undef), (27, v27), (28, a'.tmps.getD 28 undef)] (by kernel_rfl) ⟨rfl, rfl, rfl, rfl, rfl, hv27, rfl, trivial⟩
        dsimp only [ov, List.lookup, Nat.reduceBEq, Nat.reduceAdd] at ha
        rw [ha]
        generalize a'.tmps.getD 22 undef = u22
        generalize a'.tmps.getD 23 undef = u23
        generalize a'.tmps.getD 24 undef = u24
        generalize a'.tmps.getD 25 undef = u25
        generalize a'.tmps.getD 26 undef = u26
        generalize a'.tmps.getD 28 undef = u28
        have hb57 := hb6.trans (hb7.mono hb6.size)
        have HB7 := hide (HB5.out.trans (hb57.mono HB5.out.size))
        have HO7 := hide (ownDrs_below HO5.out hb57)
        have HC7 := hide (curAt_below HC5.out hb57)
        have HD7 := hide (dirAt_below HD5.out hb57)
        have HS7 := hide (Nat.le_trans HS5.out hb57.size)
        obtain ⟨q, hq⟩ : ∃ q, q = dirsB (l ++ [(d1, d2)]) := ⟨_, rfl⟩
        rw [← hq]
        have HQ := hide hq
        clear hfs hS1 hS0 h1 h2 h3 h4 hK ha ho hb6 hb7 hb57 hv27 hq HO5 HC5 HD5 HB5 HS5
        cases q with
        | false =>
          have hne : l ≠ [] := fun e => by
            have := HQ.out
            rw [e, List.nil_append, six_alone _ HD.out] at this
            cases this
          have HNE := hide hne
          clear hne
          go_wp2
          go_roundw
          case rel => exact ⟨l, g, cap, k - 1, by rw [← HNL.out], by go_num, HO7.out, by have := HLK.out; omega, .inr ((HCASE.out).resolve_left fun h => HNE.out h.1), HC7.out, HB7.out⟩
          case measure => simp [intOf]; omega
        | true =>
          obtain ⟨q0, q1⟩ := drC_at HD7.out
          have HQ0 := hide (drC_at HD7.out)
          clear q0 q1
          have hn4 : nl < 4000000 := by omega
          have HL7 : Hid (L1 ≤ w7.heap.size) := hide (by have := HW2.out; have := HS7.out; omega)
          have HOX : Hid (w7.ownsRow L1 29 2 (.slice (some ⟨g, 0, none⟩) nl cap) nl (cellsD l)) := hide (by
            have := HO7.out
            unfold OwnDrs at this
            rw [← HNL.out] at this; exact this)
          go_wp2_with (first | (with_reducible refine wpList_loadDrC HQ0.out _ rfl rfl _ rfl rfl ?_) | (with_reducible refine wpList_buildOneA (drA (d1, d2)) _ _ rfl rfl _ rfl rfl Try.underlying26 Try.infoDr (by decide) (by decide) rfl ?_) | (at_builtin; refine wpList_pushA HOX.out (drA (d1, d2)) _ rfl _ _ rfl Try.underlying26 Try.infoDr rfl (by decide) (by decide) rfl rfl rfl (by simp [drA, Value.oneCell']) hn4 HL7.out ?_; intro g8 cap8 w8 hown8 hb8 hg8 hor8 hlt8))
          have HO8 := hide hown8
          have hb8' : Below w.heap.size w w8 := HB7.out.trans (hb8.mono (by have := HW1.out; omega))
          have HB8 := hide hb8'
          have HC8 := hide (curAt_within HC7.out (hb8.block B (by have := HW1.out; omega)))
          clear hown8 hb8 hg8 hor8 hlt8 hb8'
          go_wp2
          go_roundw
          case rel =>
            refine ⟨l ++ [(d1, d2)], g8, cap8, k - 1, by rw [List.length_append, ← HNL.out]; rfl, by go_num, ?_, by have := HLK.out; rw [List.length_append, List.length_singleton]; omega, .inr HQ.out.symm, HC8.out, HB8.out⟩
            unfold OwnDrs
            rw [List.length_append, ← HNL.out, cellsD_snoc]
            exact HO8.out
          case measure => simp [intOf]; omega
    · obtain rfl : k = 0 := by omega
      have HDB := hide ((HCASE.out).resolve_left fun h => absurd h.2 (by decide))
      go_wp2
      go_ret
      refine ⟨_, l, rfl, HDB.out, drsC_own HO.out, HBW.out⟩
end Go.Proofs.Ytjnnoabaepmcnaa
/-
  Lists of integers held against one another: slices.Equal.
-/
namespace Go.Proofs.Ytjnnoabaepmcnaa
open Go.RowKit

theorem sameRow_no {r s : List Int} (h : r.length ≠ s.length) : (r == s) = false := by
  rw [beq_eq_false_iff_ne]; intro e; exact h (by rw [e])
theorem sameRow_no2 {r s : List Int} (k : Nat) (hr : k < r.length) (hs : k < s.length) (h : r[k] ≠ s[k]) : (r == s) = false := by
  rw [beq_eq_false_iff_ne]; intro e; subst e; exact h rfl
theorem sameRow_yes {r s : List Int} (h : r.length = s.length) (h2 : ∀ k, (hr : k < r.length) → (hs : k < s.length) → r[k] = s[k]) : (r == s) = true := by
  rw [beq_iff_eq]; exact List.ext_getElem h h2
theorem sameMat_no {r s : List (List Int)} (h : r.length ≠ s.length) : (r == s) = false := by
  rw [beq_eq_false_iff_ne]; intro e; exact h (by rw [e])
theorem sameMat_no2 {r s : List (List Int)} (k : Nat) (hr : k < r.length) (hs : k < s.length) (h : (r[k] == s[k]) = false) : (r == s) = false := by
  rw [beq_eq_false_iff_ne] at h ⊢; intro e; subst e; exact h rfl
theorem sameMat_yes {r s : List (List Int)} (h : r.length = s.length) (h2 : ∀ k, (hr : k < r.length) → (hs : k < s.length) → (r[k] == s[k]) = true) : (r == s) = true := by
  rw [beq_iff_eq]; exact List.ext_getElem h fun k h1 h2' => by simpa using h2 k h1 h2'

end Go.Proofs.Ytjnnoabaepmcnaa
/-
  SameImage, of the model and of the program, and the exact law, walked.
-/
namespace Go.Proofs.Ytjnnoabaepmcnaa
open Go.RowKit

end Go.Proofs.Ytjnnoabaepmcnaa
/-
  The helpers of the laws that are no exact ones: same, alike.
-/
namespace Go.Proofs.Ytjnnoabaepmcnaa
open Go.RowKit
set_option maxHeartbeats 1000000 in
theorem same_any (va vb : Value) (r s : List Int) (w : World) (ha : InRow w va r) (hb : InRow w vb s) :
    Calls Try.prog 13 #[va, vb] w fun e w' => e = .returned (.bool (r == s)) ∧ w = w' := by
  obtain ⟨a, ca, rfl, hma, hpa⟩ := ha
  obtain ⟨b, cb, rfl, hmb, hpb⟩ := hb
  unfold maxLen at hma hmb
  by_cases hlen : r.length = s.length
  · by_cases h0 : r.length = 0
    · have hr : r = [] := List.eq_nil_of_length_eq_zero h0
      have hs : s = [] := List.eq_nil_of_length_eq_zero (by omega)
      subst hr; subst hs
      clear hpa hpb hma hmb hlen h0
      go_enter Try.func13, Try.ntmps13
      go_wp2
      go_loop [14] (fun i => i = .int .i64 0) (fun _ => 0)
      case atStart => rfl
      case round =>
        obtain rfl := hrel
        go_wp2
        go_ret
        exact ⟨rfl, rfl⟩
    · obtain ⟨ga, oa, rfl, -, hca⟩ := hpa.resolve_left h0
      obtain ⟨gb, ob, rfl, -, hcb⟩ := hpb.resolve_left (by omega)
      have HA := hide hca; have HB := hide hcb; have HL := hide hlen
      obtain ⟨n, hn⟩ : ∃ n, n = r.length := ⟨_, rfl⟩
      have HN := hide hn
      have HM : Hid (s.length = n) := hide (by omega)
      rw [← hlen, ← hn]
      rw [← hn] at hma
      clear hpa hpb hca hcb h0 hmb hlen hn
      go_enter Try.func13, Try.ntmps13
      go_wp2
      go_loop [14] (fun i => ∃ k : Nat, k ≤ n ∧ i = .int .i64 k ∧ ∀ t, (h1 : t < r.length) → (h2 : t < s.length) → t < k → r[t] = s[t]) (fun i => n - (intOf i).toNat)
      case atStart => exact ⟨0, Nat.zero_le _, rfl, fun t _ _ h => absurd h (Nat.not_lt_zero _)⟩
      case round =>
        obtain ⟨k, hk, rfl, hall⟩ := hrel
        have HH := hide hall
        clear hall
        by_cases hlt : k < n
        · have hkr : k < r.length := by rw [← HN.out]; exact hlt
          have hks : k < s.length := by rw [HM.out]; exact hlt
          have hxa := HA.out k hkr
          have hxb := HB.out k hks
          have HNO := hide (fun h => sameRow_no2 k hkr hks h)
          have HST : Hid (r[k] = s[k] → ∀ t, (h1 : t < r.length) → (h2 : t < s.length) → t < k + 1 → r[t] = s[t]) := hide fun h t h1 h2 ht => by
            by_cases e : t = k
            · subst e; exact h
            · exact HH.out t h1 h2 (by omega)
          obtain ⟨x, hx⟩ : ∃ x, x = r[k] := ⟨_, rfl⟩
          obtain ⟨y, hy⟩ : ∃ y, y = s[k] := ⟨_, rfl⟩
          rw [← hx, ← hy] at HNO HST
          rw [← hx] at hxa
          rw [← hy] at hxb
          clear hx hy
          by_cases e : x = y
          · subst e
            have HST := hide (HST.out rfl)
            go_wp2
            go_round
            case rel => exact ⟨k + 1, by omega, by go_num, HST.out⟩
            case measure => simp [intOf]; omega
          · have HF := hide (HNO.out e)
            have hne : (x == y) = false := by simpa using e
            have hne2 : (x != y) = true := by simpa using e
            clear e
            go_wp2
            go_ret
            exact ⟨ret_bool HF.out.symm, rfl⟩
        · have HY := hide (sameRow_yes HL.out fun t h1 h2 => HH.out t h1 h2 (by have := HN.out; omega))
          go_wp2
          go_ret
          exact ⟨ret_bool HY.out.symm, rfl⟩
  · have HF := hide (sameRow_no hlen)
    obtain ⟨n, hn⟩ : ∃ n, n = r.length := ⟨_, rfl⟩
    obtain ⟨k, hk⟩ : ∃ k, k = s.length := ⟨_, rfl⟩
    rw [← hn, ← hk] at hlen ⊢
    rw [← hn] at hma
    rw [← hk] at hmb
    have hne : ((n : Int) == (k : Int)) = false := by simp; omega
    have hne2 : ((n : Int) != (k : Int)) = true := by simp; omega
    clear hpa hpb hn hk hlen
    go_enter Try.func13, Try.ntmps13
    go_wp2
    go_ret
    exact ⟨ret_bool HF.out.symm, rfl⟩


set_option maxHeartbeats 1000000 in
theorem alike_any (va vb : Value) (m l : List (List Int)) (w : World) (ha : InMat w va m) (hb : InMat w vb l) :
    Calls Try.prog 26 #[va, vb] w fun e w' => e = .returned (.bool (m == l)) ∧ Below w.heap.size w w' := by
  obtain ⟨a, ca, rfl, hma, hpa⟩ := ha
  obtain ⟨b, cb, rfl, hmb, hpb⟩ := hb
  unfold maxLen at hma hmb
  by_cases hlen : m.length = l.length
  · by_cases h0 : m.length = 0
    · have hr : m = [] := List.eq_nil_of_length_eq_zero h0
      have hs : l = [] := List.eq_nil_of_length_eq_zero (by omega)
      subst hr; subst hs
      clear hpa hpb hma hmb hlen h0
      go_enter Try.func26, Try.ntmps26
      go_wp2
      go_loop [14] (fun i => i = .int .i64 0) (fun _ => 0)
      case atStart => rfl
      case round =>
        obtain rfl := hrel
        go_wp2
        go_ret
        exact ⟨rfl, Below.refl _ _⟩
    · obtain ⟨ga, oa, rfl, hga, hca⟩ := hpa.resolve_left h0
      obtain ⟨gb, ob, rfl, hgb, hcb⟩ := hpb.resolve_left (by omega)
      have HA := hide hca; have HB := hide hcb; have HL := hide hlen
      obtain ⟨n, hn⟩ : ∃ n, n = m.length := ⟨_, rfl⟩
      have HN := hide hn
      have HM : Hid (l.length = n) := hide (by omega)
      rw [← hlen, ← hn]
      rw [← hn] at hma
      clear hpa hpb hca hcb h0 hmb hlen hn
      go_enter Try.func26, Try.ntmps26
      go_wp2
      go_loopw [14] (fun i w' => ∃ k : Nat, k ≤ n ∧ i = .int .i64 k ∧ (∀ t, (h1 : t < m.length) → (h2 : t < l.length) → t < k → (m[t] == l[t]) = true) ∧ Below w.heap.size w w') (fun i _ => n - (intOf i).toNat)
      case atStart => exact ⟨0, Nat.zero_le _, rfl, fun t _ _ h => absurd h (Nat.not_lt_zero _), Below.refl _ _⟩
      case round =>
        obtain ⟨k, hk, rfl, hall, hbb⟩ := hrel
        have HH := hide hall; have HBB := hide hbb
        clear hall hbb
        by_cases hlt : k < n
        · have hkr : k < m.length := by rw [← HN.out]; exact hlt
          have hks : k < l.length := by rw [HM.out]; exact hlt
          obtain ⟨ua, hxa, hra⟩ := HA.out k hkr
          obtain ⟨ub, hxb, hrb⟩ := HB.out k hks
          have hxa := below_cell HBB.out hga hxa
          have hxb := below_cell HBB.out hgb hxb
          have HRA := hide (inRow_below hra HBB.out)
          have HRB := hide (inRow_below hrb HBB.out)
          have HNO := hide (fun h => sameMat_no2 k hkr hks h)
          have HST : Hid ((m[k] == l[k]) = true → ∀ t, (h1 : t < m.length) → (h2 : t < l.length) → t < k + 1 → (m[t] == l[t]) = true) := hide fun h t h1 h2 ht => by
            by_cases e : t = k
            · subst e; exact h
            · exact HH.out t h1 h2 (by omega)
          clear hra hrb
          cases e : (m[k] == l[k]) with
          | true =>
            have HE := hide e
            have HST := hide (HST.out e)
            clear e
            go_wp2_with (go_at_call 13; refine (same_any _ _ _ _ _ HRA.out HRB.out).mono ?_; rw [HE.out]; rintro e w9 ⟨rfl, rfl⟩)
            go_roundw
            case rel => exact ⟨k + 1, by omega, by go_num, HST.out, HBB.out⟩
            case measure => simp [intOf]; omega
          | false =>
            have HE := hide e
            have HF := hide (HNO.out e)
            clear e
            go_wp2_with (go_at_call 13; refine (same_any _ _ _ _ _ HRA.out HRB.out).mono ?_; rw [HE.out]; rintro e w9 ⟨rfl, rfl⟩)
            go_ret
            exact ⟨ret_bool HF.out.symm, HBB.out⟩
        · have HY := hide (sameMat_yes HL.out fun t h1 h2 => HH.out t h1 h2 (by have := HN.out; omega))
          go_wp2
          go_ret
          exact ⟨ret_bool HY.out.symm, HBB.out⟩
  · have HF := hide (sameMat_no hlen)
    obtain ⟨n, hn⟩ : ∃ n, n = m.length := ⟨_, rfl⟩
    obtain ⟨k, hk⟩ : ∃ k, k = l.length := ⟨_, rfl⟩
    rw [← hn, ← hk] at hlen ⊢
    rw [← hn] at hma
    rw [← hk] at hmb
    have hne : ((n : Int) == (k : Int)) = false := by simp; omega
    have hne2 : ((n : Int) != (k : Int)) = true := by simp; omega
    clear hpa hpb hn hk hlen
    go_enter Try.func26, Try.ntmps26
    go_wp2
    go_ret
    exact ⟨ret_bool HF.out.symm, Below.refl _ _⟩

theorem alike_yes (va vb : Value) (m : List (List Int)) (w : World) (ha : InMat w va m) (hb : InMat w vb m) :
    Calls Try.prog 26 #[va, vb] w fun e w' => e = .returned (.bool true) ∧ Below w.heap.size w w' := by
  have h := alike_any va vb m m w ha hb
  rw [beq_self_eq_true] at h; exact h
end Go.Proofs.Ytjnnoabaepmcnaa
/-
  The law FnSums, walked.
-/
namespace Go.Proofs.Ytjnnoabaepmcnaa
open Go.RowKit
set_option maxRecDepth 100000

theorem inBytes_up {w : World} {base n : Nat} {a : Option Addr} (h : InBytes w base a n) : InBytes w w.heap.size a n :=
  ⟨h.1, Nat.le_refl _, h.2.2.imp id fun ⟨g, o, z, ha, hlt, r⟩ => ⟨g, o, z, ha, Nat.lt_of_lt_of_le hlt h.2.1, r⟩⟩
set_option maxHeartbeats 16000000 in
theorem lawSums_walk (a : Option Addr) (n c : Nat) (w : World) (hin : InBytes w w.heap.size a n) :
    Calls Try.prog 3 #[.slice a n c] w fun e w' => e = .returned (.bool true) ∧ Below w.heap.size w w' := by
  have HIN := hide hin
  clear hin
  by_cases hbig : (1048576 : Int) < n
  · go_enter Try.func3, Try.ntmps3
    go_wp2
    go_ret
    exact ⟨rfl, Below.refl _ _⟩
  have HN := hide (show n ≤ 2000000 by omega)
  go_enter Try.func3, Try.ntmps3
  go_wp2_with fail
  refine (makeImage_any n c a 0 _ _ HIN.out HN.out (by omega)).mono ?_
  rintro e w1 ⟨v, R, C, f, rfl, hI, ho, hb⟩
  have HI := hide hI; have HB1 := hide hb; have HM1 := hide (inMat_own ho)
  have hR1 := hI.r1; have hR5 := hI.r2; have hC1 := hI.c1; have hC5 := hI.c2
  have HSZ : Hid (sizeOk R C = true) := hide (by rw [sizeOk, decide_eq_true (show 1 ≤ (R : Int) ∧ (R : Int) ≤ 5 by omega), decide_eq_true (show 1 ≤ (C : Int) ∧ (C : Int) ≤ 5 by omega)]; rfl)
  have HBL := hide (blk_le R C f)
  obtain ⟨B, hBe⟩ : ∃ B, B = blk25 R C f := ⟨_, rfl⟩
  have HBE := hide hBe
  obtain ⟨gm, om, cm, rfl, hgm, hrow⟩ := inMat_img HM1.out (by omega) (by omega)
  obtain ⟨g0, o0, k0, hc0, -, -⟩ := hrow 0 (by omega)
  rw [Nat.add_zero] at hc0
  have HC0' := hide hc0; have HGM' := hide hgm
  clear hI ho hb hBe hrow hc0 hgm
  go_wp2_with fail
  refine (implCountBlack_yes _ R C f _ HM1.out HI.out).mono ?_
  rw [show (cnt (fun i => imgF R C f i == 1) 25) = B from HBE.out.symm]
  rintro e w2 ⟨rfl, hb⟩
  have HM2 := hide (inMat_below HM1.out hb); have HC2 := hide (below_cell hb HGM'.out HC0'.out); have HG2 := hide (Nat.lt_of_lt_of_le HGM'.out hb.size); have HB2 := hide (HB1.out.trans (hb.mono HB1.out.size))
  clear hb
  go_wp2_with fail
  refine (makeDirs_any n c a 20 _ (inBytes_up (inBytes_below HIN.out HB2.out)) HN.out (by omega)).mono ?_
  rintro e w3 ⟨vl, l, rfl, hd, hdc, hb⟩
  have HD := hide hd; have HL := hide hdc
  have HM3 := hide (inMat_below HM2.out hb); have HC3 := hide (below_cell hb HG2.out HC2.out); have HG3 := hide (Nat.lt_of_lt_of_le HG2.out hb.size); have HB3 := hide (HB2.out.trans (hb.mono HB2.out.size))
  have hlen := dirsB_len hd
  obtain ⟨la, lc, rfl, -, -, -⟩ := id HL.out
  obtain ⟨NL, hNl⟩ : ∃ NL, NL = l.length := ⟨_, rfl⟩
  have HNL := hide hNl
  rw [← hNl] at HL hlen ⊢
  clear hd hdc hb hNl
  go_wp2
  go_loopw [20] (fun i w' => ∃ j : Nat, j ≤ NL ∧ i = .int .i64 j ∧ Below w3.heap.size w3 w') (fun i _ => NL - (intOf i).toNat)
  case atStart => exact ⟨0, Nat.zero_le _, rfl, Below.refl _ _⟩
  case round =>
    obtain ⟨wd, rfl⟩ : ∃ wd, wd = wr := ⟨_, rfl⟩
    obtain ⟨j, hj, rfl, hbo⟩ := hrel
    have HBD := hide hbo
    clear hbo
    by_cases hlj : j < NL
    · have hljI : (j : Int) < NL := by omega
      have hjl : j < l.length := by rw [← HNL.out]; exact hlj
      obtain ⟨a', c', he, -, -, hp⟩ := HL.out
      rw [← HNL.out] at he
      cases he
      obtain ⟨gl, ol, rfl, hgl, hdr⟩ := hp.resolve_left (by omega)
      have HDR := hide (drC_below (hdr j hjl) HBD.out hgl)
      have hdok := (dirsB_at HD.out hjl).1
      obtain ⟨dd, hd⟩ : ∃ dd, dd = l[j] := ⟨_, rfl⟩
      rw [← hd] at HDR hdok
      obtain ⟨dx, dy⟩ := dd
      obtain ⟨c0, c1⟩ := HDR.out
      simp only at c0 c1 hdok
      obtain ⟨N, hN, hN41⟩ := countL_size (R := R) (C := C) (near_of hdok) ⟨hR1, hR5⟩ ⟨hC1, hC5⟩
      have HNC := hide hN; have HDOK := hide hdok
      have HTT := hide (line_smallT (R := R) (C := C) (N := N) (f := f) (dx := dx) (dy := dy) hR5 hC5 hN41)
      have HTS := hide (black_all (near_of hdok) HI.out hN)
      rw [← HBE.out] at HTS
      have HGS := hide (img_gsL HI.out hdok hN)
      have hLL := line_lenS R C N f dx dy
      obtain ⟨LR, hLR⟩ : ∃ LR, LR = lineRow R C f dx dy N := ⟨_, rfl⟩
      have HLS := hide fun (w2 : World) (hb : Below w3.heap.size w3 w2) => implLineSums_yes (.slice (some ⟨gm, om, none⟩) R cm) R C N f dx dy w2 (inMat_below HM3.out hb) HI.out hdok hN hN41
      rw [← hLR] at HTT HTS HGS HLS hLL
      have HAL := hide ((Below.refl wd.heap.size wd).alloc (Nat.le_refl _) (.cells #[.int .i64 dx, .int .i64 dy] 29))
      have HD1 := hide (show DirAt (wd.alloc (.cells #[.int .i64 dx, .int .i64 dy] 29)) wd.heap.size dx dy from heap_alloc_new wd _)
      have HLL := hide hLL
      clear hp hdr hd HDR hdok hN hLR hLL
      go_wp2_with fail
      refine (HLS.out _ (HBD.out.trans (HAL.out.mono HBD.out.size))).mono ?_
      rintro e w9 ⟨v7, rfl, ho, hb⟩
      have HA9 := hide (HAL.out.trans (hb.mono HAL.out.size))
      have HD9 := hide (dirAt_below HD1.out hb)
      have HL9 := hide (inRow_own ho)
      have h39 := HBD.out.trans (HA9.out.mono HBD.out.size)
      have HM9 := hide (inMat_below HM3.out h39)
      have HC0 := hide (below_cell h39 HG3.out HC3.out)
      have HGM := hide (Nat.lt_of_lt_of_le HG3.out h39.size)
      obtain ⟨a7, c7, rfl⟩ := own_slice ho
      rw [HLL.out] at HL9 ⊢
      have hRp : (0 : Int) < R := by omega
      clear ho hb h39 HLS HAL HD1 HLL
      go_upto_region 9 with fail
      obtain ⟨fs, hfs⟩ : ∃ fs : List FactP, fs = [(isV (.agg #[.int .i64 dx, .int .i64 dy])), (isV (.bool true)), (isV (.bool false)), (isV (.bool false)), (isV (.slice a7 N c7)), (isV (.int .i64 N)), (isV (.slice (some ⟨gm, om, none⟩) R cm)), (isV (.int .i64 R)), (isV (.slice (some ⟨gm, om, none⟩) R cm)), (isV (.pointer (some ⟨gm, om, none⟩))), (isV (.slice (some ⟨g0, o0, none⟩) C k0)), (isV (.int .i64 C)), (isV (.agg #[.int .i64 dx, .int .i64 dy])), (isV (.int .i64 N)), (isV (.bool false)), (isV (.bool false)), (isV (.bool false)), (isV (.slice a7 N c7)), (isV (.int .i64 B)), (isV (.int .i64 B)), (isV (.bool false)), (isV (.bool false)), (isV (.bool false)), (isV (.slice a7 N c7)), (isV (.slice (some ⟨gm, om, none⟩) R cm)), (isV (.agg #[.int .i64 dx, .int .i64 dy])), (fun u w2 => InRow w2 u LR), (isV (.bool true)), (isV (.bool false))] := ⟨_, rfl⟩
      have hst : ∀ f ∈ fs, StableP f := by
        rw [hfs]; intro f hf
        simp only [List.mem_cons, List.not_mem_nil, or_false] at hf
        rcases hf with rfl | rfl | rfl | rfl | rfl | rfl | rfl | rfl | rfl | rfl | rfl | rfl | rfl | rfl | rfl | rfl | rfl | rfl | rfl | rfl | rfl | rfl | rfl | rfl | rfl | rfl | rfl | rfl | rfl <;> first | exact stable_v _ | exact fun u w2 w3 hb h => inRow_below h hb
      subst hfs
      refine wp_region_g (S := fun w2 => Below w9.heap.size w9 w2) [(isV (.agg #[.int .i64 dx, .int .i64 dy])), (isV (.bool true)), (isV (.bool false)), (isV (.bool false)), (isV (.slice a7 N c7)), (isV (.int .i64 N)), (isV (.slice (some ⟨gm, om, none⟩) R cm)), (isV (.int .i64 R)), (isV (.slice (some ⟨gm, om, none⟩) R cm)), (isV (.pointer (some ⟨gm, om, none⟩))), (isV (.slice (some ⟨g0, o0, none⟩) C k0)), (isV (.int .i64 C)), (isV (.agg #[.int .i64 dx, .int .i64 dy])), (isV (.int .i64 N)), (isV (.bool false)), (isV (.bool false)), (isV (.bool false)), (isV (.slice a7 N c7)), (isV (.int .i64 B)), (isV (.int .i64 B)), (isV (.bool false)), (isV (.bool false)), (isV (.bool false)), (isV (.slice a7 N c7)), (isV (.slice (some ⟨gm, om, none⟩) R cm)), (isV (.agg #[.int .i64 dx, .int .i64 dy])), (fun u w2 => InRow w2 u LR), (isV (.bool true)), (isV (.bool false))] [(3, .slice (some ⟨gm, om, none⟩) R cm), (4, .int .i64 B), (6, .pointer (some ⟨wd.heap.size, 0, none⟩)), (7, .slice a7 N c7)] _ _ 29 (by kernel_rfl) rfl rfl (by kernel_rfl) (by kernel_rfl) rfl (by kernel_rfl) ?base (below_drew (Below.refl _ _)) ?ob rfl ?fin
      case base =>
        intro t v ht
        simp only [List.lookup_cons, List.lookup_nil] at ht
        repeat' split at ht
        all_goals first | (cases ht; done) | (obtain rfl := Option.some.inj ht; rename_i hh; obtain rfl := eq_of_beq hh; rfl)
      case ob =>
        exact ⟨obg_of rfl (obt_one (.agg #[.int .i64 dx, .int .i64 dy]) rfl rfl (srt_b 6 rfl) (fun ρ w2 hS hx => exec_loadDir rfl hx (dirAt_below HD9.out hS))),
          obg_of rfl (obt_call hst [.agg #[.int .i64 dx, .int .i64 dy]] rfl Try.func10 (by kernel_rfl) (by kernel_rfl) rfl ⟨(srt_j 0 rfl (by kernel_rfl) rfl), trivial⟩ (fun w2 hS => (implDirectionOk_any dx dy w2).mono fun e w3 ⟨he, hh⟩ => ⟨_, he.trans (by rw [HDOK.out]), hS.trans (hh.mono hS.size), hh, rfl⟩)),
          obg_of rfl (obt_one (.bool false) rfl rfl (srt_j 1 rfl (by kernel_rfl) rfl) (fun ρ w2 hS hx => by go_simp)),
          obg_of rfl (obt_move (.bool false) rfl rfl rfl (srt_j 2 rfl (by kernel_rfl) rfl)),
          obg_yes 3 rfl rfl (by kernel_rfl) rfl (obt_move (.slice a7 N c7) rfl rfl rfl (srt_b 7 rfl)),
          obg_yes 3 rfl rfl (by kernel_rfl) rfl (obt_one (.int .i64 N) rfl rfl (srt_j 4 rfl (by kernel_rfl) rfl) (fun ρ w2 hS hx => by go_simp)),
          obg_yes 3 rfl rfl (by kernel_rfl) rfl (obt_move (.slice (some ⟨gm, om, none⟩) R cm) rfl rfl rfl (srt_b 3 rfl)),
          obg_yes 3 rfl rfl (by kernel_rfl) rfl (obt_one (.int .i64 R) rfl rfl (srt_j 6 rfl (by kernel_rfl) rfl) (fun ρ w2 hS hx => by go_simp)),
          obg_yes 3 rfl rfl (by kernel_rfl) rfl (obt_move (.slice (some ⟨gm, om, none⟩) R cm) rfl rfl rfl (srt_b 3 rfl)),
          obg_yes 3 rfl rfl (by kernel_rfl) rfl (obt_two (.pointer (some ⟨gm, om, none⟩)) rfl rfl (srt_j 8 rfl (by kernel_rfl) rfl) (srt_c (v := .int .i64 0)) (fun ρ w2 hS hx hy => by go_simp; intro h; omega)),
          obg_yes 3 rfl rfl (by kernel_rfl) rfl (obt_one (.slice (some ⟨g0, o0, none⟩) C k0) rfl rfl (srt_j 9 rfl (by kernel_rfl) rfl) (fun ρ w2 hS hx => by have hc := below_cell hS HGM.out HC0.out; go_simp)),
          obg_yes 3 rfl rfl (by kernel_rfl) rfl (obt_one (.int .i64 C) rfl rfl (srt_j 10 rfl (by kernel_rfl) rfl) (fun ρ w2 hS hx => by go_simp)),
          obg_yes 3 rfl rfl (by kernel_rfl) rfl (obt_one (.agg #[.int .i64 dx, .int .i64 dy]) rfl rfl (srt_b 6 rfl) (fun ρ w2 hS hx => exec_loadDir rfl hx (dirAt_below HD9.out hS))),
          obg_yes 3 rfl rfl (by kernel_rfl) rfl (obt_call hst [.int .i64 R, .int .i64 C, .agg #[.int .i64 dx, .int .i64 dy]] rfl Try.func11 (by kernel_rfl) (by kernel_rfl) rfl ⟨(srt_j 7 rfl (by kernel_rfl) rfl), (srt_j 11 rfl (by kernel_rfl) rfl), (srt_j 12 rfl (by kernel_rfl) rfl), trivial⟩ (fun w2 hS => (implCountLines_yes R C dx dy w2 HSZ.out HDOK.out).mono fun e w3 ⟨he, hh⟩ => ⟨_, he.trans (by rw [← HNC.out]), hS.trans (hh.mono hS.size), hh, rfl⟩)),
          obg_yes 3 rfl rfl (by kernel_rfl) rfl (obt_two (.bool false) rfl rfl (srt_j 5 rfl (by kernel_rfl) rfl) (srt_j 13 rfl (by kernel_rfl) rfl) (fun ρ w2 hS hx hy => by go_simp)),
          obg_of rfl (obt_pick_f (.bool false) rfl rfl rfl (srt_j 3 rfl (by kernel_rfl) rfl) (srt_j 14 rfl (by kernel_rfl) rfl)),
          obg_of rfl (obt_move (.bool false) rfl rfl rfl (srt_j 15 rfl (by kernel_rfl) rfl)),
          obg_yes 16 rfl rfl (by kernel_rfl) rfl (obt_move (.slice a7 N c7) rfl rfl rfl (srt_b 7 rfl)),
          obg_yes 16 rfl rfl (by kernel_rfl) rfl (obt_call hst [.slice a7 N c7] rfl Try.func12 (by kernel_rfl) (by kernel_rfl) rfl ⟨(srt_j 17 rfl (by kernel_rfl) rfl), trivial⟩ (fun w2 hS => (lawTotalT_any _ LR w2 (inRow_below HL9.out hS) HTT.out).mono fun e w3 ⟨he, hw⟩ => ⟨_, he.trans (by rw [HTS.out]), hw ▸ hS, hw ▸ Below.refl _ _, rfl⟩)),
          obg_yes 16 rfl rfl (by kernel_rfl) rfl (obt_move (.int .i64 B) rfl rfl rfl (srt_b 4 rfl)),
          obg_yes 16 rfl rfl (by kernel_rfl) rfl (obt_two (.bool false) rfl rfl (srt_j 18 rfl (by kernel_rfl) rfl) (srt_j 19 rfl (by kernel_rfl) rfl) (fun ρ w2 hS hx hy => by go_simp)),
          obg_of rfl (obt_pick_f (.bool false) rfl rfl rfl (srt_j 16 rfl (by kernel_rfl) rfl) (srt_j 20 rfl (by kernel_rfl) rfl)),
          obg_of rfl (obt_move (.bool false) rfl rfl rfl (srt_j 21 rfl (by kernel_rfl) rfl)),
          obg_yes 22 rfl rfl (by kernel_rfl) rfl (obt_move (.slice a7 N c7) rfl rfl rfl (srt_b 7 rfl)),
          obg_yes 22 rfl rfl (by kernel_rfl) rfl (obt_move (.slice (some ⟨gm, om, none⟩) R cm) rfl rfl rfl (srt_b 3 rfl)),
          obg_yes 22 rfl rfl (by kernel_rfl) rfl (obt_one (.agg #[.int .i64 dx, .int .i64 dy]) rfl rfl (srt_b 6 rfl) (fun ρ w2 hS hx => exec_loadDir rfl hx (dirAt_below HD9.out hS))),
          obg_yes 22 rfl rfl (by kernel_rfl) rfl (obt_call hst [.slice (some ⟨gm, om, none⟩) R cm, .agg #[.int .i64 dx, .int .i64 dy]] rfl Try.func14 (by kernel_rfl) (by kernel_rfl) rfl ⟨(srt_j 24 rfl (by kernel_rfl) rfl), (srt_j 25 rfl (by kernel_rfl) rfl), trivial⟩ (fun w2 hS => (implGridSums_any _ (mkM R C f) dx dy w2 (inMat_below HM9.out hS)).mono fun e w3 ⟨u, he, ho, hh⟩ => ⟨_, he, hS.trans (hh.mono hS.size), hh, by rw [HGS.out] at ho; exact inRow_own ho⟩)),
          obg_yes 22 rfl rfl (by kernel_rfl) rfl (obt_call_r (u := .slice a7 N c7) hst 26 rfl Try.func13 (by kernel_rfl) (by kernel_rfl) rfl rfl (by kernel_rfl) (srt_j 23 rfl (by kernel_rfl) rfl) (fun v w2 hS h1 => (same_any _ v LR LR w2 (inRow_below HL9.out hS) h1).mono fun e w3 ⟨he, hw⟩ => ⟨_, he.trans (by rw [beq_self_eq_true]), hw ▸ hS, hw ▸ Below.refl _ _, rfl⟩)),
          obg_yes 22 rfl rfl (by kernel_rfl) rfl (obt_one (.bool false) rfl rfl (srt_j 27 rfl (by kernel_rfl) rfl) (fun ρ w2 hS hx => by go_simp)),
          trivial⟩
      case fin =>
        intro a' w' h1 h2 h3 hS h4 K hK
        have ha := frame_ov rfl h1 h2 h3 [(27, .agg #[.int .i64 dx, .int .i64 dy]), (28, .bool true), (29, .bool false), (30, .bool false), (31, .slice a7 N c7), (32, .int .i64 N), (33, .slice (some ⟨gm, om, none⟩) R cm), (34, .int .i64 R), (35, .slice (some ⟨gm, om, none⟩) R cm), (36, .pointer (some ⟨gm, om, none⟩)), (37, .slice (some ⟨g0, o0, none⟩) C k0), (38, .int .i64 C), (39, .agg #[.int .i64 dx, .int .i64 dy]), (40, .int .i64 N), (41, .bool false), (42, .bool false), (43, .bool false), (44, .slice a7 N c7), (45, .int .i64 B), (46, .int .i64 B), (47, .bool false), (48, .bool false), (49, .bool false), (50, .slice a7 N c7), (51, .slice (some ⟨gm, om, none⟩) R cm), (52, .agg #[.int .i64 dx, .int .i64 dy]), (53, a'.tmps.getD 53 undef), (54, .bool true), (55, .bool false), (56, a'.tmps.getD 56 undef)] (by kernel_rfl) ⟨h4 0 27 rfl (by decide), h4 1 28 rfl (by decide), h4 2 29 rfl (by decide), h4 3 30 rfl (by decide), h4 4 31 rfl (by decide), h4 5 32 rfl (by decide), h4 6 33 rfl (by decide), h4 7 34 rfl (by decide), h4 8 35 rfl (by decide), h4 9 36 rfl (by decide), h4 10 37 rfl (by decide), h4 11 38 rfl (by decide), h4 12 39 rfl (by decide), h4 13 40 rfl (by decide), h4 14 41 rfl (by decide), h4 15 42 rfl (by decide), h4 16 43 rfl (by decide), h4 17 44 rfl (by decide), h4 18 45 rfl (by decide), h4 19 46 rfl (by decide), h4 20 47 rfl (by decide), h4 21 48 rfl (by decide), h4 22 49 rfl (by decide), h4 23 50 rfl (by decide), h4 24 51 rfl (by decide), h4 25 52 rfl (by decide), rfl, h4 27 54 rfl (by decide), h4 28 55 rfl (by decide), rfl, trivial⟩
        dsimp only [ov, List.lookup, Nat.reduceBEq, Nat.reduceAdd] at ha
        refine run_value (.bool false) (exec_pick_f (v := .bool false) rfl (h4 22 49 rfl (by decide)) (h4 28 55 rfl (by decide))) (hK (.bool false) _ ?_)
        show Exit.then _ _ Exit.normal (Act.put a' (some 56) (.bool false)) _
        rw [ha]
        generalize a'.tmps.getD 53 undef = u53
        generalize a'.tmps.getD 56 undef = u56
        clear ha h1 h2 h3 h4 hst hK
        have HB9 := hide (HBD.out.trans ((HA9.out.trans (hS.mono HA9.out.size)).mono HBD.out.size))
        go_wp2
        go_roundw
        case rel => exact ⟨j + 1, by omega, by go_num, HB9.out⟩
        case measure => simp [intOf]; omega
    · obtain rfl : NL = j := by omega
      have HM4 := hide (inMat_below HM3.out HBD.out)
      have HC4 := hide (below_cell HBD.out HG3.out HC3.out)
      have HG4 := hide (Nat.lt_of_lt_of_le HG3.out HBD.out.size)
      have HB4 := hide (HB3.out.trans (HBD.out.mono HB3.out.size))
      go_wp2_with fail
      refine (implRowSums_yes _ R C f _ HM4.out HI.out).mono ?_
      rintro e w5 ⟨v8, rfl, ho, hb⟩
      obtain ⟨a8, c8, rfl⟩ := own_slice ho
      have HR5 := hide (inRow_own ho)
      rw [rowsL_lenS] at HR5 ⊢
      have HM5 := hide (inMat_below HM4.out hb); have HC5 := hide (below_cell hb HG4.out HC4.out); have HG5 := hide (Nat.lt_of_lt_of_le HG4.out hb.size); have HB5 := hide (HB4.out.trans (hb.mono HB4.out.size))
      clear ho hb
      go_wp2_with fail
      refine (implColSums_yes _ R C f _ HM5.out HI.out).mono ?_
      rintro e w6 ⟨v9, rfl, ho, hb⟩
      obtain ⟨a9, c9, rfl⟩ := own_slice ho
      have HK6 := hide (inRow_own ho)
      rw [rowsL_lenS] at HK6 ⊢
      have HR6 := hide (inRow_below HR5.out hb)
      have HM6 := hide (inMat_below HM5.out hb); have HC6 := hide (below_cell hb HG5.out HC5.out); have HG6 := hide (Nat.lt_of_lt_of_le HG5.out hb.size); have HB6 := hide (HB5.out.trans (hb.mono HB5.out.size))
      clear ho hb
      have HS1 := hide (rows_sum HI.out)
      have HS2 := hide (cols_sum HI.out)
      rw [← HBE.out] at HS1 HS2
      have HT1 := hide (rows_smallT (R := R) (C := C) (f := f) hR5 hC5)
      have HT2 := hide (rows_smallT (R := C) (C := R) (f := trM f) hC5 hR5)
      have HOK := hide (img_sumsOk HI.out)
      have HLS := hide fun (w2 : World) (hm : InMat w2 (.slice (some ⟨gm, om, none⟩) R cm) (mkM R C f)) => implLineSums_yes (.slice (some ⟨gm, om, none⟩) R cm) R C R f 1 0 w2 hm HI.out (by decide) (countL_rows R C).symm (by omega)
      rw [lineRow_rows] at HLS
      have HTR := hide (img_tr HI.out)
      have HTI := hide fun (w2 : World) (hm : InMat w2 (.slice (some ⟨gm, om, none⟩) R cm) (mkM R C f)) => implTransposeOf_yes (.slice (some ⟨gm, om, none⟩) R cm) R C f w2 hm HI.out
      obtain ⟨rr, hrr⟩ : ∃ rr, rr = rowsL R C f := ⟨_, rfl⟩
      obtain ⟨kk, hkk⟩ : ∃ kk, kk = rowsL C R (trM f) := ⟨_, rfl⟩
      have HRI := hide fun (v : Value) (w2 : World) (hm : InMat w2 v (mkM C R (trM f))) => implRowSums_yes v C R (trM f) w2 hm HTR.out
      rw [← hrr] at HR6 HS1 HT1 HOK HLS
      rw [← hkk] at HK6 HS2 HT2 HOK HRI
      have hRp : (0 : Int) < R := by omega
      clear hrr hkk HR5 HM5 HC5 HG5 HB5 HM4 HC4 HG4 HB4
      go_wp2_with (first | ((with_reducible refine (lawTotalT_any (.slice a8 R c8) rr _ HR6.out HT1.out).mono ?_); rw [HS1.out]; rintro e wx ⟨rfl, rfl⟩) | ((with_reducible refine (lawTotalT_any (.slice a9 C c9) kk _ HK6.out HT2.out).mono ?_); rw [HS2.out]; rintro e wx ⟨rfl, rfl⟩) | ((with_reducible refine (HLS.out _ HM6.out).mono ?_); rintro e w7 ⟨u7, rfl, ho, hb⟩; have HU7 := hide (inRow_own ho); have HR7 := hide (inRow_below HR6.out hb); have HK7 := hide (inRow_below HK6.out hb); have HM7 := hide (inMat_below HM6.out hb); have HB7 := hide (HB6.out.trans (hb.mono HB6.out.size)); have hc7 := below_cell hb HG6.out HC6.out; clear ho hb) | ((with_reducible refine (same_any _ _ rr rr _ HR7.out HU7.out).mono ?_); rw [beq_self_eq_true]; rintro e wx ⟨rfl, rfl⟩) | ((with_reducible refine (implSumsOk_any _ _ rr kk _ HR7.out HK7.out).mono ?_); rw [HOK.out]; rintro e w8 ⟨rfl, hb⟩; have HK8 := hide (inRow_below HK7.out hb); have HM8 := hide (inMat_below HM7.out hb); have HB8 := hide (HB7.out.trans (hb.mono HB7.out.size)); clear hb) | ((with_reducible refine (HTI.out _ HM8.out).mono ?_); rintro e w9 ⟨u9, rfl, ho, hb⟩; have HU9 := hide (inMat_own ho); have HK9 := hide (inRow_below HK8.out hb); have HB9 := hide (HB8.out.trans (hb.mono HB8.out.size)); clear ho hb) | ((with_reducible refine (HRI.out _ _ HU9.out).mono ?_); rintro e w10 ⟨u10, rfl, ho, hb⟩; have HU10 := hide (inRow_own ho); have HK10 := hide (inRow_below HK9.out hb); have HB10 := hide (HB9.out.trans (hb.mono HB9.out.size)); clear ho hb) | ((with_reducible refine (same_any _ _ kk kk _ HK10.out HU10.out).mono ?_); rw [beq_self_eq_true]; rintro e wx ⟨rfl, rfl⟩))
      go_ret
      exact ⟨rfl, HB10.out⟩
end Go.Proofs.Ytjnnoabaepmcnaa
