/-
  Texts of this claim, one behind the other: Pick, MkD, MkDs, TwoP, Grown, SwV, SwL, Has, Swd, IMap, Pairs, Sws.
-/
import Derived.Test.YtjnnoabaepmcnaaPackL
import Derived.Test.YtjnnoabaepmcnaaPackE
import Derived.Test.YtjnnoabaepmcnaaPackH
import Derived.Test.YtjnnoabaepmcnaaPackC
import Derived.WalkMore
import Derived.Deep.LoopGhost
import Derived.Test.YtjnnoabaepmcnaaPackI
import Derived.Test.YtjnnoabaepmcnaaPackJ
import Derived.Test.YtjnnoabaepmcnaaPackK
import Derived.Test.YtjnnoabaepmcnaaPackA
import Derived.Shelf.SlSortCmp.QuietGrown
import Derived.Test.YtjnnoabaepmcnaaPackB
import Derived.Test.YtjnnoabaepmcnaaPackD
import Derived.DeepKeys5
import Derived.Maps.OwnSet
/-
  One of a list's numbers is drawn.
-/
namespace Go.Proofs.Ytjnnoabaepmcnaa
open Go.RowKit

set_option maxHeartbeats 400000 in
theorem l01Pick_any (B n : Nat) (a : Option Addr) (g len cap : Nat) (l : List Int) (hln : len = l.length) (w : World) (base : Nat) (hc : CurAt w B a n) (hin : InBytes w base a n) (hbase : base ≤ B) (h1 : 1 ≤ l.length ∧ l.length ≤ 100) (hg : g ≠ B) (hlt : g < w.heap.size)
    (hl : ∀ i, (h : i < l.length) → w.cell? ⟨g, i, none⟩ = some (.int .i64 l[i])) :
    Calls Try.prog 62 #[.pointer (some ⟨B, 0, none⟩), .slice (some ⟨g, 0, none⟩) len cap] w fun e w' => ∃ z, z ∈ l ∧ e = .returned (.int .i64 z) ∧ CurAt w' B a n ∧ w.grownBy w' (some B) := by
  have HC := hide hc; have HI := hide hin; have HL := hide hl
  obtain ⟨k, rfl⟩ : ∃ k, k = len := ⟨_, rfl⟩
  have HK := hide hln
  rw [← hln] at h1
  obtain ⟨h1a, h1b⟩ := h1
  clear hc hin hl hln
  go_enter Try.func62, Try.ntmps62
  go_wp2_with fail
  refine (l01Below_any B n a k _ base (by omega) (by omega) HC.out HI.out hbase).mono ?_
  rintro e w1 ⟨x, hx0, hx1, rfl, hc1, hg1⟩
  obtain ⟨j, rfl⟩ : ∃ j : Nat, x = j := ⟨x.toNat, by omega⟩
  have hj : j < k := by omega
  have hjl : j < l.length := by rw [← HK.out]; exact hj
  have hcell : w1.cell? ⟨g, j, none⟩ = some (.int .i64 l[j]) := (World.cell?_of_block (hg1.block g hlt (by simp; omega))).trans (HL.out j hjl)
  have HMEM := hide (show l[j] ∈ l from List.getElem_mem hjl)
  obtain ⟨z, hz⟩ : ∃ z, z = l[j] := ⟨_, rfl⟩
  rw [← hz] at hcell HMEM
  have HC1 := hide hc1; have HG1 := hide hg1
  clear hc1 hg1 hz hx0 hx1
  go_wp2
  go_ret
  exact ⟨z, HMEM.out, rfl, HC1.out, HG1.out⟩
end Go.Proofs.Ytjnnoabaepmcnaa
/-
  Directions that are drawn, of the model.
-/
namespace Go.Proofs.Ytjnnoabaepmcnaa
open Go.RowKit
set_option maxRecDepth 100000

theorem exec_storeDr {ρ : Operand → Value} {o : Oper} {w : World} {x y : Operand} {g : Nat} {r0 c0 : Int} (r c : Int) (ho : o.op = .store 29 x y) (hx : ρ x = .pointer (some ⟨g, 0, none⟩)) (hy : ρ y = .agg #[.int .i64 r, .int .i64 c]) (hb : DirAt w g r0 c0) :
    ∃ w', (execOp ρ o).run Try.prog w = .ok .skip w' ∧ DirAt w' g r c ∧ w.grownBy w' (some g) ∧ w'.heap.size = w.heap.size := by
  unfold execOp
  simp only [ho, hx, hy, Instr.storeAt, Instr.sureAddr, Sem.run_bind, Sem.run_pure, Result.andThen_ok, run_storeVar_row w g 29 29 #[.int .i64 r0, .int .i64 c0] #[.int .i64 r, .int .i64 c] hb (by rw [Try.sizeDir]; rfl) rfl (by simp [Value.oneCell'])]
  exact ⟨_, rfl, setRow_heap w g _ _ _ (0, 0) hb, ⟨rfl, rfl, rfl, by simp, fun k hk hr => setRow_other w g k _ (fun e => hr (by rw [e]))⟩, by simp⟩
theorem wpList_storeDr {ops : Array Oper} {rest : List Oper} {o : Oper} {a : Act} {Q : Exit → Act → World → Prop} {W : World} {g : Nat} {r0 c0 : Int} (hb : DirAt W g r0 c0) (r c : Int)
    (hgd : o.guard = none) (x y : Operand) (ho : o.op = .store 29 x y) (hx : a.eval x = .pointer (some ⟨g, 0, none⟩)) (hy : a.eval y = .agg #[.int .i64 r, .int .i64 c])
    (h : ∀ w', DirAt w' g r c → W.grownBy w' (some g) → w'.heap.size = W.heap.size → wpList Try.prog ops Q rest (a.put o.dst undef) w') : wpList Try.prog ops Q (o :: rest) a W := by
  refine wpList_plain hgd fun K hK => ?_
  obtain ⟨w', h1, h2, h3, h4⟩ := exec_storeDr (ρ := a.eval) r c ho hx hy hb
  unfold Oper.wp
  rw [h1]
  exact hK _ _ (h w' h2 h3 h4)
theorem sixGrown {w wb w3 w4 w5 : World} {B g : Nat} (h1 : Below w.heap.size w wb) (h2 : wb.grownBy w3 (some B)) (h3 : Below w3.heap.size w3 w4) (h4 : w4.grownBy w5 (some g)) (hg : w.heap.size ≤ g) : w.grownBy w5 (some B) := by
  have s1 := h1.size; have s2 := h2.size; have s3 := h3.size
  refine ⟨?_, ?_, ?_, ?_, fun k hk hne => ?_⟩
  · rw [h4.os, h3.os, h2.os, h1.os]
  · rw [h4.tape, h3.tape, h2.tape, h1.tape]
  · rw [h4.output, h3.output, h2.output, h1.output]
  · have := h4.size; omega
  · rw [h4.block k (by omega) (by simp; omega), h3.block k (by omega), h2.block k (by omega) hne, h1.block k (by omega)]
/-- The six directions that are drawn. -/
def sixD : List (Int × Int) := [(1, 0), (0, 1), (1, 1), (1, -1), (2, 1), (1, 2)]
set_option maxHeartbeats 2000000 in
theorem l03Direction_any (B n : Nat) (a : Option Addr) (w : World) (base : Nat) (hc : CurAt w B a n) (hin : InBytes w base a n) (hbase : base ≤ B) :
    Calls Try.prog 33 #[.pointer (some ⟨B, 0, none⟩)] w fun e w' => ∃ d : Int × Int, d ∈ sixD ∧ e = .returned (.agg #[.int .i64 d.1, .int .i64 d.2]) ∧ CurAt w' B a n ∧ w.grownBy w' (some B) := by
  have hBw := curAt_lt hc
  obtain ⟨wa, hwa⟩ : ∃ wa, wa = w.alloc (.cells #[.int .i64 0, .int .i64 0] 29) := ⟨_, rfl⟩
  obtain ⟨wb, hwb⟩ : ∃ wb, wb = wa.alloc (.cells #[.int .i64 0, .int .i64 1, .int .i64 2, .int .i64 3, .int .i64 4, .int .i64 5] 3) := ⟨_, rfl⟩
  have za : wa.heap.size = w.heap.size + 1 := by rw [hwa]; simp
  have zb : wb.heap.size = w.heap.size + 2 := by rw [hwb]; simp [za]
  have hba : Below w.heap.size w wa := by rw [hwa]; exact (Below.refl _ _).alloc (Nat.le_refl _) _
  have hbb : Below wa.heap.size wa wb := by rw [hwb]; exact (Below.refl _ _).alloc (Nat.le_refl _) _
  have hbab := hba.trans (hbb.mono hba.size)
  have HD0 := hide (dirAt_below (show DirAt wa w.heap.size 0 0 by rw [hwa]; exact heap_alloc_new w _) hbb)
  have HCB := hide (curAt_below hc hbab); have HIB := hide (inBytes_below hin (hbab.mono (by omega)))
  have HCL : Hid (∀ i, (h : i < [(0 : Int), 1, 2, 3, 4, 5].length) → wb.cell? ⟨wa.heap.size, i, none⟩ = some (.int .i64 [(0 : Int), 1, 2, 3, 4, 5][i])) := hide fun i h => by
    rw [hwb, World.cell?_alloc_new]
    have : i < 6 := h
    rcases i with _ | _ | _ | _ | _ | _ | i
    all_goals first | rfl | omega
  have HPK := hide (l01Pick_any B n a wa.heap.size 6 6 [0, 1, 2, 3, 4, 5] rfl wb base HCB.out HIB.out hbase (by simp) (by omega) (by omega) HCL.out)
  have HBAB := hide hbab
  rw [za] at HPK
  have HWB : Hid (wb = (w.alloc (.cells #[.int .i64 0, .int .i64 0] 29)).alloc (.cells #[.int .i64 0, .int .i64 1, .int .i64 2, .int .i64 3, .int .i64 4, .int .i64 5] 3)) := hide (by rw [hwb, hwa])
  have HZB := hide zb
  clear hc hin hwa hwb za zb hba hbb hbab HCL
  go_enter Try.func33, Try.ntmps33
  go_wp2_with fail
  rw [← HWB.out]
  refine HPK.out.mono ?_
  rintro e w3 ⟨z, hz, rfl, hc3, hg3⟩
  have HC3 := hide hc3; have HG3 := hide hg3
  have HD3 := hide (show DirAt w3 w.heap.size 0 0 by unfold DirAt; rw [hg3.block _ (Array.getElem?_eq_some_iff.1 HD0.out).1 (by simp; omega)]; exact HD0.out)
  have HD4 := hide fun o : Obj => dirAt_below HD3.out ((Below.refl w3.heap.size w3).alloc (Nat.le_refl _) o)
  have HAL := hide ((Below.refl w3.heap.size w3).alloc (Nat.le_refl _) (.cells #[.int .i64 1, .int .i64 0, .int .i64 0, .int .i64 1, .int .i64 1, .int .i64 1, .int .i64 1, .int .i64 (-1), .int .i64 2, .int .i64 1, .int .i64 1, .int .i64 2] 29))
  clear hc3 hg3 HWB
  simp only [List.mem_cons, List.not_mem_nil, or_false] at hz
  rcases hz with rfl | rfl | rfl | rfl | rfl | rfl
  · go_wp2_with (with_reducible refine wpList_storeDr (HD4.out _) _ _ rfl _ _ rfl rfl rfl ?_; intro w4 hd4 hg4 hz4)
    obtain ⟨q0, q1⟩ := drC_at hd4
    simp only at q0 q1
    refine bodyPost_ret (v := .agg #[.int .i64 (1), .int .i64 (0)]) ?_ rfl ⟨(1, 0), by simp [sixD], rfl, ?_, sixGrown HBAB.out HG3.out HAL.out hg4 (Nat.le_refl _)⟩
    · simp [results, Try.results33, go_sem, q0, q1]
    · have s3 := HG3.out.size
      have s2 := HBAB.out.size
      exact curAt_within HC3.out (by rw [hg4.block B (by simp; omega) (by simp; omega), HAL.out.block B (by omega)])
  · go_wp2_with (with_reducible refine wpList_storeDr (HD4.out _) _ _ rfl _ _ rfl rfl rfl ?_; intro w4 hd4 hg4 hz4)
    obtain ⟨q0, q1⟩ := drC_at hd4
    simp only at q0 q1
    refine bodyPost_ret (v := .agg #[.int .i64 (0), .int .i64 (1)]) ?_ rfl ⟨(0, 1), by simp [sixD], rfl, ?_, sixGrown HBAB.out HG3.out HAL.out hg4 (Nat.le_refl _)⟩
    · simp [results, Try.results33, go_sem, q0, q1]
    · have s3 := HG3.out.size
      have s2 := HBAB.out.size
      exact curAt_within HC3.out (by rw [hg4.block B (by simp; omega) (by simp; omega), HAL.out.block B (by omega)])
  · go_wp2_with (with_reducible refine wpList_storeDr (HD4.out _) _ _ rfl _ _ rfl rfl rfl ?_; intro w4 hd4 hg4 hz4)
    obtain ⟨q0, q1⟩ := drC_at hd4
    simp only at q0 q1
    refine bodyPost_ret (v := .agg #[.int .i64 (1), .int .i64 (1)]) ?_ rfl ⟨(1, 1), by simp [sixD], rfl, ?_, sixGrown HBAB.out HG3.out HAL.out hg4 (Nat.le_refl _)⟩
    · simp [results, Try.results33, go_sem, q0, q1]
    · have s3 := HG3.out.size
      have s2 := HBAB.out.size
      exact curAt_within HC3.out (by rw [hg4.block B (by simp; omega) (by simp; omega), HAL.out.block B (by omega)])
  · go_wp2_with (with_reducible refine wpList_storeDr (HD4.out _) _ _ rfl _ _ rfl rfl rfl ?_; intro w4 hd4 hg4 hz4)
    obtain ⟨q0, q1⟩ := drC_at hd4
    simp only at q0 q1
    refine bodyPost_ret (v := .agg #[.int .i64 (1), .int .i64 (-1)]) ?_ rfl ⟨(1, -1), by simp [sixD], rfl, ?_, sixGrown HBAB.out HG3.out HAL.out hg4 (Nat.le_refl _)⟩
    · simp [results, Try.results33, go_sem, q0, q1]
    · have s3 := HG3.out.size
      have s2 := HBAB.out.size
      exact curAt_within HC3.out (by rw [hg4.block B (by simp; omega) (by simp; omega), HAL.out.block B (by omega)])
  · go_wp2_with (with_reducible refine wpList_storeDr (HD4.out _) _ _ rfl _ _ rfl rfl rfl ?_; intro w4 hd4 hg4 hz4)
    obtain ⟨q0, q1⟩ := drC_at hd4
    simp only at q0 q1
    refine bodyPost_ret (v := .agg #[.int .i64 (2), .int .i64 (1)]) ?_ rfl ⟨(2, 1), by simp [sixD], rfl, ?_, sixGrown HBAB.out HG3.out HAL.out hg4 (Nat.le_refl _)⟩
    · simp [results, Try.results33, go_sem, q0, q1]
    · have s3 := HG3.out.size
      have s2 := HBAB.out.size
      exact curAt_within HC3.out (by rw [hg4.block B (by simp; omega) (by simp; omega), HAL.out.block B (by omega)])
  · go_wp2_with (with_reducible refine wpList_storeDr (HD4.out _) _ _ rfl _ _ rfl rfl rfl ?_; intro w4 hd4 hg4 hz4)
    obtain ⟨q0, q1⟩ := drC_at hd4
    simp only at q0 q1
    refine bodyPost_ret (v := .agg #[.int .i64 (1), .int .i64 (2)]) ?_ rfl ⟨(1, 2), by simp [sixD], rfl, ?_, sixGrown HBAB.out HG3.out HAL.out hg4 (Nat.le_refl _)⟩
    · simp [results, Try.results33, go_sem, q0, q1]
    · have s3 := HG3.out.size
      have s2 := HBAB.out.size
      exact curAt_within HC3.out (by rw [hg4.block B (by simp; omega) (by simp; omega), HAL.out.block B (by omega)])
end Go.Proofs.Ytjnnoabaepmcnaa
/-
  MakeDirections, of the model: from one to three directions, drawn, all valid and different.
-/
namespace Go.Proofs.Ytjnnoabaepmcnaa
open Go.RowKit
set_option maxRecDepth 100000

/-- What MakeDirections answers. -/
def DirsRes (w : World) (e : Ending) (w' : World) : Prop := ∃ (v : Value) (l : List (Int × Int)), e = .returned v ∧ dirsB l = true ∧ DrsC w' v l ∧ Below w.heap.size w w'
/-- A list of directions of the call's own that is not nil. -/
def OwnDrE (w : World) (lo : Nat) (v : Value) (l : List (Int × Int)) : Prop := OwnDrs w lo v l ∧ ∃ g c, v = .slice (some ⟨g, 0, none⟩) l.length c
theorem ownDrE_below {w w' : World} {lo : Nat} {v : Value} {l : List (Int × Int)} (h : OwnDrE w lo v l) (hb : Below w.heap.size w w') : OwnDrE w' lo v l := ⟨ownDrs_below h.1 hb, h.2⟩
theorem drE_of {w : World} {B : Nat} {v : Value} {l : List (Int × Int)} (h : OwnDrs w B v l) (hne : v ≠ .slice none 0 0) : OwnDrE w B v l := by
  refine ⟨h, ?_⟩
  rcases h.2 with ⟨e, -⟩ | ⟨g, cap, cur, e, -⟩
  · exact absurd e hne
  · exact ⟨g, cap, e⟩
/-- An empty list of directions, new. -/
def emptyDF (B : Nat) : FactP := fun u w2 => ∃ g, u = .slice (some ⟨g, 0, none⟩) 0 0 ∧ B ≤ g ∧ w2.heap[g]? = some (.cells #[] 29 (0, 0))
theorem stable_emptyDF (B : Nat) : StableP (emptyDF B) := fun _ _ _ hb h => by
  obtain ⟨g, h1, h2, h3⟩ := h
  exact ⟨g, h1, h2, by rw [hb.block g (Array.getElem?_eq_some_iff.1 h3).1]; exact h3⟩
/-- A list of one direction, new. -/
def oneDF (B : Nat) (s : Int × Int) : FactP := fun u w2 => ∃ b, u = .slice (some ⟨b, 0, none⟩) 1 1 ∧ B ≤ b ∧ DirAt w2 b s.1 s.2
theorem stable_oneDF (B : Nat) (s : Int × Int) : StableP (oneDF B s) := fun _ _ _ hb h => by
  obtain ⟨b, h1, h2, h3⟩ := h
  exact ⟨b, h1, h2, dirAt_below h3 hb⟩
def drsF (W : World) (l : List (Int × Int)) : FactP := fun u w2 => OwnDrE w2 W.heap.size u l ∧ Below W.heap.size W w2
theorem stable_drsF (W : World) (l : List (Int × Int)) : StableP (drsF W l) := fun _ _ _ hb h => ⟨ownDrE_below h.1 hb, h.2.trans (hb.mono h.2.size)⟩
theorem exec_buildNoDr {ρ : Operand → Value} {o : Oper} {w : World} (ho : o.op = .buildSlice 26 0 #[]) :
    (execOp ρ o).run Try.prog w = .ok (.value (.slice (some ⟨w.heap.size, 0, none⟩) 0 0)) (w.alloc (.cells #[] 29)) := by
  unfold execOp
  simp only [ho]
  go_simp
theorem exec_buildDr {ρ : Operand → Value} {o : Oper} {w : World} {x : Operand} {s : Int × Int} (ho : o.op = .buildSlice 26 1 #[(0, x)]) (hx : ρ x = drV s) :
    (execOp ρ o).run Try.prog w = .ok (.value (.slice (some ⟨w.heap.size, 0, none⟩) 1 1)) (w.alloc (.cells (drA s) 29)) := by
  unfold drV at hx
  unfold execOp drA
  simp only [ho]
  go_simp
theorem cellsD_one (l : List (Int × Int)) : ∀ u ∈ cellsD l, u.oneCell' = true := by
  intro u hu
  unfold cellsD at hu
  obtain ⟨s, -, h⟩ := List.mem_flatMap.1 hu
  simp only [List.mem_cons, List.not_mem_nil, or_false] at h
  rcases h with rfl | rfl <;> rfl
/-- 'append(v, x...)' at directions. -/
theorem exec_appDrs (ty : TypeId) {W : World} {B lo m gp c : Nat} {v : Value} {p q : List (Int × Int)}
    (hv : OwnDrE W B v p) (hp : OwnDrs W lo (.slice (some ⟨gp, 0, none⟩) m c) q) (hB : B ≤ W.heap.size) (hn : p.length + q.length ≤ 4000000) :
    ∃ v' w', (∀ (ρ : Operand → Value) (o : Oper) (x y : Operand), o.op = .call { callee := .builtin .append, args := #[x, y], argTypes := #[26, 26] } → o.type = ty → ρ x = v → ρ y = .slice (some ⟨gp, 0, none⟩) m c → (execOp ρ o).run Try.prog W = .ok (.value v') w') ∧ OwnDrE w' B v' (p ++ q) ∧ W.grownBy w' v.ownBlock := by
  obtain ⟨i0, hi, hz0, hz1, hz2⟩ := info_parts Try.infoDr
  have hm : m = q.length := by
    rcases hp.2 with ⟨e, -⟩ | ⟨g, cap, cur, e, -⟩
    · cases e
    · cases e; rfl
  subst hm
  obtain ⟨hv1, g, cv, rfl⟩ := hv
  obtain ⟨v', w', hr, g1, g2, g3⟩ := run_append_own (P := Try.prog) W B 26 ty 29 i0 _ 2 16 Try.underlying26 hi hz0 hz1 hz2 rfl (by decide) _ p.length (cellsD p) hv1 ⟨gp, 0, none⟩ q.length c (cellsD q) (cellsD_len q) (fun j u hj => by
      rw [addr_add, Nat.zero_add]
      have hj' : j < q.length * 2 := by have := (List.getElem?_eq_some_iff.1 hj).1; rwa [cellsD_len] at this
      rw [World.ownsRow.cellAt hp j hj', hj]) (cellsD_one q) (by unfold maxLen; omega) (by omega) hB
  refine ⟨v', w', ?_, drE_of ?_ ?_, g2⟩
  · intro ρ o x y ho ht hx hy
    subst ht
    unfold execOp
    simp only [ho, resolve, invoke, builtin, Sem.run_bind, Sem.run_pure, Result.andThen_ok, List.map_toArray, List.map_cons, List.map_nil, hx, hy, hr]
  · unfold OwnDrs
    rw [List.length_append, show cellsD (p ++ q) = cellsD p ++ cellsD q by simp [cellsD]]
    exact g1
  · intro e
    have := (g3.1 e).1
    cases this
/-- A list of one direction, to be read. -/
theorem oneDF_own {w : World} {b : Nat} {s : Int × Int} (h : DirAt w b s.1 s.2) : OwnDrs w 0 (.slice (some ⟨b, 0, none⟩) 1 1) [s] :=
  ⟨rfl, .inr ⟨b, 1, drA s, rfl, Nat.zero_le _, h, Nat.le_refl _, by decide, rfl, rfl⟩⟩
theorem emptyDF_own {w : World} {g B : Nat} (h : w.heap[g]? = some (.cells #[] 29 (0, 0))) (hB : B ≤ g) : OwnDrE w B (.slice (some ⟨g, 0, none⟩) 0 0) [] :=
  ⟨⟨rfl, .inr ⟨g, 0, #[], rfl, hB, h, Nat.le_refl _, by decide, rfl, rfl⟩⟩, g, 0, rfl⟩
theorem oneDF_far {w w' : World} {B g : Nat} {s : Int × Int} {u : Value} (h : oneDF B s u w) (hg : w.heap[g]? = some (.cells #[] 29 (0, 0))) (hw : w.grownBy w' (some g)) : oneDF B s u w' := by
  obtain ⟨b, h1, h2, h3⟩ := h
  refine ⟨b, h1, h2, ?_⟩
  have hne : b ≠ g := by
    intro e
    subst e
    unfold DirAt at h3
    rw [h3] at hg
    simp at hg
  unfold DirAt at h3 ⊢
  rw [hw.block b (Array.getElem?_eq_some_iff.1 h3).1 (fun e => hne (Option.some.inj e))]
  exact h3
theorem six_alone : ∀ d ∈ sixD, dirsB [d] = true := by decide

set_option maxHeartbeats 8000000 in
theorem makeDirs_any (n c : Nat) (a : Option Addr) (m : Nat) (w : World) (hin : InBytes w w.heap.size a n) (hn : n ≤ 2000000) (hm : m ≤ 1000) :
    Calls Try.prog 8 #[.slice a n c, .int .i64 m] w (DirsRes w) := by
  have HI := hide hin
  clear hin
  go_enter Try.func8, Try.ntmps8
  go_wp2_with fail
  refine (l18New_any n c a m _ w.heap.size HI.out hn hm).mono ?_
  rintro e w1 ⟨rfl, hc, hb, hlt⟩
  have HC := hide hc; have HB := hide hb; have HLT := hide hlt
  obtain ⟨B, hB⟩ : ∃ B, B = w.heap.size := ⟨_, rfl⟩
  rw [← hB] at HC HLT
  rw [← hB]
  have HBE := hide hB
  clear hc hb hlt hB
  go_wp2_with fail
  obtain ⟨w2, hw2⟩ : ∃ w2, w2 = w1.alloc (.cells #[] 29) := ⟨_, rfl⟩
  have HG0 := hide (show OwnDrE w2 w1.heap.size (.slice (some ⟨w1.heap.size, 0, none⟩) 0 0) [] from emptyDF_own (by rw [hw2]; exact heap_alloc_new w1 _) (Nat.le_refl _))
  have hb12 : Below w1.heap.size w1 w2 := by rw [hw2]; exact (Below.refl _ _).alloc (Nat.le_refl _) _
  have HC2 := hide (curAt_below HC.out hb12)
  have HB2 := hide (HB.out.trans (hb12.mono HB.out.size))
  rw [← hw2]
  clear hw2 HC
  have HB12 := hide hb12
  clear hb12
  refine (l01Below_any B n a 3 _ w.heap.size (by omega) (by omega) HC2.out (inBytes_below HI.out HB2.out) (by have := HBE.out; omega)).mono ?_
  rintro e w3 ⟨x, hx0, hx1, rfl, hc3, hg3⟩
  have HC3 := hide hc3
  have HB3 := hide (below_drawn HB2.out hg3 (by have := HBE.out; omega))
  have HO3 := hide (show OwnDrE w3 w1.heap.size (.slice (some ⟨w1.heap.size, 0, none⟩) 0 0) [] from ⟨ownA_grown HG0.out.1 hg3 (fun k hk => by cases hk; have := HLT.out; simp [Value.ownBlock]; omega), HG0.out.2⟩)
  clear hc3 hg3 HG0 HC2 HB2 HB12
  go_wp2
  have HW1 : Hid (w.heap.size ≤ w1.heap.size ∧ B < w1.heap.size) := hide (by have := HB.out.size; have := HLT.out; exact ⟨by omega, by omega⟩)
  obtain ⟨L1, hL1⟩ : ∃ L1, L1 = w1.heap.size := ⟨_, rfl⟩
  rw [← hL1] at HO3 HW1 ⊢
  clear HB HLT hL1
  go_loopw [6, 7] (fun s6 s7 w' => ∃ (l : List (Int × Int)) (g cap k : Nat), s6 = .slice (some ⟨g, 0, none⟩) l.length cap ∧ s7 = .int .i64 k ∧ OwnDrs w' L1 s6 l ∧ l.length + k ≤ 3 ∧ ((l = [] ∧ 1 ≤ k) ∨ dirsB l = true) ∧ CurAt w' B a n ∧ Below w.heap.size w w') (fun _ s7 _ => (intOf s7).toNat)
  case atStart =>
    obtain ⟨k, rfl⟩ : ∃ k : Nat, x = k := ⟨x.toNat, by omega⟩
    exact ⟨[], L1, 0, k + 1, rfl, by go_num, HO3.out.1, by simp; omega, .inl ⟨rfl, by omega⟩, HC3.out, HB3.out⟩
  case round =>
    clear HO3 HC3 HB3
    obtain ⟨l, g, cap, k, rfl, rfl, hown, hlk, hcase, hcur, hbw⟩ := hrel
    have HO := hide hown; have HCU := hide hcur; have HBW := hide hbw; have HCASE := hide hcase; have HLK := hide hlk
    obtain ⟨nl, hnl⟩ : ∃ nl, nl = l.length := ⟨_, rfl⟩
    rw [← hnl] at HO hlk ⊢
    have HNL := hide hnl
    have hk3 : k ≤ 3 := by omega
    have hnl3 : nl ≤ 3 := by omega
    have HW2 := hide (show L1 ≤ wr.heap.size from by
      rcases (HO.out).2 with ⟨e, -⟩ | ⟨g', cap', cur, e, h1, h2, -⟩
      · cases e
      · have := (Array.getElem?_eq_some_iff.1 h2).1; omega)
    have HGL : Hid (L1 ≤ g ∧ g < wr.heap.size) := hide (World.ownsRow.lt HO.out g rfl)
    clear hown hcur hbw hcase hlk hnl
    by_cases hk : 0 < k
    · have hkI : (0 : Int) < k := by omega
      have HIB := hide (inBytes_below HI.out HBW.out)
      go_wp2_with fail
      refine (l03Direction_any B n a _ w.heap.size HCU.out HIB.out (by have := HBE.out; omega)).mono ?_
      rintro e w4 ⟨d, hd, rfl, hc4, hg4⟩
      have HD := hide hd
      have HC4 := hide hc4
      have HB4 := hide (below_drawn HBW.out hg4 (by have := HBE.out; omega))
      have HO4 := hide (ownA_grown HO.out hg4 (fun k hk => by cases hk; have := HGL.out; have := HW1.out; simp [Value.ownBlock]; omega))
      have HS4 := hide hg4.size
      clear hd hc4 hg4 HO HCU HBW HIB
      have HDN := hide fun o : Obj => (Below.refl w4.heap.size w4).alloc (Nat.le_refl _) o
      have HDZ : Hid (DirAt (w4.alloc (.cells #[.int .i64 0, .int .i64 0] 29)) w4.heap.size 0 0) := hide (heap_alloc_new w4 _)
      obtain ⟨d1, d2⟩ := d
      go_wp2_with (with_reducible refine wpList_storeDr HDZ.out _ _ rfl _ _ rfl rfl rfl ?_; intro w5 hd5 hg5 hz5)
      have HD5 := hide hd5
      have hb45 : Below w4.heap.size w4 w5 := below_drawn (HDN.out _) hg5 (Nat.le_refl _)
      have HC5 := hide (curAt_below HC4.out hb45)
      have HO5 := hide (ownDrs_below HO4.out hb45)
      have HB5 := hide (HB4.out.trans (hb45.mono (by have := HB4.out.size; omega)))
      have HS5 := hide (Nat.le_trans HS4.out hb45.size)
      obtain ⟨p8, hp8⟩ : ∃ p8, p8 = w4.heap.size := ⟨_, rfl⟩
      rw [← hp8] at HD5 ⊢
      clear hd5 hg5 hz5 hb45 HDN HDZ HC4 HO4 HB4 HS4 hp8
      have hfs : ∀ f ∈ ([emptyDF w5.heap.size, isV (.slice (some ⟨g, 0, none⟩) nl cap), drsF w5 l, isV (drV (d1, d2)), oneDF w5.heap.size (d1, d2), drsF w5 (l ++ [(d1, d2)])] : List FactP), StableP f := by
        intro f hf
        simp only [List.mem_cons, List.not_mem_nil, or_false] at hf
        rcases hf with rfl | rfl | rfl | rfl | rfl | rfl <;> first | exact stable_v _ | exact stable_emptyDF _ | exact stable_drsF _ _ | exact stable_oneDF _ _
      have hS1 : ∀ (wy wz : World), Below w5.heap.size w5.drew wy → Below wy.heap.size wy wz → Below w5.heap.size w5.drew wz := fun wy wz h k => h.trans (k.mono h.size)
      have hS0 : ∀ wy : World, Below w5.heap.size w5.drew wy → Below w5.heap.size w5 wy := fun wy h => (below_drew (Below.refl _ w5)).trans h
      refine wp_region_pen (S := fun wy => Below w5.heap.size w5.drew wy) 5 [emptyDF w5.heap.size, isV (.slice (some ⟨g, 0, none⟩) nl cap), drsF w5 l, isV (drV (d1, d2)), oneDF w5.heap.size (d1, d2), drsF w5 (l ++ [(d1, d2)])] [(6, .slice (some ⟨g, 0, none⟩) nl cap), (8, .pointer (some ⟨p8, 0, none⟩))] _ _ 6 (by kernel_rfl) (by decide) (by kernel_rfl) rfl rfl (by kernel_rfl) (by kernel_rfl) rfl (by kernel_rfl) ?baseA (Below.refl _ _) ?obA rfl ?finA
      case baseA =>
        intro t v ht
        simp only [List.lookup_cons, List.lookup_nil] at ht
        repeat' split at ht
        all_goals first | (cases ht; done) | (obtain rfl := Option.some.inj ht; rename_i hh; obtain rfl := eq_of_beq hh; rfl)
      case obA =>
        exact ⟨obp_of (obn_of (by kernel_rfl) (obt_make hfs rfl fun ac wy hS hs => ⟨_, _, exec_buildNoDr rfl, hS1 _ _ hS ((Below.refl _ _).alloc (Nat.le_refl _) _), (Below.refl _ _).alloc (Nat.le_refl _) _, ⟨wy.heap.size, rfl, hS.size, heap_alloc_new wy _⟩⟩)),
          obp_of (obn_of (by kernel_rfl) (obt_move (.slice (some ⟨g, 0, none⟩) nl cap) rfl rfl rfl (srt_b 6 rfl))),
          (fun ac wy hS hB hD K hK => by
            obtain ⟨g1, e22, hg1, hg2⟩ : emptyDF w5.heap.size (ac.tmps.getD 22 undef) wy := hD 0 22 rfl (by kernel_rfl)
            have h23 : ac.tmps.getD 23 undef = .slice (some ⟨g, 0, none⟩) nl cap := hD 1 23 rfl (by kernel_rfl)
            obtain ⟨v', wz, hr, ho, hgr⟩ := exec_appDrs 26 (emptyDF_own hg2 hg1) (ownDrs_below HO5.out (hS0 _ hS)) hS.size (by have := HNL.out; simp only [List.length_nil]; omega)
            have hbz := hS.grown hgr hS.size (fun k hk => by cases hk; exact hg1)
            refine ⟨.inl rfl, run_value v' (hr ac.eval _ (.tmp 22) (.tmp 23) rfl rfl e22 h23) (hK _ _ (fun _ => hbz) (fun j hj => ?_) ⟨ho, hS0 _ hbz⟩)⟩
            have hj' := List.all_eq_true.1 (show ((needPL _ 2).all fun j => j == 3 || j == 4) = true by kernel_rfl) j (needPL_of hj)
            simp only [Bool.or_eq_true, beq_iff_eq] at hj'
            rcases hj' with rfl | rfl
            · exact fun u h => h
            · exact fun u h => oneDF_far h hg2 hgr),
          obp_of (obn_of (by kernel_rfl) (obt_one (drV (d1, d2)) rfl rfl (srt_b 8 rfl) (fun ρ w2 hS hx => exec_loadDir rfl hx (dirAt_below HD5.out (hS0 _ hS))))),
          obp_of (obn_of (by kernel_rfl) (obt_make hfs rfl fun ac wy hS hs => ⟨_, _, exec_buildDr (s := (d1, d2)) rfl (hs _ _ (srt_j 3 rfl (by kernel_rfl) rfl)), hS1 _ _ hS ((Below.refl _ _).alloc (Nat.le_refl _) _), (Below.refl _ _).alloc (Nat.le_refl _) _, ⟨wy.heap.size, rfl, hS.size, heap_alloc_new wy _⟩⟩)),
          (fun ac wy hS hB hD K hK => by
            obtain ⟨h24, -⟩ : drsF w5 l (ac.tmps.getD 24 undef) wy := hD 2 24 rfl (by kernel_rfl)
            obtain ⟨b, e26, hb1, hb2⟩ : oneDF w5.heap.size (d1, d2) (ac.tmps.getD 26 undef) wy := hD 4 26 rfl (by kernel_rfl)
            obtain ⟨v', wz, hr, ho, hgr⟩ := exec_appDrs 26 h24 (oneDF_own hb2) hS.size (by have := HNL.out; simp only [List.length_singleton]; omega)
            have hbz := hS.grown hgr hS.size (fun k hk => (World.ownsRow.lt h24.1 k hk).1)
            exact ⟨.inl rfl, run_value v' (hr ac.eval _ (.tmp 24) (.tmp 26) rfl rfl rfl e26) (hK _ _ (fun hne => absurd rfl hne) (fun j hj => absurd (needPL_of hj) (by rw [show needPL _ 5 = [] by kernel_rfl]; simp)) ⟨ho, hS0 _ hbz⟩)⟩),
          trivial⟩
      case finA =>
        intro a' w' h1 h2 h3 h4 K hK
        obtain ⟨ho, hb6⟩ : drsF w5 (l ++ [(d1, d2)]) (a'.tmps.getD 27 undef) w' := h4 5 27 rfl (by decide) (by kernel_rfl)
        obtain ⟨v27, hv27⟩ : ∃ u, a'.tmps.getD 27 undef = u := ⟨_, rfl⟩
        rw [hv27] at ho
        refine run_call rfl Try.func34 (by kernel_rfl) (by kernel_rfl) #[v27] (by
          simp only [List.map_toArray, List.map_cons, List.map_nil]
          rw [show a'.eval (.tmp 27) = a'.tmps.getD 27 undef from rfl, hv27]) ?_
        refine (specDirsOk_any v27 (l ++ [(d1, d2)]) w' (drsC_own ho.1)).mono ?_
        rintro e w7 ⟨rfl, hb7⟩
        refine ⟨_, rfl, hK _ _ ?_⟩
        have ha := frame_ov rfl h1 h2 h3 [(22, a'.tmps.getD 22 undef), (23, a'.tmps.getD 23 undef), (24, a'.tmps.getD 24 undef), (25, a'.tmps.getD 25 undef), (26, a'.tmps.getD 26 undef), (27, v27), (28, a'.tmps.getD 28 undef)] (by kernel_rfl) ⟨rfl, rfl, rfl, rfl, rfl, hv27, rfl, trivial⟩
        dsimp only [ov, List.lookup, Nat.reduceBEq, Nat.reduceAdd] at ha
        rw [ha]
        generalize a'.tmps.getD 22 undef = u22
        generalize a'.tmps.getD 23 undef = u23
        generalize a'.tmps.getD 24 undef = u24
        generalize a'.tmps.getD 25 undef = u25
        generalize a'.tmps.getD 26 undef = u26
        generalize a'.tmps.getD 28 undef = u28
        have hb57 := hb6.trans (hb7.mono hb6.size)
        have HB7 := hide (HB5.out.trans (hb57.mono HB5.out.size))
        have HO7 := hide (ownDrs_below HO5.out hb57)
        have HC7 := hide (curAt_below HC5.out hb57)
        have HD7 := hide (dirAt_below HD5.out hb57)
        have HS7 := hide (Nat.le_trans HS5.out hb57.size)
        obtain ⟨q, hq⟩ : ∃ q, q = dirsB (l ++ [(d1, d2)]) := ⟨_, rfl⟩
        rw [← hq]
        have HQ := hide hq
        clear hfs hS1 hS0 h1 h2 h3 h4 hK ha ho hb6 hb7 hb57 hv27 hq HO5 HC5 HD5 HB5 HS5
        cases q with
        | false =>
          have hne : l ≠ [] := fun e => by
            have := HQ.out
            rw [e, List.nil_append, six_alone _ HD.out] at this
            cases this
          have HNE := hide hne
          clear hne
          go_wp2
          go_roundw
          case rel => exact ⟨l, g, cap, k - 1, by rw [← HNL.out], by go_num, HO7.out, by have := HLK.out; omega, .inr ((HCASE.out).resolve_left fun h => HNE.out h.1), HC7.out, HB7.out⟩
          case measure => simp [intOf]; omega
        | true =>
          obtain ⟨q0, q1⟩ := drC_at HD7.out
          have HQ0 := hide (drC_at HD7.out)
          clear q0 q1
          have hn4 : nl < 4000000 := by omega
          have HL7 : Hid (L1 ≤ w7.heap.size) := hide (by have := HW2.out; have := HS7.out; omega)
          have HOX : Hid (w7.ownsRow L1 29 2 (.slice (some ⟨g, 0, none⟩) nl cap) nl (cellsD l)) := hide (by
            have := HO7.out
            unfold OwnDrs at this
            rw [← HNL.out] at this; exact this)
          go_wp2_with (first | (with_reducible refine wpList_loadDrC HQ0.out _ rfl rfl _ rfl rfl ?_) | (with_reducible refine wpList_buildOneA (drA (d1, d2)) _ _ rfl rfl _ rfl rfl Try.underlying26 Try.infoDr (by decide) (by decide) rfl ?_) | (at_builtin; refine wpList_pushA HOX.out (drA (d1, d2)) _ rfl _ _ rfl Try.underlying26 Try.infoDr rfl (by decide) (by decide) rfl rfl rfl (by simp [drA, Value.oneCell']) hn4 HL7.out ?_; intro g8 cap8 w8 hown8 hb8 hg8 hor8 hlt8))
          have HO8 := hide hown8
          have hb8' : Below w.heap.size w w8 := HB7.out.trans (hb8.mono (by have := HW1.out; omega))
          have HB8 := hide hb8'
          have HC8 := hide (curAt_within HC7.out (hb8.block B (by have := HW1.out; omega)))
          clear hown8 hb8 hg8 hor8 hlt8 hb8'
          go_wp2
          go_roundw
          case rel =>
            refine ⟨l ++ [(d1, d2)], g8, cap8, k - 1, by rw [List.length_append, ← HNL.out]; rfl, by go_num, ?_, by have := HLK.out; rw [List.length_append, List.length_singleton]; omega, .inr HQ.out.symm, HC8.out, HB8.out⟩
            unfold OwnDrs
            rw [List.length_append, ← HNL.out, cellsD_snoc]
            exact HO8.out
          case measure => simp [intOf]; omega
    · obtain rfl : k = 0 := by omega
      have HDB := hide ((HCASE.out).resolve_left fun h => absurd h.2 (by decide))
      go_wp2
      go_ret
      refine ⟨_, l, rfl, HDB.out, drsC_own HO.out, HBW.out⟩
end Go.Proofs.Ytjnnoabaepmcnaa
/-
  PURE: the difference of two images with the same sums.
-/
namespace Go.Proofs.Ytjnnoabaepmcnaa
open Go.RowKit Go.Katz

/-- What must be added to f to have g. -/
def subF (f g : Nat → Nat → Int) (y x : Nat) : Int := g y x - f y x
def twoD : List (Int × Int) := [(1, 0), (0, 1)]
theorem elL_sub (C : Nat) (f g : Nat → Nat → Int) (d : Int × Int) (n : Int) (i : Nat) : elL C (subF f g) d n i = elL C g d n i - elL C f d n i := by
  unfold elL subF; split <;> simp
theorem sumF_sub (u v : Nat → Int) : ∀ n, sumF (fun i => u i - v i) n = sumF u n - sumF v n
  | 0 => rfl
  | n + 1 => by rw [sumF, sumF, sumF, sumF_sub u v n]; omega
theorem elL_cnt {R C : Nat} {f : Nat → Nat → Int} (hI : Img R C f) (d : Int × Int) (n : Int) : sumF (elL C f d n) (C * R) = (cnt (onL C f d n) (C * R) : Nat) := sumF_cnt fun i hi => by
  have hC := hI.c1
  have h1 : i / C < R := (Nat.div_lt_iff_lt_mul (by omega)).2 (by rw [Nat.mul_comm]; exact hi)
  have h2 : i % C < C := Nat.mod_lt _ (by omega)
  unfold elL onL
  rcases hI.cell _ _ h1 h2 with e | e <;> rw [e] <;> by_cases h : lnum d.1 d.2 C (i / C : Nat) (i % C : Nat) = n <;> simp
theorem sub_lines {R C : Nat} {f g : Nat → Nat → Int} (hI : Img R C f) (hJ : Img R C g) (hs : SameF R C f g) (d : Int × Int) (hd : d ∈ twoD) (n : Int) : sumF (elL C (subF f g) d n) (C * R) = 0 := by
  have e1 : sumF (elL C (subF f g) d n) (C * R) = sumF (fun i => elL C g d n i - elL C f d n i) (C * R) := sumF_congr fun i _ => elL_sub C f g d n i
  rw [e1, sumF_sub, elL_cnt hI, elL_cnt hJ]
  simp only [twoD, List.mem_cons, List.not_mem_nil, or_false] at hd
  rcases hd with rfl | rfl
  · rw [cnt_rows, cnt_rows]
    by_cases h : 0 ≤ n ∧ n < R
    · rw [if_pos h, if_pos h, hs.1 n.toNat (by omega)]; omega
    · rw [if_neg h, if_neg h]; omega
  · rw [cnt_cols, cnt_cols]
    by_cases h : 0 ≤ n ∧ n < C
    · rw [if_pos h, if_pos h, hs.2 (C - 1 - n.toNat) (by omega)]; omega
    · rw [if_neg h, if_neg h]; omega
theorem sub_small {R C : Nat} {f g : Nat → Nat → Int} (hI : Img R C f) (hJ : Img R C g) {y x : Nat} (hy : y < R) (hx : x < C) : -1 ≤ subF f g y x ∧ subF f g y x ≤ 1 := by
  unfold subF
  rcases hI.cell y x hy hx with e | e <;> rcases hJ.cell y x hy hx with e2 | e2 <;> rw [e, e2] <;> omega
theorem rowF_all {C : Nat} {f : Nat → Int} {p : Int → Bool} : (rowF C f).all p = true ↔ ∀ x, x < C → p (f x) = true := by
  simp [rowF, List.all_eq_true]
theorem sub_grid {R C : Nat} {f g : Nat → Nat → Int} (hI : Img R C f) (hJ : Img R C g) : gridOkB (mkM R C (subF f g)) = true := by
  have h1 := hI.r1; have h2 := hI.r2; have h3 := hI.c1; have h4 := hI.c2
  have hw := width_mkM (C := C) (f := subF f g) (show 0 < R by omega)
  unfold gridOkB gridB
  rw [hw, mkM_len, decide_eq_true (show R ≠ 0 by omega), sizeOk, decide_eq_true (show (1 : Int) ≤ R ∧ (R : Int) ≤ 5 by omega), decide_eq_true (show (1 : Int) ≤ C ∧ (C : Int) ≤ 5 by omega)]
  rw [anyRow_no fun r hr => by
    simp only [mkM, List.mem_map] at hr
    obtain ⟨y, -, rfl⟩ := hr
    rw [rowF_len]; simp]
  simp only [Bool.and_self, Bool.not_false, Bool.true_and]
  rw [List.all_eq_true]
  intro r hr
  simp only [mkM, List.mem_map, List.mem_range] at hr
  obtain ⟨y, hy, rfl⟩ := hr
  unfold within
  rw [rowF_all]
  intro x hx
  have := sub_small hI hJ hy hx
  exact decide_eq_true (by omega)
theorem sub_gsL {R C : Nat} {f g : Nat → Nat → Int} (hI : Img R C f) (hJ : Img R C g) (hs : SameF R C f g) (d : Int × Int) (hd : d ∈ twoD) : within (gsL (mkM R C (subF f g)) d.1 d.2) 0 = true := by
  have h1 := hI.r1; have h3 := hI.c1
  have hw := width_mkM (C := C) (f := subF f g) (show 0 < R by omega)
  unfold gsL
  split
  · rw [hw, mkM_len]
    unfold lineRowE within
    rw [rowF_all]
    intro i _
    have e : sumF (elL C (elM (mkM R C (subF f g))) (d.1, d.2) i) (R * C) = sumF (elL C (subF f g) d i) (C * R) := by
      rw [Nat.mul_comm]
      refine sumF_congr fun j hj => ?_
      have h1 : j / C < R := (Nat.div_lt_iff_lt_mul (by omega)).2 (by rw [Nat.mul_comm]; exact hj)
      have h2 : j % C < C := Nat.mod_lt _ (by omega)
      unfold elL
      rw [elM_mk h1 h2]
    rw [e, sub_lines hI hJ hs d hd]
    decide
  · rfl
theorem sub_ghost {R C : Nat} {f g : Nat → Nat → Int} (hI : Img R C f) (hJ : Img R C g) (hs : SameF R C f g) : ghostB (mkM R C (subF f g)) twoD = !(mkM R C f == mkM R C g) := by
  have hd : dirsB twoD = true := by decide
  unfold ghostB
  rw [hd, sub_grid hI hJ]
  have hl : (twoD.all fun d => within (gsL (mkM R C (subF f g)) d.1 d.2) 0) = true := by
    rw [List.all_eq_true]; exact fun d hd => sub_gsL hI hJ hs d hd
  rw [hl, Bool.and_true, Bool.true_and, Bool.true_and]
  by_cases h : ∀ y x, y < R → x < C → f y x = g y x
  · have e : mkM R C f = mkM R C g := mkM_congr h
    rw [e, beq_self_eq_true, Bool.not_true, List.any_eq_false]
    intro r hr
    simp only [mkM, List.mem_map, List.mem_range] at hr
    obtain ⟨y, hy, rfl⟩ := hr
    have : within (rowF C (subF f g y)) 0 = true := by
      unfold within
      rw [rowF_all]
      intro x hx
      have := h y x hy hx
      unfold subF
      exact decide_eq_true (by omega)
    simp [this]
  · have hne : (mkM R C f == mkM R C g) = false := by
      rw [beq_eq_false_iff_ne]
      intro e
      apply h
      intro y x hy hx
      rw [← elM_mk (f := f) hy hx, e, elM_mk hy hx]
    rw [hne, Bool.not_false, List.any_eq_true]
    have h : ∃ y x, y < R ∧ x < C ∧ f y x ≠ g y x := Classical.byContradiction fun hn => h fun y x hy hx => Classical.byContradiction fun hc => hn ⟨y, x, hy, hx, hc⟩
    obtain ⟨y, x, hy, hx, hc⟩ := h
    refine ⟨rowF C (subF f g y), List.mem_map.2 ⟨y, List.mem_range.2 hy, rfl⟩, ?_⟩
    have : within (rowF C (subF f g y)) 0 = false := by
      cases hb : within (rowF C (subF f g y)) 0 with
      | false => rfl
      | true =>
        unfold within at hb
        rw [rowF_all] at hb
        have := of_decide_eq_true (hb x hx)
        unfold subF at this
        omega
    rw [this]; rfl
theorem sub_add {R C : Nat} {f g : Nat → Nat → Int} (hI : Img R C f) (hJ : Img R C g) : aghM (mkM R C f) (mkM R C (subF f g)) 0 0 = mkM R C g ∧ aghB (mkM R C f) (mkM R C (subF f g)) 0 0 = true := by
  have h1 := hI.r1; have h2 := hI.r2; have h3 := hI.c1; have h4 := hI.c2
  have hw := width_mkM (C := C) (f := subF f g) (show 0 < R by omega)
  have hwf := width_mkM (C := C) (f := f) (show 0 < R by omega)
  have hS : aghS (mkM R C f) (mkM R C (subF f g)) 0 0 = mkM R C g := by
    unfold aghS aghF
    rw [hw, hwf, mkM_len, mkM_len]
    refine mkM_congr fun y x hy hx => ?_
    rw [addF_val, if_pos (by omega)]
    simp only [Int.toNat_zero, Nat.sub_zero]
    rw [elM_mk hy hx, elM_mk hy hx]
    have := sub_small hI hJ hy hx
    rw [Int.one_mul, wrap_small (z := subF f g y x) (by omega)]
    have hf := hI.cell y x hy hx
    rw [wrap_small (by omega)]
    unfold subF; omega
  have hB : aghB (mkM R C f) (mkM R C (subF f g)) 0 0 = true := by
    have hg := sub_grid hI hJ
    unfold gridOkB at hg
    rw [Bool.and_eq_true] at hg
    have hh : holdsB (mkM R C f).length (widthM (mkM R C f)) (mkM R C (subF f g)).length (widthM (mkM R C (subF f g))) 0 0 = true := by
      rw [hw, hwf, mkM_len, mkM_len]; unfold holdsB
      simp only [Bool.and_eq_true, decide_eq_true_eq]
      omega
    rw [aghB, img_ok hI, hg.1, hh, hS, img_ok hJ]; rfl
  exact ⟨by rw [aghM, hB, if_pos rfl, hS], hB⟩
theorem bg_two : bgM twoD = [[1, -1], [-1, 1]] ∧ bgB twoD = true := by decide +kernel
end Go.Proofs.Ytjnnoabaepmcnaa
/-
  Worlds that have grown: some draws, some blocks laid behind.
-/
namespace Go.Proofs.Ytjnnoabaepmcnaa
open Go.RowKit

/-- After some draws, with some blocks laid behind. -/
def GrownW (w w' : World) : Prop := ∃ q os, w' = Go.Sort.grow (w.drewN q) os
theorem grownW_refl (w : World) : GrownW w w := ⟨0, #[], by rw [Go.Sort.grow_empty]; rfl⟩
theorem grownW_grow (w : World) (q : Nat) (os : Array Obj) : GrownW w (Go.Sort.grow (w.drewN q) os) := ⟨q, os, rfl⟩
theorem grownW_trans {a b c : World} (h : GrownW a b) (k : GrownW b c) : GrownW a c := by
  obtain ⟨q, os, rfl⟩ := h
  obtain ⟨p, os', rfl⟩ := k
  exact ⟨q + p, os ++ os', by show Go.Sort.grow (Go.Sort.grow ((a.drewN q).drewN p) os) os' = _; rw [Go.Sort.grow_grow, World.drewN_drewN]⟩
theorem grownW_alloc (w : World) (o : Obj) : GrownW w (w.alloc o) := ⟨0, #[o], by rw [Go.Sort.alloc_eq_grow]; rfl⟩
theorem grownW_below {w w' : World} (h : GrownW w w') : Below w.heap.size w w' := by
  obtain ⟨q, os, rfl⟩ := h
  refine ⟨rfl, rfl, rfl, ?_, fun k hk => ?_⟩
  · show w.heap.size ≤ (w.heap ++ os).size
    rw [Array.size_append]; omega
  · show (w.heap ++ os)[k]? = _
    rw [Array.getElem?_append_left hk]
theorem quiet_of {P : Program} {f : FuncId} {args : Array Value} {w : World} {n : Nat} {os : Array Obj} {v : Value} (h : Calls P f args (Go.Sort.grow (w.drewN n) os) fun e w' => e = .returned v ∧ GrownW (Go.Sort.grow (w.drewN n) os) w') :
    Calls P f args (Go.Sort.grow (w.drewN n) os) fun e w'' => e = .returned v ∧ ∃ p : GrownBy, w'' = Go.Sort.grow (w.drewN p.n) p.os := Calls.grown_of h
end Go.Proofs.Ytjnnoabaepmcnaa
/-
  Switches as values and in variables; a cell of an image; whether a switch is one of an image.
-/
namespace Go.Proofs.Ytjnnoabaepmcnaa
open Go.RowKit

def swA (s : Sw) : Array Value := #[.int .i64 s.y1, .int .i64 s.y2, .int .i64 s.x1, .int .i64 s.x2]
def swV (s : Sw) : Value := .agg (swA s)
theorem swA_size (s : Sw) : (swA s).size = 4 := rfl
theorem swA_one (s : Sw) : (swA s).all (·.oneCell') = true := by simp [swA, Value.oneCell']
/-- The cell of five rows of five, -1 outside. -/
def cellF (F : Nat → Int) (y x : Int) : Int := if 0 ≤ y ∧ y < 5 ∧ 0 ≤ x ∧ x < 5 then F (5 * y.toNat + x.toNat) else -1
/-- Whether the switch is one of the image. -/
def hasF (F : Nat → Int) (s : Sw) : Bool :=
  decide (s.y1 < s.y2) && decide (s.x1 < s.x2) && decide (cellF F s.y1 s.x1 ≠ cellF F s.y1 s.x2) && decide (cellF F s.y2 s.x1 = cellF F s.y1 s.x2) && decide (cellF F s.y2 s.x2 = cellF F s.y1 s.x1)
theorem cellF_img {R C : Nat} {f : Nat → Nat → Int} (h : Img R C f) (y x : Int) : cellF (imgF R C f) y x = if 0 ≤ y ∧ y < R ∧ 0 ≤ x ∧ x < C then f y.toNat x.toNat else -1 := by
  have hR := h.r2; have hC := h.c2
  unfold cellF
  by_cases h0 : 0 ≤ y ∧ y < 5 ∧ 0 ≤ x ∧ x < 5
  · rw [if_pos h0, imgF_at _ _ _ _ _ (by omega)]
    by_cases h1 : 0 ≤ y ∧ y < R ∧ 0 ≤ x ∧ x < C
    · rw [if_pos (by omega), if_pos h1]
    · rw [if_neg (by omega), if_neg h1]
  · rw [if_neg h0, if_neg (by omega)]
theorem hasF_img {R C : Nat} {f : Nat → Nat → Int} (h : Img R C f) (s : Sw) : hasF (imgF R C f) s = swF R C f s := by
  have hR := h.r2; have hC := h.c2
  obtain ⟨y1, y2, x1, x2⟩ := s
  rw [Bool.eq_iff_iff]
  simp only [hasF, cellF_img h, swF, four, Bool.and_eq_true, decide_eq_true_eq]
  by_cases hh : (0 ≤ y1 ∧ 0 ≤ x1) ∧ y1 < y2 ∧ x1 < x2
  · obtain ⟨⟨h1, h2⟩, h3, h4⟩ := hh
    obtain ⟨a, rfl⟩ : ∃ a : Nat, y1 = a := ⟨y1.toNat, by omega⟩
    obtain ⟨b, rfl⟩ : ∃ b : Nat, y2 = b := ⟨y2.toNat, by omega⟩
    obtain ⟨c, rfl⟩ : ∃ c : Nat, x1 = c := ⟨x1.toNat, by omega⟩
    obtain ⟨d, rfl⟩ : ∃ d : Nat, x2 = d := ⟨x2.toNat, by omega⟩
    simp only [Int.toNat_natCast]
    by_cases hb : b < R ∧ d < C
    · obtain ⟨hb, hd⟩ := hb
      have e1 := h.cell a c (by omega) (by omega); have e2 := h.cell a d (by omega) (by omega); have e3 := h.cell b c (by omega) (by omega); have e4 := h.cell b d (by omega) (by omega)
      rw [if_pos (by omega), if_pos (by omega), if_pos (by omega), if_pos (by omega)]
      omega
    · constructor
      · intro hx
        exfalso
        obtain ⟨⟨⟨⟨-, -⟩, g1⟩, g2⟩, g3⟩ := hx
        rw [if_neg (show ¬ (0 ≤ (b : Int) ∧ (b : Int) < R ∧ 0 ≤ (d : Int) ∧ (d : Int) < C) by omega)] at g3
        by_cases hc : a < R ∧ c < C
        · have := h.cell a c hc.1 hc.2
          rw [if_pos (by omega)] at g3
          omega
        · rw [if_neg (show ¬ (0 ≤ (a : Int) ∧ (a : Int) < R ∧ 0 ≤ (c : Int) ∧ (c : Int) < C) by omega)] at g1
          rw [if_neg (by omega)] at g1
          exact g1 rfl
      · rintro ⟨-, h5⟩; omega
  · constructor
    · intro hx
      exfalso
      obtain ⟨⟨⟨⟨k1, k2⟩, g1⟩, g2⟩, g3⟩ := hx
      have hn : ¬ (0 ≤ y1 ∧ 0 ≤ x1) := fun e => hh ⟨e, k1, k2⟩
      rw [if_neg (show ¬ (0 ≤ y1 ∧ y1 < R ∧ 0 ≤ x1 ∧ x1 < C) by omega)] at g1 g3
      split at g1 <;> split at g3 <;> split at g2 <;> first | omega | skip
      all_goals first | (exact g1 rfl) | skip
      all_goals (rename_i q1 q2 q3; omega)
    · rintro ⟨⟨⟨⟨k1, k2⟩, k3⟩, k4⟩, -⟩
      exact absurd ⟨⟨k1, k2⟩, k3, k4⟩ hh
end Go.Proofs.Ytjnnoabaepmcnaa
/-
  Lists of switches in memory.
-/
namespace Go.Proofs.Ytjnnoabaepmcnaa
open Go.RowKit

def cellsS (l : List Sw) : List Value := l.flatMap fun s => [.int .i64 s.y1, .int .i64 s.y2, .int .i64 s.x1, .int .i64 s.x2]
theorem cellsS_len (l : List Sw) : (cellsS l).length = l.length * 4 := by
  induction l with
  | nil => rfl
  | cons s l ih =>
    simp only [cellsS, List.flatMap_cons, List.length_append, List.length_cons, List.length_nil] at ih ⊢
    omega
theorem cellsS_snoc (l : List Sw) (s : Sw) : cellsS (l ++ [s]) = cellsS l ++ (swA s).toList := by
  simp [cellsS, swA]
theorem cellsS_at : ∀ (l : List Sw) (i : Nat) (h : i < l.length), (cellsS l)[i * 4]? = some (.int .i64 l[i].y1) ∧ (cellsS l)[i * 4 + 1]? = some (.int .i64 l[i].y2) ∧ (cellsS l)[i * 4 + 2]? = some (.int .i64 l[i].x1) ∧ (cellsS l)[i * 4 + 3]? = some (.int .i64 l[i].x2)
  | [], i, h => absurd h (Nat.not_lt_zero _)
  | s :: l, 0, _ => ⟨rfl, rfl, rfl, rfl⟩
  | s :: l, i + 1, h => by
    have := cellsS_at l i (by simpa using h)
    have e : cellsS (s :: l) = [.int .i64 s.y1, .int .i64 s.y2, .int .i64 s.x1, .int .i64 s.x2] ++ cellsS l := by simp [cellsS]
    rw [e]
    simp only [List.getElem_cons_succ]
    refine ⟨?_, ?_, ?_, ?_⟩
    · rw [List.getElem?_append_right (by simp; omega)]
      simpa [show (i + 1) * 4 - 4 = i * 4 by omega] using this.1
    · rw [List.getElem?_append_right (by simp; omega)]
      simpa [show (i + 1) * 4 + 1 - 4 = i * 4 + 1 by omega] using this.2.1
    · rw [List.getElem?_append_right (by simp; omega)]
      simpa [show (i + 1) * 4 + 2 - 4 = i * 4 + 2 by omega] using this.2.2.1
    · rw [List.getElem?_append_right (by simp; omega)]
      simpa [show (i + 1) * 4 + 3 - 4 = i * 4 + 3 by omega] using this.2.2.2
/-- The four cells of a switch. -/
def SwC (w : World) (g k : Nat) (s : Sw) : Prop := w.cell? ⟨g, k, none⟩ = some (.int .i64 s.y1) ∧ w.cell? ⟨g, k + 1, none⟩ = some (.int .i64 s.y2) ∧ w.cell? ⟨g, k + 2, none⟩ = some (.int .i64 s.x1) ∧ w.cell? ⟨g, k + 3, none⟩ = some (.int .i64 s.x2)
theorem swC_below {w w' : World} {g k : Nat} {s : Sw} (h : SwC w g k s) (hb : Below w.heap.size w w') (hg : g < w.heap.size) : SwC w' g k s :=
  ⟨below_cell hb hg h.1, below_cell hb hg h.2.1, below_cell hb hg h.2.2.1, below_cell hb hg h.2.2.2⟩
/-- The slice v reads as the switches l. -/
def InSws (w : World) (v : Value) (l : List Sw) : Prop :=
  ∃ a c, v = .slice a l.length c ∧ l.length ≤ maxLen ∧ (l.length = 0 ∨ ∃ g o, a = some ⟨g, o, none⟩ ∧ g < w.heap.size ∧ ∀ i, (h : i < l.length) → SwC w g (o + i * 4) l[i])
theorem inSws_below {w w' : World} {v : Value} {l : List Sw} (h : InSws w v l) (hb : Below w.heap.size w w') : InSws w' v l := by
  obtain ⟨a, c, hv, hm, hp⟩ := h
  refine ⟨a, c, hv, hm, ?_⟩
  rcases hp with h0 | ⟨g, o, ha, hg, hc⟩
  · exact .inl h0
  · exact .inr ⟨g, o, ha, Nat.lt_of_lt_of_le hg hb.size, fun i hi => swC_below (hc i hi) hb hg⟩
theorem inSws_nil (w : World) : InSws w (.slice none 0 0) [] := ⟨none, 0, rfl, Nat.zero_le _, .inl rfl⟩
end Go.Proofs.Ytjnnoabaepmcnaa
/-
  hasSwitch of the program.
-/
namespace Go.Proofs.Ytjnnoabaepmcnaa
open Go.RowKit

theorem exec_loadVec {P : Program} {ρ : Operand → Value} {o : Oper} {w : World} {x : Operand} {g n m : Nat} {T T' e : TypeId} {F : Nat → Int} (ho : o.op = .load T' x) (hx : ρ x = .pointer (some ⟨g, 0, none⟩)) (hb : Blk w g T n F) (hu : P.underlying T' = some (.array m e)) (hi : (P.info? T').map (·.size) = some n) :
    (execOp ρ o).run P w = .ok (.value (.agg (vec n F))) w := by
  unfold execOp
  simp only [ho, hx, Instr.loadAt, Instr.sureAddr, Sem.run_bind, Sem.run_pure, Result.andThen_ok, run_loadVar_row w g T T' (vec n F) (0, 0) _ hb hu rfl (by rw [hi, vec_size])]
/-- The whole variable is read, where a guard asks for it. -/
theorem wpList_loadVecW {P : Program} {ops : Array Oper} {rest : List Oper} {o : Oper} {a : Act} {Q : Exit → Act → World → Prop} {W : World} {g n m : Nat} {T T' e : TypeId} {F : Nat → Int} (hb : Blk W g T n F)
    (d : Tmp) (_hd : o.dst = some d) (j : Nat) (want : Bool) (hg : o.guard = some (j, want)) (b : Bool) (hy : yielded ops a.tmps j = some b) (hw : b = want) (x : Operand) (ho : o.op = .load T' x) (hx : a.eval x = .pointer (some ⟨g, 0, none⟩)) (hu : P.underlying T' = some (.array m e)) (hi : (P.info? T').map (·.size) = some n)
    (h : wpList P ops Q rest (a.put o.dst (.agg (vec n F))) W) : wpList P ops Q (o :: rest) a W :=
  wpList_step fun K hK => by rw [if_pos (show Region.wanted o (yielded ops a.tmps) = true by unfold Region.wanted; rw [hg]; simp only [hy, hw, beq_self_eq_true])]; exact wp_load_row T' x ho g hx T (vec n F) (0, 0) _ hb hu rfl (by rw [hi, vec_size]) (hK _ _ h)
theorem exec_loadInt {ρ : Operand → Value} {o : Oper} {w : World} {x : Operand} {g k : Nat} {z : Int} (ho : o.op = .load 3 x) (hx : ρ x = .pointer (some ⟨g, k, none⟩)) (hc : w.cell? ⟨g, k, none⟩ = some (.int .i64 z)) : (execOp ρ o).run Try.prog w = .ok (.value (.int .i64 z)) w := by
  unfold execOp
  simp only [ho, hx]
  go_simp
end Go.Proofs.Ytjnnoabaepmcnaa
/-
  switched of the program: an image after one of its switches.
-/
namespace Go.Proofs.Ytjnnoabaepmcnaa
open Go.RowKit

def pickN (a b i : Nat) : Nat := if i = 0 then a else b
def flipAt (F : Nat → Int) (p : Nat) : Nat → Int := fun j => if j = p then 1 - F p else F j
/-- The cells after the first n of the four. -/
def stepF (F : Nat → Int) (a b c d : Nat) : Nat → Nat → Int
  | 0 => F
  | n + 1 => flipAt (stepF F a b c d n) (5 * pickN a b (n / 2) + pickN c d (n % 2))
theorem stepF_small {F : Nat → Int} (h : ∀ i, F i = -1 ∨ F i = 0 ∨ F i = 1) (a b c d : Nat) : ∀ n i : Nat, -((n : Int) + 1) ≤ stepF F a b c d n i ∧ stepF F a b c d n i ≤ (n : Int) + 2
  | 0, i => by have := h i; unfold stepF; omega
  | n + 1, i => by
    have h1 := stepF_small h a b c d n i
    have h2 := stepF_small h a b c d n (5 * pickN a b (n / 2) + pickN c d (n % 2))
    unfold stepF flipAt
    split <;> omega
theorem stepF_all {F : Nat → Int} {a b c d : Nat} (hab : a ≠ b) (hcd : c ≠ d) (hc : c < 5) (hd : d < 5) : ∀ i, i < 25 → stepF F a b c d 4 i = if (i / 5 = a ∨ i / 5 = b) ∧ (i % 5 = c ∨ i % 5 = d) then 1 - F i else F i := by
  intro i hi
  have e : stepF F a b c d 4 = flipAt (flipAt (flipAt (flipAt F (5 * a + c)) (5 * a + d)) (5 * b + c)) (5 * b + d) := rfl
  rw [e]
  unfold flipAt
  by_cases h1 : i = 5 * a + c
  · subst h1
    rw [if_neg (by omega), if_neg (by omega), if_neg (by omega), if_pos rfl, if_pos (by omega)]
  · by_cases h2 : i = 5 * a + d
    · subst h2
      rw [if_neg (by omega), if_neg (by omega), if_pos rfl, if_neg (by omega), if_pos (by omega)]
    · by_cases h3 : i = 5 * b + c
      · subst h3
        rw [if_neg (by omega), if_pos rfl, if_neg (by omega), if_neg (by omega), if_pos (by omega)]
      · by_cases h4 : i = 5 * b + d
        · subst h4
          rw [if_pos rfl, if_neg (by omega), if_neg (by omega), if_neg (by omega), if_pos (by omega)]
        · rw [if_neg h4, if_neg h3, if_neg h2, if_neg h1, if_neg (by omega)]
theorem stepF_img {R C : Nat} {f : Nat → Nat → Int} {a b c d : Nat} (h : four R C f a b c d = true) (hC : C ≤ 5) : ∀ i, i < 25 → stepF (imgF R C f) a b c d 4 i = imgF R C (flipN f a b c d) i := by
  obtain ⟨h1, h2, h3, h4, -⟩ := four_iff.1 h
  intro i hi
  rw [stepF_all (by omega) (by omega) (by omega) (by omega) i hi]
  unfold imgF flipN
  by_cases hh : i / 5 < R ∧ i % 5 < C
  · rw [if_pos hh, if_pos hh]
  · rw [if_neg hh, if_neg hh, if_neg]
    omega
theorem vec_two (a b : Nat) : #[Value.int .i64 (a : Int), Value.int .i64 (b : Int)] = vec 2 fun i => ((pickN a b i : Nat) : Int) := rfl
theorem exec_indexAt {P : Program} {ρ : Operand → Value} {o : Oper} {w : World} {x i : Operand} {T E : TypeId} {g b m s : Nat} (k q : Nat) (ho : o.op = .indexAddr T x i) (hx : ρ x = .pointer (some ⟨g, b, none⟩)) (hi : ρ i = .int .i64 k) (hu : P.underlying T = some (.array m E)) (hs : ∀ w, (sizeOf E).run P w = .ok s w) (hk : k < m) (hq : b + k * s = q) :
    (execOp ρ o).run P w = .ok (.value (.pointer (some ⟨g, q, none⟩))) w := by
  subst hq
  unfold execOp
  simp only [ho, hx, hi, Instr.indexAt, Instr.sureAddr, Sem.run_bind, asIntOf, Sem.run_pure, Result.andThen_ok, run_underlying hu]
  rw [if_pos ⟨by omega, by omega⟩]
  simp only [Sem.run_bind, hs, Result.andThen_ok, Int.toNat_natCast, addr_add]
  simp
theorem exec_storeInt {ρ : Operand → Value} {o : Oper} {w : World} {x y : Operand} {g k : Nat} {u v : Int} (ho : o.op = .store 3 x y) (hx : ρ x = .pointer (some ⟨g, k, none⟩)) (hy : ρ y = .int .i64 v) (h1 : w.cell? ⟨g, k, none⟩ = some (.int .i64 u)) (f1 : w.frozen? ⟨g, k, none⟩ = false) :
    (execOp ρ o).run Try.prog w = .ok .skip (w.setCell ⟨g, k, none⟩ (.int .i64 v)) := by
  unfold execOp
  simp only [ho, hx, hy]
  go_simp

end Go.Proofs.Ytjnnoabaepmcnaa
/-
  A map of switches keyed by images, told by its entries.
-/
namespace Go.Proofs.Ytjnnoabaepmcnaa
open Go.RowKit
set_option maxRecDepth 100000

theorem Try.laidOutM : laidOutB Try.prog = true := by kernel_rfl
theorem Try.keyTyM : Try.prog.keyType 56 = true := by kernel_rfl
theorem Try.cellsImg : Try.prog.cellsOf 56 = 25 := by kernel_rfl
theorem Try.cellsRow5 : Try.prog.cellsOf 54 = 5 := by kernel_rfl
theorem Try.cellsI : Try.prog.cellsOf 3 = 1 := by kernel_rfl
theorem Try.imgLaw : Maps.Keyed Try.prog 56 := Maps.Keyed.of_law (deep_law_gate Try.laidOutM (of_decide_eq_true (by kernel_rfl)) (of_decide_eq_true (by kernel_rfl)) Try.keyTyM (by rw [Try.underlying56]))
theorem mapM_some {α β : Type} (f : α → Option β) : ∀ l : List α, (∀ x ∈ l, ∃ y, f x = some y) → ∃ ys, l.mapM f = some ys
  | [], _ => ⟨[], rfl⟩
  | x :: l, h => by
    obtain ⟨y, hy⟩ := h x (by simp)
    obtain ⟨ys, hys⟩ := mapM_some f l fun z hz => h z (by simp [hz])
    exact ⟨y :: ys, by simp [List.mapM_cons, hy, hys]⟩
theorem intLitM (d : Nat) (x : Int) (h : (Lit.int .i64 x).wf = true) : ∃ l, Try.prog.keyLits (d + 1) 3 [.int .i64 x] = some l := by
  unfold Program.keyLits
  rw [Try.underlying3]
  exact ⟨_, if_pos ⟨rfl, h⟩⟩
theorem rowLitM (d : Nat) (F : Nat → Int) (h : ∀ i, (Lit.int .i64 (F i)).wf = true) : ∃ l, Try.prog.keyLits (d + 2) 54 (vecL 5 F) = some l := by
  unfold Program.keyLits
  rw [Try.underlying54]
  simp only [Try.cellsRow5, Try.cellsI, vecL_len, if_true]
  obtain ⟨ys, hys⟩ := mapM_some (fun i => Try.prog.keyLits (d + 1) 3 (((vecL 5 F).drop (i * 1)).take 1)) (List.range 5) fun i hi => by
    have hi' := List.mem_range.1 hi
    have e : ((vecL 5 F).drop (i * 1)).take 1 = [.int .i64 (F i)] := by
      apply List.ext_getElem
      · simp [vecL]; omega
      · intro j h1 h2
        obtain rfl : j = 0 := by simp at h2; omega
        simp [vecL]
    obtain ⟨l, hl⟩ := intLitM d (F i) (h i)
    exact ⟨l, by rw [e]; exact hl⟩
  exact ⟨ys.flatten, by rw [hys]; rfl⟩
theorem imgLitM (d : Nat) (F : Nat → Int) (h : ∀ i, (Lit.int .i64 (F i)).wf = true) : ∃ l, Try.prog.keyLits (d + 3) 56 (vecL 25 F) = some l := by
  unfold Program.keyLits
  rw [Try.underlying56]
  simp only [Try.cellsImg, Try.cellsRow5, vecL_len, if_true]
  obtain ⟨ys, hys⟩ := mapM_some (fun i => Try.prog.keyLits (d + 2) 54 (((vecL 25 F).drop (i * 5)).take 5)) (List.range 5) fun i hi => by
    have hi' := List.mem_range.1 hi
    have e : ((vecL 25 F).drop (i * 5)).take 5 = vecL 5 fun j => F (i * 5 + j) := by
      apply List.ext_getElem
      · simp [vecL]; omega
      · intro j h1 h2
        simp [vecL]
    obtain ⟨l, hl⟩ := rowLitM d (fun j => F (i * 5 + j)) fun j => h _
    exact ⟨l, by rw [e]; exact hl⟩
  exact ⟨ys.flatten, by rw [hys]; rfl⟩
/-- Cells of an image. -/
def WfI (F : Nat → Int) : Prop := ∀ i, F i = -1 ∨ F i = 0 ∨ F i = 1
theorem wfI_lit {F : Nat → Int} (h : WfI F) (i : Nat) : (Lit.int .i64 (F i)).wf = true := by
  rcases h i with e | e | e <;> rw [e] <;> decide
theorem img_key {F : Nat → Int} (h : WfI F) : ∃ l, keyOf Try.prog 56 (.agg (vec 25 F)) = some l := by
  have hs : ∃ d, Try.prog.types.size + 1 = d + 3 := ⟨Try.prog.types.size - 2, by have : 3 ≤ Try.prog.types.size := of_decide_eq_true (by kernel_rfl); omega⟩
  obtain ⟨d, hd⟩ := hs
  obtain ⟨L, hL⟩ := imgLitM d F (wfI_lit h)
  have hf : (Value.agg (vec 25 F)).formed Try.prog 56 = true := by
    simp [Value.formed, Try.underlying56, Try.cellsImg, vec_size]
  have hc : (Value.agg (vec 25 F)).cells.toList = vecL 25 F := by simp [Value.cells, vec]
  refine ⟨.string (keyBytes L), ?_⟩
  unfold keyOf
  rw [Try.underlying56]
  simp only [Try.keyTyM, hf, Bool.and_self, if_true, hc, hd, hL, Option.map_some]
/-- The map in block b holds these entries, in this order. -/
def ImgMap (w : World) (b : Nat) (ks : List ((Nat → Int) × Sw)) : Prop :=
  ∃ (es : Array MapEntry) (clock : Nat), w.heap[b]? = some (.map es clock) ∧ es.toList.map (fun e => (e.key, e.val)) = (ks.map fun p => (Value.agg (vec 25 p.1), swV p.2)) ∧ MapKept.Stamped es clock
theorem imgMap_lt {w : World} {b : Nat} {ks : List ((Nat → Int) × Sw)} (h : ImgMap w b ks) : b < w.heap.size := by
  obtain ⟨es, c, hb, -⟩ := h
  exact (Array.getElem?_eq_some_iff.1 hb).1
theorem imgMap_heap {w w' : World} {b : Nat} {ks : List ((Nat → Int) × Sw)} (h : ImgMap w b ks) (e : w'.heap[b]? = w.heap[b]?) : ImgMap w' b ks := by
  obtain ⟨es, c, hb, hk⟩ := h
  exact ⟨es, c, e.trans hb, hk⟩
theorem imgMap_below {w w' : World} {b : Nat} {ks : List ((Nat → Int) × Sw)} (h : ImgMap w b ks) (hb : Below w.heap.size w w') : ImgMap w' b ks := imgMap_heap h (hb.block b (imgMap_lt h))
theorem imgMap_grown {w w' : World} {b : Nat} {ks : List ((Nat → Int) × Sw)} {row : Option Nat} (h : ImgMap w b ks) (hg : w.grownBy w' row) (hr : row ≠ some b) : ImgMap w' b ks := imgMap_heap h (hg.block b (imgMap_lt h) (Ne.symm hr))
theorem imgMap_made (w : World) : ImgMap (w.alloc (.map #[] 0)) w.heap.size [] := ⟨#[], 0, heap_alloc_new w _, rfl, MapKept.stamped_empty 0⟩
theorem own_not_map {w : World} {b1 e1 n1 z1 b : Nat} {v1 : Value} {xs : List Value} {ks : List ((Nat → Int) × Sw)} (h1 : w.ownsRow b1 e1 z1 v1 n1 xs) (h2 : ImgMap w b ks) : v1.ownBlock ≠ some b := by
  obtain ⟨es, c, hb, -⟩ := h2
  rcases h1.2 with ⟨rfl, _⟩ | ⟨g1, c1, cur1, rfl, _, hg1, _⟩
  · simp [Value.ownBlock]
  · intro e
    simp only [Value.ownBlock, Option.some.injEq] at e
    subst e
    rw [hg1] at hb; cases hb
theorem imgMap_keys {es : Array MapEntry} {ks : List ((Nat → Int) × Sw)} (hk : es.toList.map (fun e => (e.key, e.val)) = ks.map fun p => (Value.agg (vec 25 p.1), swV p.2)) (hw : ∀ p ∈ ks, WfI p.1) : ∀ e ∈ es.toList, ∃ l, keyOf Try.prog 56 e.key = some l := by
  intro e he
  have h1 : (e.key, e.val) ∈ es.toList.map (fun e => (e.key, e.val)) := List.mem_map.2 ⟨e, he, rfl⟩
  rw [hk] at h1
  obtain ⟨p, hp, hpe⟩ := List.mem_map.1 h1
  simp only [Prod.mk.injEq] at hpe
  obtain ⟨l, hl⟩ := img_key (hw p hp)
  exact ⟨l, by rw [← hpe.1]; exact hl⟩
end Go.Proofs.Ytjnnoabaepmcnaa
/-
  pairsBelow of the program: all pairs of numbers below 5, in order.
-/
namespace Go.Proofs.Ytjnnoabaepmcnaa
open Go.RowKit

def cellsP (l : List (Nat × Nat)) : List Value := l.flatMap fun p => [.int .i64 (p.1 : Int), .int .i64 (p.2 : Int)]
theorem cellsP_snoc (l : List (Nat × Nat)) (a b : Nat) : cellsP (l ++ [(a, b)]) = cellsP l ++ #[Value.int .i64 (a : Int), .int .i64 (b : Int)].toList := by simp [cellsP]
/-- The pairs up to a number. -/
def upP (k : Nat) : List (Nat × Nat) := ((List.range k).filter fun c => decide (c / 5 < c % 5)).map fun c => (c / 5, c % 5)
theorem upP_yes {k : Nat} (h : k / 5 < k % 5) : upP (k + 1) = upP k ++ [(k / 5, k % 5)] := by
  unfold upP; rw [List.range_succ, List.filter_append, List.map_append]; simp [h]
theorem upP_no {k : Nat} (h : ¬ k / 5 < k % 5) : upP (k + 1) = upP k := by
  unfold upP; rw [List.range_succ, List.filter_append, List.map_append]; simp [h]
theorem upP_skip {k l : Nat} (hkl : k ≤ l) (h : ∀ i, k ≤ i → i < l → ¬ i / 5 < i % 5) : upP l = upP k := by
  induction l with
  | zero => obtain rfl : k = 0 := by omega
            rfl
  | succ l ih =>
    by_cases e : k = l + 1
    · rw [e]
    · rw [upP_no (h l (by omega) (by omega)), ih (by omega) fun i h1 h2 => h i h1 (by omega)]
theorem upP_len (k : Nat) : (upP k).length ≤ k := by
  unfold upP; rw [List.length_map]
  exact Nat.le_trans (List.length_filter_le _ _) (by rw [List.length_range]; exact Nat.le_refl _)
end Go.Proofs.Ytjnnoabaepmcnaa
/-
  switches of the program: all switches of an image, in order.
-/
namespace Go.Proofs.Ytjnnoabaepmcnaa
open Go.RowKit

def kp (p : Nat) : Nat := [1, 2, 3, 4, 7, 8, 9, 13, 14, 19].getD p 25
theorem pairs_len : (upP 25).length = 10 := by decide +kernel
theorem pairs_at : ∀ p, p < 10 → (upP 25)[p]? = some (kp p / 5, kp p % 5) := by decide +kernel
theorem kp_in : ∀ p, p < 10 → kp p < 25 ∧ kp p / 5 < kp p % 5 := by decide +kernel
theorem kp_next : ∀ p, p < 10 → kp p < kp (p + 1) ∧ kp (p + 1) ≤ 25 ∧ ∀ c, c < 25 → kp p < c → c < kp (p + 1) → ¬ c / 5 < c % 5 := by decide +kernel
theorem kp_zero : kp 0 = 1 := rfl
theorem kp_ten : kp 10 = 25 := rfl
theorem cellsP_at : ∀ (l : List (Nat × Nat)) (i a b : Nat), l[i]? = some (a, b) → (cellsP l)[i * 2]? = some (.int .i64 (a : Int)) ∧ (cellsP l)[i * 2 + 1]? = some (.int .i64 (b : Int))
  | [], i, a, b, h => by simp at h
  | p :: l, 0, a, b, h => by
    simp only [List.getElem?_cons_zero, Option.some.injEq] at h
    subst h
    exact ⟨rfl, rfl⟩
  | p :: l, i + 1, a, b, h => by
    have := cellsP_at l i a b (by simpa using h)
    have e : cellsP (p :: l) = [.int .i64 (p.1 : Int), .int .i64 (p.2 : Int)] ++ cellsP l := by simp [cellsP]
    rw [e]
    refine ⟨?_, ?_⟩
    · rw [List.getElem?_append_right (by simp; omega)]
      simpa [show (i + 1) * 2 - 2 = i * 2 by omega] using this.1
    · rw [List.getElem?_append_right (by simp; omega)]
      simpa [show (i + 1) * 2 + 1 - 2 = i * 2 + 1 by omega] using this.2
theorem swB_order {m : List (List Int)} {i : Nat} (h : ¬ (i / 125 < i / 25 % 5 ∧ i / 5 % 5 < i % 5)) : swB m (decS i) = false := by
  rw [Bool.eq_false_iff]
  intro e
  obtain ⟨a, b, c, d, e1, h1⟩ := swF_iff.1 e
  obtain ⟨h2, h3, -⟩ := four_iff.1 h1
  unfold decS at e1
  simp only [Sw.mk.injEq] at e1
  omega
theorem dec_pair (p q : Nat) (hq : q < 25) : decS (25 * p + q) = ⟨((p / 5 : Nat) : Int), ((p % 5 : Nat) : Int), ((q / 5 : Nat) : Int), ((q % 5 : Nat) : Int)⟩ := by
  unfold decS
  rw [show (25 * p + q) / 125 = p / 5 by omega, show (25 * p + q) / 25 % 5 = p % 5 by omega, show (25 * p + q) / 5 % 5 = q / 5 by omega, show (25 * p + q) % 5 = q % 5 by omega]
theorem upS_in (m : List (List Int)) (p : Nat) : upS m (25 * p + kp 0) = upS m (25 * p) :=
  upS_skip (by omega) fun i h1 h2 => swB_order (by rw [kp_zero] at h2; omega)
theorem upS_q (m : List (List Int)) (p q : Nat) (hq : q < 10) : upS m (25 * p + kp (q + 1)) = upS m (25 * p + kp q + 1) := by
  obtain ⟨h1, h2, h3⟩ := kp_next q hq
  refine upS_skip (by omega) fun i g1 g2 => swB_order ?_
  have := h3 (i - 25 * p) (by omega) (by omega) (by omega)
  omega
theorem upS_p (m : List (List Int)) (p : Nat) (hp : p < 10) : upS m (25 * kp (p + 1)) = upS m (25 * kp p + kp 10) := by
  obtain ⟨h1, h2, h3⟩ := kp_next p hp
  rw [kp_ten]
  refine upS_skip (by omega) fun i g1 g2 => swB_order ?_
  have := h3 (i / 25) (by omega) (by omega) (by omega)
  omega
theorem upS_first (m : List (List Int)) : upS m (25 * kp 0) = [] := by
  rw [upS_skip (k := 0) (by omega) fun i _ h2 => swB_order (by rw [kp_zero] at h2; omega)]; rfl
theorem own_not_blk {w : World} {b1 e1 n1 z1 g n : Nat} {T : TypeId} {F : Nat → Int} {v1 : Value} {xs : List Value} (h1 : w.ownsRow b1 e1 z1 v1 n1 xs) (h2 : Blk w g T n F) (hne : e1 ≠ T) : v1.ownBlock ≠ some g := by
  rcases h1.2 with ⟨rfl, _⟩ | ⟨g1, c1, cur1, rfl, _, hg1, _⟩
  · simp [Value.ownBlock]
  · intro e
    simp only [Value.ownBlock, Option.some.injEq] at e
    subst e
    unfold Blk at h2
    rw [hg1] at h2
    simp only [Option.some.injEq, Obj.cells.injEq] at h2
    exact hne h2.2.1
end Go.Proofs.Ytjnnoabaepmcnaa
