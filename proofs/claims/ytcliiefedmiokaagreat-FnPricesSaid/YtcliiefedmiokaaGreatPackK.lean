/-
  Texts of this claim, one behind the other: Betw, WtOf, FindP, Cyc, Seq, ShSort, SortF, Grown, Bound.
-/
import Derived.Test.YtcliiefedmiokaaGreatPackJ
import Derived.Test.YtcliiefedmiokaaGreatPackD
import Derived.RangeFuncBox
import Derived.RangeFuncLeaves
import Derived.Shelf.Abstract
import Derived.OwnWalkIn
import Derived.TacticsInMore
import Derived.LoopNIn
import Derived.LoopIn
import Derived.Maps.AppendAt
import Derived.Shelf.SlSortCmp.NoneTotal
import Derived.Test.YtcliiefedmiokaaGreatProg
import Derived.Test.YtcliiefedmiokaaGreatPackA
import Derived.Shelf.SlSortCmp.QuietGrown
/-
  stepsBetween: a step for each cell.
-/
namespace Go.Proofs.YtcliiefedmiokaaGreat
open Go.RowKit

/-- The step of a cell: from the row to the column where it is black, back where it is white. -/
def edgeAt (R : Nat) (g f : Nat → Nat → Int) (y x : Nat) : Edge := if f y x = 1 then ⟨y, R + x, g y x⟩ else ⟨R + x, y, -(g y x)⟩
def rowE (R : Nat) (g f : Nat → Nat → Int) (y x : Nat) : List Edge := (List.range x).map (edgeAt R g f y)
def allE (R C : Nat) (g f : Nat → Nat → Int) (y : Nat) : List Edge := (List.range y).flatMap fun j => rowE R g f j C
theorem allE_succ (R C : Nat) (g f : Nat → Nat → Int) (y : Nat) : allE R C g f (y + 1) = allE R C g f y ++ rowE R g f y C := by simp [allE, List.range_succ]
theorem rowE_succ (R : Nat) (g f : Nat → Nat → Int) (y x : Nat) : rowE R g f y (x + 1) = rowE R g f y x ++ [edgeAt R g f y x] := by simp [rowE, List.range_succ]
theorem rowE_len (R : Nat) (g f : Nat → Nat → Int) (y x : Nat) : (rowE R g f y x).length = x := by simp [rowE]
theorem allE_len (R C : Nat) (g f : Nat → Nat → Int) : ∀ y, (allE R C g f y).length = y * C
  | 0 => by simp [allE]
  | y + 1 => by rw [allE_succ, List.length_append, allE_len R C g f y, rowE_len, Nat.add_mul, Nat.one_mul]
theorem mem_allE {R C : Nat} {g f : Nat → Nat → Int} {y : Nat} {e : Edge} : e ∈ allE R C g f y ↔ ∃ j x, j < y ∧ x < C ∧ e = edgeAt R g f j x := by
  simp only [allE, rowE, List.mem_flatMap, List.mem_range, List.mem_map]
  constructor
  · rintro ⟨j, hj, x, hx, rfl⟩; exact ⟨j, x, hj, hx, rfl⟩
  · rintro ⟨j, x, hj, hx, rfl⟩; exact ⟨j, hj, x, hx, rfl⟩
theorem allE_in {R C : Nat} {g f : Nat → Nat → Int} (hW : Wt R C g) : ∀ e ∈ allE R C g f R, (e.s < R + C ∧ e.t < R + C ∧ -100 ≤ e.l ∧ e.l ≤ 100) ∧ e.s ≠ e.t := by
  intro e he
  obtain ⟨j, x, hj, hx, rfl⟩ := mem_allE.1 he
  have h1 := hW.lo j x hj hx; have h2 := hW.hi j x hj hx
  unfold edgeAt
  split
  · exact ⟨⟨by show j < R + C; omega, by show R + x < R + C; omega, h1, h2⟩, by show j ≠ R + x; omega⟩
  · exact ⟨⟨by show R + x < R + C; omega, by show j < R + C; omega, by show -100 ≤ -(g j x); omega, by show -(g j x) ≤ 100; omega⟩, by show R + x ≠ j; omega⟩
def stE (p q : Nat) (l : Int) : Array Value := #[.pointer (some ⟨p, 0, none⟩), .pointer (some ⟨q, 0, none⟩), .int .i64 l]
theorem cellsE_edge (B : Nat → Nat) (E : List Edge) (e : Edge) : cellsE B (E ++ [e]) = cellsE B E ++ (stE (B e.s) (B e.t) e.l).toList := cellsE_snoc B E e
def StepAt (w : World) (g p q : Nat) (l : Int) : Prop := w.heap[g]? = some (.cells (stE p q l) 132 (0, 0))
def stZ : Array Value := #[.pointer none, .pointer none, .int .i64 0]
def StepZ (w : World) (g : Nat) : Prop := w.heap[g]? = some (.cells stZ 132 (0, 0))
theorem Tryz.infoStep : (Tryz.prog.info? 132).map (fun i => (i.zero, i.size, i.bytes)) = some (some (.agg stZ), 3, 24) := by kernel_rfl
theorem Tryz.zeroStep (w : World) : (zeroValue 132).run Tryz.prog w = .ok (.agg stZ) w := Tryz.zeroValue132 w
theorem exec_allocE {ρ : Operand → Value} {o : Oper} {w : World} (ho : o.op = .alloc 132) : (execOp ρ o).run Tryz.prog w = .ok (.value (.pointer (some ⟨w.heap.size, 0, none⟩))) (w.alloc (.cells stZ 132)) := by
  unfold execOp
  simp only [ho, Instr.alloc, Sem.run_bind, Tryz.zeroStep, Result.andThen_ok]
  rfl
theorem exec_storeE {W : World} {g : Nat} {cs : Array Value} (p q : Nat) (l : Int) (hb : W.heap[g]? = some (.cells cs 132 (0, 0))) (hcs : cs.size = 3) :
    ∃ w', (∀ (ρ : Operand → Value) (o : Oper) (x y : Operand), o.op = .store 132 x y → ρ x = .pointer (some ⟨g, 0, none⟩) → ρ y = .agg (stE p q l) → (execOp ρ o).run Tryz.prog W = .ok .skip w') ∧ StepAt w' g p q l ∧ W.grownBy w' (some g) ∧ w'.heap.size = W.heap.size := by
  refine ⟨_, fun ρ o x y ho hx hy => ?_, setRow_heap W g _ (stE p q l) 132 (0, 0) hb, ⟨rfl, rfl, rfl, by simp, fun k hk hr => setRow_other W g k _ (fun e => hr (by rw [e]))⟩, by simp⟩
  unfold execOp
  simp only [ho, hx, hy, Instr.storeAt, Instr.sureAddr, Sem.run_bind, Sem.run_pure, Result.andThen_ok, run_storeVar_row W g 132 132 cs (stE p q l) hb (by rw [Tryz.sizeStep]; rfl) (by rw [hcs]; rfl) (by simp [stE, Value.oneCell'])]
theorem wpList_storeE {ops : Array Oper} {rest : List Oper} {o : Oper} {a : Act} {Q : Exit → Act → World → Prop} {W : World} {g : Nat} {cs : Array Value} (p q : Nat) (l : Int) (hb : W.heap[g]? = some (.cells cs 132 (0, 0))) (hcs : cs.size = 3)
    (hgd : o.guard = none) (x y : Operand) (ho : o.op = .store 132 x y) (hx : a.eval x = .pointer (some ⟨g, 0, none⟩)) (hy : a.eval y = .agg (stE p q l))
    (h : ∀ w', StepAt w' g p q l → W.grownBy w' (some g) → w'.heap.size = W.heap.size → wpList Tryz.prog ops Q rest (a.put o.dst undef) w') : wpList Tryz.prog ops Q (o :: rest) a W := by
  refine wpList_plain hgd fun K hK => ?_
  obtain ⟨w', h1, h2, h3, h4⟩ := exec_storeE p q l hb hcs
  unfold Oper.wp
  rw [h1 a.eval o x y ho hx hy]
  exact hK _ _ (h _ h2 h3 h4)
theorem wpList_loadE {ops : Array Oper} {rest : List Oper} {o : Oper} {a : Act} {Q : Exit → Act → World → Prop} {W : World} {g p q : Nat} {l : Int} (hb : StepAt W g p q l)
    (d : Tmp) (_hd : o.dst = some d) (hgd : o.guard = none) (x : Operand) (ho : o.op = .load 132 x) (hx : a.eval x = .pointer (some ⟨g, 0, none⟩))
    (h : wpList Tryz.prog ops Q rest (a.put o.dst (.agg (stE p q l))) W) : wpList Tryz.prog ops Q (o :: rest) a W :=
  wpList_load_row hgd _ x ho g hx _ _ (0, 0) _ hb Tryz.underlying132 rfl Tryz.sizeStep h
/-- A new step, in a block from B on. -/
def newE (B : Nat) : FactP := fun u w2 => ∃ G, u = .pointer (some ⟨G, 0, none⟩) ∧ B ≤ G ∧ StepZ w2 G
theorem stable_newE (B : Nat) : StableP (newE B) := fun _ _ _ hb h => ⟨h.choose, h.choose_spec.1, h.choose_spec.2.1, (hb.block _ (Array.getElem?_eq_some_iff.1 h.choose_spec.2.2).1).trans h.choose_spec.2.2⟩

set_option maxRecDepth 100000 in
set_option maxHeartbeats 4000000 in
theorem stepsBetween_any (vr vc vk vm : Value) (R C lo : Nat) (B : Nat → Nat) (g f : Nat → Nat → Int) (w : World) (hr : w.ownsRow lo 127 1 vr R (ptrsB B R R)) (hc : w.ownsRow lo 127 1 vc C (ptrsB (fun i => B (R + i)) C C)) (hk : InMat w vk (mkM R C g)) (hm : InMat w vm (mkM R C f)) (hI : Img R C f) (hW : Wt R C g) :
    Calls Tryz.prog 76 #[vr, vc, vk, vm] w fun e w' => ∃ v, e = .returned v ∧ OwnE w' w.heap.size v B (allE R C g f R) ∧ Below w.heap.size w w' := by
  have hR1 := hI.r1; have hC1 := hI.c1; have hR := hI.r2; have hC := hI.c2
  obtain ⟨ga, oa, ca, rfl, hga, hca⟩ := inMat_img hk (by omega) (by omega)
  obtain ⟨gb, ob, cb, rfl, hgb, hcb⟩ := inMat_img hm (by omega) (by omega)
  obtain ⟨gr, cr, rfl, -, hgr, -, -, -, -⟩ := own_some hr hR1
  obtain ⟨gc, cc, rfl, -, hgc, -, -, -, -⟩ := own_some hc hC1
  have HPR := hide fun (y : Nat) (hy : y < R) => (show w.cell? ⟨gr, y, none⟩ = some (.pointer (some ⟨B y, 0, none⟩)) by
    have := cell_held hr hy
    rw [ptrsB_at hy, if_pos hy] at this
    exact this)
  have HPC := hide fun (x : Nat) (hx : x < C) => (show w.cell? ⟨gc, x, none⟩ = some (.pointer (some ⟨B (R + x), 0, none⟩)) by
    have := cell_held hc hx
    rw [ptrsB_at hx, if_pos hx] at this
    exact this)
  have HA := hide hca; have HM := hide hcb; have HI := hide hI; have HW := hide hW
  have HNIL := hide (show OwnE w w.heap.size (.slice none 0 0) B (allE R C g f 0) from World.ownsRow_nil _ _ _ _)
  have HLEN := hide fun (y x : Nat) (hy : y < R) (hx : x ≤ C) => (show (allE R C g f y ++ rowE R g f y x).length ≤ 25 by
    rw [List.length_append, allE_len, rowE_len]
    have : y * C ≤ 4 * 5 := Nat.mul_le_mul (by omega) (by omega)
    omega)
  have HES := hide fun y => allE_succ R C g f y
  have HRS := hide fun y x => rowE_succ R g f y x
  have HR0 := hide fun y => (show rowE R g f y 0 = [] from rfl)
  have HAT := hide fun y x => (show edgeAt R g f y x = if f y x = 1 then ⟨y, R + x, g y x⟩ else ⟨R + x, y, -(g y x)⟩ from rfl)
  obtain ⟨AE, hAE⟩ : ∃ AE, AE = allE R C g f := ⟨_, rfl⟩
  obtain ⟨RE, hRE⟩ : ∃ RE, RE = rowE R g f := ⟨_, rfl⟩
  obtain ⟨EA, hEA⟩ : ∃ EA, EA = edgeAt R g f := ⟨_, rfl⟩
  rw [← hAE] at HNIL HLEN HES ⊢
  rw [← hRE] at HLEN HES HRS HR0
  rw [← hEA] at HRS HAT
  clear hk hm hI hW hca hcb hr hc hAE hRE hEA
  go_enter Tryz.func76, Tryz.ntmps76
  go_wp2
  go_loopw [9, 17] (fun s i w' => ∃ y : Nat, y ≤ R ∧ i = .int .i64 y ∧ OwnE w' w.heap.size s B (AE y) ∧ Below w.heap.size w w') (fun _ i _ => R - (intOf i).toNat)
  case atStart => exact ⟨0, Nat.zero_le _, rfl, HNIL.out, Below.refl _ _⟩
  case round =>
    obtain ⟨y, hy, rfl, hs, hb⟩ := hrel
    by_cases hlt : y < R
    · have hyI : (y : Int) < R := by omega
      obtain ⟨g', o', c', hx, hg', hcc⟩ := HM.out y hlt
      have hx := below_cell hb hgb hx
      have HCC := hide hcc
      have HO := hide hs; have HB := hide hb
      obtain ⟨av, cv, rfl⟩ := ownA_slice hs
      clear hcc hs hb
      obtain ⟨wo, rfl⟩ : ∃ wo : World, wo = wr := ⟨_, rfl⟩
      go_wp2
      have HST : Hid (OwnE wo w.heap.size (.slice av (AE y).length cv) B (AE y ++ RE y 0)) := hide (by rw [HR0.out, List.append_nil]; exact HO.out)
      go_loopw [9, 24] (fun s i w' => ∃ x : Nat, x ≤ C ∧ i = .int .i64 x ∧ OwnE w' w.heap.size s B (AE y ++ RE y x) ∧ Below w.heap.size w w') (fun _ i _ => C - (intOf i).toNat)
      case atStart => exact ⟨0, Nat.zero_le _, rfl, HST.out, HB.out⟩
      case round =>
        clear HST HO HB hx
        obtain ⟨x, hxx, rfl, hs, hb⟩ := hrel
        by_cases hlx : x < C
        · have hxI : (x : Int) < C := by omega
          have hz := below_cell hb hg' (HCC.out x hlx)
          obtain ⟨g2, o2, c2, hx2, hg2, hc2⟩ := HA.out y hlt
          have hx2 := below_cell hb hga hx2
          have hz2 := below_cell hb hg2 (hc2 x hlx)
          have hpr := below_cell hb hgr (HPR.out y hlt)
          have hpc := below_cell hb hgc (HPC.out x hlx)
          have b1 := HW.out.lo y x hlt hlx
          have b2 := HW.out.hi y x hlt hlx
          have h01 := HI.out.cell y x hlt hlx
          have HRX := hide (HRS.out y x)
          have HEE := hide (HAT.out y x)
          have hln := HLEN.out y x hlt hxx
          have HO := hide hs; have HB := hide hb
          obtain ⟨av2, cv2, rfl⟩ := ownA_slice hs
          obtain ⟨E0, hE0⟩ : ∃ E0, E0 = AE y ++ RE y x := ⟨_, rfl⟩
          have HE0 := hide hE0
          rw [← hE0] at HO hln ⊢
          obtain ⟨s, hs1⟩ : ∃ s, s = f y x := ⟨_, rfl⟩
          obtain ⟨t, ht⟩ : ∃ t, t = g y x := ⟨_, rfl⟩
          obtain ⟨p, hp⟩ : ∃ p, p = B y := ⟨_, rfl⟩
          obtain ⟨q, hq⟩ : ∃ q, q = B (R + x) := ⟨_, rfl⟩
          rw [← hs1] at hz h01 HEE
          rw [← ht] at hz2 b1 b2 HEE
          rw [← hp] at hpr
          rw [← hq] at hpc
          have HP := hide hp; have HQ := hide hq
          have HF := hide (show ∃ w4 : World, w4 = wr from ⟨_, rfl⟩)
          have HC1 := hide hx2; have HC2 := hide hz2; have HC3 := hide hpr; have HC4 := hide hpc
          have HWZ := hide (show w.heap.size ≤ wr.heap.size from hb.size)
          have hg2' : g2 < wr.heap.size := Nat.lt_of_lt_of_le hg2 hb.size
          have hga' : ga < wr.heap.size := Nat.lt_of_lt_of_le hga hb.size
          have hgr' : gr < wr.heap.size := Nat.lt_of_lt_of_le hgr hb.size
          have hgc' : gc < wr.heap.size := Nat.lt_of_lt_of_le hgc hb.size
          have HG1 := hide hga'; have HG2 := hide hg2'; have HG3 := hide hgr'; have HG4 := hide hgc'
          clear hc2 hs hb hs1 ht hp hq hE0 hx2 hz2 hpr hpc hg2' hga' hgr' hgc' HF
          go_wp2
          obtain ⟨fs, hfs⟩ : ∃ fs : List FactP, fs = [isV (.slice (some ⟨gr, 0, none⟩) R cr), isV (.int .i64 y), isV (.pointer (some ⟨gr, y, none⟩)), isV (.pointer (some ⟨p, 0, none⟩)), isV (.slice (some ⟨gc, 0, none⟩) C cc), isV (.int .i64 x), isV (.pointer (some ⟨gc, x, none⟩)), isV (.pointer (some ⟨q, 0, none⟩)), isV (.slice (some ⟨ga, oa, none⟩) R ca), isV (.int .i64 y), isV (.pointer (some ⟨ga, oa + y, none⟩)), isV (.slice (some ⟨g2, o2, none⟩) C c2), isV (.int .i64 x), isV (.pointer (some ⟨g2, o2 + x, none⟩)), isV (.int .i64 t), isV (.agg (stE p q t)), newE wr.heap.size] := ⟨_, rfl⟩
          have hst : ∀ f ∈ fs, StableP f := by
            rw [hfs]; intro f hf
            simp only [List.mem_cons, List.not_mem_nil, or_false] at hf
            rcases hf with rfl | rfl | rfl | rfl | rfl | rfl | rfl | rfl | rfl | rfl | rfl | rfl | rfl | rfl | rfl | rfl | rfl <;> first | exact stable_v _ | exact stable_newE _
          subst hfs
          refine wp_region_tail (S := fun w2 => Below wr.heap.size wr w2) [isV (.slice (some ⟨gr, 0, none⟩) R cr), isV (.int .i64 y), isV (.pointer (some ⟨gr, y, none⟩)), isV (.pointer (some ⟨p, 0, none⟩)), isV (.slice (some ⟨gc, 0, none⟩) C cc), isV (.int .i64 x), isV (.pointer (some ⟨gc, x, none⟩)), isV (.pointer (some ⟨q, 0, none⟩)), isV (.slice (some ⟨ga, oa, none⟩) R ca), isV (.int .i64 y), isV (.pointer (some ⟨ga, oa + y, none⟩)), isV (.slice (some ⟨g2, o2, none⟩) C c2), isV (.int .i64 x), isV (.pointer (some ⟨g2, o2 + x, none⟩)), isV (.int .i64 t), isV (.agg (stE p q t)), newE wr.heap.size] [(0, .slice (some ⟨gr, 0, none⟩) R cr), (1, .slice (some ⟨gc, 0, none⟩) C cc), (2, .slice (some ⟨ga, oa, none⟩) R ca), (10, .int .i64 y), (12, .int .i64 x)] _ _ 17 (by kernel_rfl) rfl rfl (by kernel_rfl) (by kernel_rfl) rfl (by kernel_rfl) ?base (below_drew (Below.refl _ _)) ?ob rfl ?fin
          case base =>
            intro t v ht
            simp only [List.lookup_cons, List.lookup_nil] at ht
            repeat' split at ht
            all_goals first | (cases ht; done) | (obtain rfl := Option.some.inj ht; rename_i hh; obtain rfl := eq_of_beq hh; rfl)
          case ob =>
            exact ⟨obt_move (.slice (some ⟨gr, 0, none⟩) R cr) rfl rfl rfl (srt_b 0 rfl),
              obt_move (.int .i64 y) rfl rfl rfl (srt_b 10 rfl),
              obt_two (.pointer (some ⟨gr, y, none⟩)) rfl rfl (srt_j 0 rfl (by kernel_rfl) rfl) (srt_j 1 rfl (by kernel_rfl) rfl) (fun ρ w2 hS hx hy => by go_simp),
              obt_one (.pointer (some ⟨p, 0, none⟩)) rfl rfl (srt_j 2 rfl (by kernel_rfl) rfl) (fun ρ w2 hS hx => by have hcell := below_cell hS HG3.out HC3.out; go_simp),
              obt_move (.slice (some ⟨gc, 0, none⟩) C cc) rfl rfl rfl (srt_b 1 rfl),
              obt_move (.int .i64 x) rfl rfl rfl (srt_b 12 rfl),
              obt_two (.pointer (some ⟨gc, x, none⟩)) rfl rfl (srt_j 4 rfl (by kernel_rfl) rfl) (srt_j 5 rfl (by kernel_rfl) rfl) (fun ρ w2 hS hx hy => by go_simp),
              obt_one (.pointer (some ⟨q, 0, none⟩)) rfl rfl (srt_j 6 rfl (by kernel_rfl) rfl) (fun ρ w2 hS hx => by have hcell := below_cell hS HG4.out HC4.out; go_simp),
              obt_move (.slice (some ⟨ga, oa, none⟩) R ca) rfl rfl rfl (srt_b 2 rfl),
              obt_move (.int .i64 y) rfl rfl rfl (srt_b 10 rfl),
              obt_two (.pointer (some ⟨ga, oa + y, none⟩)) rfl rfl (srt_j 8 rfl (by kernel_rfl) rfl) (srt_j 9 rfl (by kernel_rfl) rfl) (fun ρ w2 hS hx hy => by go_simp),
              obt_one (.slice (some ⟨g2, o2, none⟩) C c2) rfl rfl (srt_j 10 rfl (by kernel_rfl) rfl) (fun ρ w2 hS hx => by have hcell := below_cell hS HG1.out HC1.out; go_simp),
              obt_move (.int .i64 x) rfl rfl rfl (srt_b 12 rfl),
              obt_two (.pointer (some ⟨g2, o2 + x, none⟩)) rfl rfl (srt_j 11 rfl (by kernel_rfl) rfl) (srt_j 12 rfl (by kernel_rfl) rfl) (fun ρ w2 hS hx hy => by go_simp),
              obt_one (.int .i64 t) rfl rfl (srt_j 13 rfl (by kernel_rfl) rfl) (fun ρ w2 hS hx => by have hcell := below_cell hS HG2.out HC2.out; go_simp),
              obt_run (.agg (stE p q t)) rfl rfl (fun ρ w2 hS hs => by have x1 := hs _ _ (srt_j 3 rfl (by kernel_rfl) rfl); have x2 := hs _ _ (srt_j 7 rfl (by kernel_rfl) rfl); have x3 := hs _ _ (srt_j 14 rfl (by kernel_rfl) rfl); unfold stE; go_simp),
              obt_make hst rfl (fun a w2 hS hs => ⟨_, _, exec_allocE rfl, hS.trans (((Below.refl _ _).alloc (Nat.le_refl _) _).mono hS.size), (Below.refl _ _).alloc (Nat.le_refl _) _, w2.heap.size, rfl, hS.size, heap_alloc_new w2 _⟩),
              trivial⟩
          case fin =>
            intro a' w' h1 h2 h3 hS h4 K hK
            have ha := frame_ov rfl h1 h2 h3 [(29, .slice (some ⟨gr, 0, none⟩) R cr), (30, .int .i64 y), (31, .pointer (some ⟨gr, y, none⟩)), (32, .pointer (some ⟨p, 0, none⟩)), (33, .slice (some ⟨gc, 0, none⟩) C cc), (34, .int .i64 x), (35, .pointer (some ⟨gc, x, none⟩)), (36, .pointer (some ⟨q, 0, none⟩)), (37, .slice (some ⟨ga, oa, none⟩) R ca), (38, .int .i64 y), (39, .pointer (some ⟨ga, oa + y, none⟩)), (40, .slice (some ⟨g2, o2, none⟩) C c2), (41, .int .i64 x), (42, .pointer (some ⟨g2, o2 + x, none⟩)), (43, .int .i64 t), (44, .agg (stE p q t)), (14, a'.tmps.getD 14 undef)] (by kernel_rfl) ⟨h4 0 29 rfl (by decide), h4 1 30 rfl (by decide), h4 2 31 rfl (by decide), h4 3 32 rfl (by decide), h4 4 33 rfl (by decide), h4 5 34 rfl (by decide), h4 6 35 rfl (by decide), h4 7 36 rfl (by decide), h4 8 37 rfl (by decide), h4 9 38 rfl (by decide), h4 10 39 rfl (by decide), h4 11 40 rfl (by decide), h4 12 41 rfl (by decide), h4 13 42 rfl (by decide), h4 14 43 rfl (by decide), h4 15 44 rfl (by decide), rfl, trivial⟩
            dsimp only [ov, List.lookup, Nat.reduceBEq, Nat.reduceAdd] at ha
            have v44 : a'.tmps.getD 44 undef = .agg (stE p q t) := h4 15 44 rfl (by decide)
            obtain ⟨gn, hv14, hgn, hbn⟩ := h4 16 14 rfl (by decide)
            have HV14 := hide hv14
            obtain ⟨w9, hrun, E4, g9, s9⟩ := exec_storeE p q t hbn rfl
            refine run_skip (hrun a'.eval _ (.tmp 14) (.tmp 44) rfl hv14 v44) (hK undef _ ?_)
            show Exit.then _ _ Exit.normal a' _
            have b9 := hS.trans (grown_below g9 (fun k hk => by cases hk; exact hgn) hS.size)
            have F4 := hide E4; have F5 := hide b9; have F6 := hide hgn
            clear hbn hgn E4 g9 s9 b9 hrun v44 hv14
            rw [ha]
            rw [HV14.out]
            clear ha h1 h2 h3 h4 hst hK
            clear HV14 hS HC1 HC2 HC3 HC4 HG1 HG2 HG3 HG4
            have F7 := hide (ownA_below HO.out F5.out)
            have F8 := hide (HB.out.trans (F5.out.mono HB.out.size))
            rcases h01 with rfl | rfl
            · have HED : Hid (cellsE B (E0 ++ [EA y x]) = cellsE B E0 ++ (stE q p (-t)).toList) := hide (by rw [cellsE_edge, HEE.out, if_neg (by decide), HP.out, HQ.out])
              have HBK := hide fun (W : World) => back_any p q t W ⟨b1, b2⟩
              go_wp2_with (first | (with_reducible refine wpList_loadE F4.out 47 rfl rfl _ rfl rfl ?_) | (go_at_call 115; refine (HBK.out w9).mono ?_; rintro e7 w7 ⟨rfl, hb7⟩; have K1 := hide ((hb7.block gn (Array.getElem?_eq_some_iff.1 F4.out).1).trans F4.out); have K2 := hide hb7; clear hb7) | (refine wpList_storeE q p (-t) K1.out rfl rfl (.tmp 14) (.tmp 48) rfl rfl rfl ?_; intro wb hb' gb sb; have K3 := hide hb'; have K4 := hide (F5.out.trans ((K2.out.mono F5.out.size).trans (grown_below gb (fun k hk => by cases hk; exact F6.out) (Nat.le_trans F5.out.size K2.out.size)))); have K5 := hide (ownA_below HO.out K4.out); have K6 := hide (HB.out.trans (K4.out.mono HB.out.size)); have K7 := hide (Nat.le_trans HWZ.out K4.out.size); clear hb' gb sb) | (with_reducible refine wpList_loadE K3.out 50 rfl rfl _ rfl rfl ?_) | (with_reducible refine wpList_buildOneA (stE q p (-t)) _ 51 rfl rfl (.tmp 50) rfl rfl Tryz.underlying92 Tryz.infoStep (by decide) (by decide) rfl ?_) | (at_builtin; refine wpList_pushA K5.out (stE q p (-t)) _ rfl _ _ rfl Tryz.underlying92 Tryz.infoStep rfl (by decide) (by decide) rfl rfl rfl (by simp [stE, Value.oneCell']) (by omega) K7.out ?_; intro g8 cap8 w8 hown8 hb8 hg8 hat8 hlt8))
              have J1 := hide (K6.out.trans hb8); have J2 := hide hown8
              clear hown8 hb8 hg8 hat8 hlt8
              go_roundw
              case rel => exact ⟨x + 1, by omega, by go_num, by rw [HRX.out, ← List.append_assoc, ← HE0.out]; unfold OwnE; rw [List.length_append, List.length_singleton, HED.out]; exact J2.out, J1.out⟩
              case measure => simp [intOf]; omega
            · have HED : Hid (cellsE B (E0 ++ [EA y x]) = cellsE B E0 ++ (stE p q t).toList) := hide (by rw [cellsE_edge, HEE.out, if_pos rfl, HP.out, HQ.out])
              have K7 := hide (Nat.le_trans HWZ.out F5.out.size)
              go_wp2_with (first | (with_reducible refine wpList_loadE F4.out 50 rfl rfl _ rfl rfl ?_) | (with_reducible refine wpList_buildOneA (stE p q t) _ 51 rfl rfl (.tmp 50) rfl rfl Tryz.underlying92 Tryz.infoStep (by decide) (by decide) rfl ?_) | (at_builtin; refine wpList_pushA F7.out (stE p q t) _ rfl _ _ rfl Tryz.underlying92 Tryz.infoStep rfl (by decide) (by decide) rfl rfl rfl (by simp [stE, Value.oneCell']) (by omega) K7.out ?_; intro g8 cap8 w8 hown8 hb8 hg8 hat8 hlt8))
              have J1 := hide (F8.out.trans hb8); have J2 := hide hown8
              clear hown8 hb8 hg8 hat8 hlt8
              go_roundw
              case rel => exact ⟨x + 1, by omega, by go_num, by rw [HRX.out, ← List.append_assoc, ← HE0.out]; unfold OwnE; rw [List.length_append, List.length_singleton, HED.out]; exact J2.out, J1.out⟩
              case measure => simp [intOf]; omega
        · obtain rfl : x = C := by omega
          obtain ⟨av2, cv2, rfl⟩ := ownA_slice hs
          have HO := hide hs; have HB := hide hb
          clear hs hb
          go_wp2
          go_roundw
          case rel => exact ⟨y + 1, by omega, by go_num, by rw [HES.out]; exact HO.out, HB.out⟩
          case measure => simp [intOf]; omega
    · obtain rfl : y = R := by omega
      obtain ⟨av, cv, rfl⟩ := ownA_slice hs
      have HO := hide hs; have HB := hide hb
      clear hs hb
      go_wp2
      go_ret
      exact ⟨_, rfl, HO.out, HB.out⟩
end Go.Proofs.YtcliiefedmiokaaGreat
/-
  WeightOf and PricesOk, of the program and of the model.
-/
namespace Go.Proofs.YtcliiefedmiokaaGreat
open Go.RowKit Go.Shelf

def wtOfB (k m : List (List Int)) : Bool := okB m && wtB k m.length (widthM m)
def wtOf (k m : List (List Int)) : Int := if wtOfB k m then wtS m.length (widthM m) (cellM k) (cellM m) else 0
theorem wtB_nat {k : List (List Int)} {R C : Nat} (h : wtB k R C = true) : sizeB k R C (-100) 100 = true := by
  unfold wtB at h
  rw [Bool.and_eq_true, Int.toNat_natCast, Int.toNat_natCast] at h
  exact h.2
theorem ret_tup {n m : Int} {a b : Bool} (h1 : n = m) (h2 : a = b) : Ending.returned (.tuple #[.int .i64 n, .bool a]) = .returned (.tuple #[.int .i64 m, .bool b]) := by rw [h1, h2]

set_option maxHeartbeats 1000000 in
theorem implWeightOf_any (vk vm : Value) (k m : List (List Int)) (w : World) (hk : InMat w vk k) (hm : InMat w vm m) :
    Calls Tryz.prog 29 #[vk, vm] w fun e w' => e = .returned (.tuple #[.int .i64 (wtOf k m), .bool (wtOfB k m)]) ∧ Below w.heap.size w w' := by
  have HOK := hide (implImageOk_any vm m w hm)
  cases h : okB m with
  | false =>
    rw [h] at HOK
    have HF : Hid (wtOfB k m = false) := hide (by rw [wtOfB, h, Bool.false_and])
    have HV : Hid (wtOf k m = 0) := hide (by rw [wtOf, HF.out]; rfl)
    rw [HF.out, HV.out]
    obtain ⟨a, ca, rfl, -, -⟩ := hk
    obtain ⟨b, cb, rfl, -, -⟩ := hm
    generalize m.length = M at *
    generalize k.length = L at *
    clear h HF HV
    go_enter Tryz.func29, Tryz.ntmps29
    go_wp2_with (go_at_call 37; refine HOK.out.mono ?_; rintro e w1 ⟨rfl, rfl⟩)
    exact bodyPost_ret (results_tmp2 rfl _ _ _) rfl ⟨rfl, Below.refl _ _⟩
  | true =>
    rw [h] at HOK
    obtain ⟨R, C, f, rfl, hI⟩ := ok_img h
    have hR1 := hI.r1; have hC1 := hI.c1; have hR := hI.r2; have hC := hI.c2
    have HWT := hide (implWeightOk_any vk k R C w hk)
    have HB : Hid (wtOfB k (mkM R C f) = wtB k R C) := hide (by rw [wtOfB, h, Bool.true_and, mkM_len, width_mkM hR1])
    cases hw : wtB k R C with
    | false =>
      rw [hw] at HWT
      have HF : Hid (wtOfB k (mkM R C f) = false) := hide (by rw [HB.out, hw])
      have HV : Hid (wtOf k (mkM R C f) = 0) := hide (by rw [wtOf, HF.out]; rfl)
      rw [HF.out, HV.out]
      obtain ⟨ak, ck, rfl, -, -⟩ := hk
      obtain ⟨gb, ob, cb, rfl, hgb, hcb⟩ := inMat_img hm (by omega) (by omega)
      obtain ⟨g0, o0, c0, hx0, -⟩ := hcb 0 (by omega)
      rw [Nat.add_zero] at hx0
      generalize k.length = L at *
      clear h hw HB HF HV hcb hI hm
      go_enter Tryz.func29, Tryz.ntmps29
      go_wp2_with (first | (go_at_call 37; refine HOK.out.mono ?_; rintro e w1 ⟨rfl, rfl⟩) | (go_at_call 30; refine HWT.out.mono ?_; rintro e w1 ⟨rfl, b1⟩; have B1 := hide b1; clear b1))
      exact bodyPost_ret (results_tmp2 rfl _ _ _) rfl ⟨rfl, B1.out⟩
    | true =>
      rw [hw] at HWT
      obtain ⟨hkm, hWt⟩ := sizeB_wt (wtB_nat hw)
      have HF : Hid (wtOfB k (mkM R C f) = true) := hide (by rw [HB.out, hw])
      have HV : Hid (wtOf k (mkM R C f) = wtS R C (cellM k) f) := hide (by
        rw [wtOf, HF.out, if_pos rfl, mkM_len, width_mkM hR1]
        exact wtS_congr (fun _ _ _ _ => rfl) fun y x hy hx => cell_mk R C f hy hx)
      rw [HF.out, HV.out]
      have hk2 := hk
      rw [hkm] at hk2
      have HBW := hide fun w1 (b1 : Below w.heap.size w w1) => blackWeight_any vk vm R C (cellM k) f w1 (inMat_below hk2 b1) (inMat_below hm b1) hI hWt
      obtain ⟨S, hS⟩ : ∃ S, S = wtS R C (cellM k) f := ⟨_, rfl⟩
      rw [← hS] at HBW ⊢
      obtain ⟨ak, ck, rfl, -, -⟩ := hk
      obtain ⟨gb, ob, cb, rfl, hgb, hcb⟩ := inMat_img hm (by omega) (by omega)
      obtain ⟨g0, o0, c0, hx0, -⟩ := hcb 0 (by omega)
      rw [Nat.add_zero] at hx0
      generalize k.length = L at *
      clear h hw HB HF HV hcb hI hm hk2 hkm hWt hS
      go_enter Tryz.func29, Tryz.ntmps29
      go_wp2_with (first | (go_at_call 37; refine HOK.out.mono ?_; rintro e w1 ⟨rfl, rfl⟩) | (go_at_call 30; refine HWT.out.mono ?_; rintro e w1 ⟨rfl, b1⟩; have B1 := hide b1; clear b1) | (go_at_call 71; refine (HBW.out _ B1.out).mono ?_; rintro e w2 ⟨rfl, rfl⟩))
      exact bodyPost_ret (results_tmp2 rfl _ _ _) rfl ⟨rfl, B1.out⟩

end Go.Proofs.YtcliiefedmiokaaGreat
/-
  FindPrices, pure: what it answers.
-/
namespace Go.Proofs.YtcliiefedmiokaaGreat
open Go.RowKit

/-- The least lengths, where no cycle is negative; nothing where the arguments are refused. -/
def fpP (k m : List (List Int)) : Option (Nat → Int) := if wtOfB k m then bell (allE m.length (widthM m) (cellM k) (cellM m) m.length) (m.length + widthM m) (fun _ => 0) else none
def fpA (k m : List (List Int)) : List Int := match fpP k m with | none => [] | some D => rowF m.length fun y => -(D y)
def fpC (k m : List (List Int)) : List Int := match fpP k m with | none => [] | some D => rowF (widthM m) fun x => D (m.length + x)
def fpB (k m : List (List Int)) : Bool := (fpP k m).isSome
theorem fpP_mk {k : List (List Int)} {R C : Nat} {f : Nat → Nat → Int} (h : wtOfB k (mkM R C f) = true) (hR : 0 < R) : fpP k (mkM R C f) = bell (allE R C (cellM k) f R) (R + C) (fun _ => 0) := by
  rw [fpP, h, if_pos rfl, mkM_len, width_mkM hR]
  congr 1
  unfold allE
  rw [List.flatMap_def, List.flatMap_def]
  congr 1
  refine List.map_congr_left fun j hj => ?_
  unfold rowE
  refine List.map_congr_left fun x hx => ?_
  rw [List.mem_range] at hj hx
  unfold edgeAt
  rw [cell_mk R C f hj hx]
/-- Where the rounds stand: so many are over. -/
theorem bell_step {E : List Edge} {k : Nat} {d : Nat → Int} (h : (rxs E (d, false)).2 = true) : bell E (k + 1) d = bell E k (rxs E (d, false)).1 := by
  rw [bell, if_pos h]
theorem bell_stop {E : List Edge} {k : Nat} {d : Nat → Int} (h : (rxs E (d, false)).2 = false) : bell E (k + 1) d = some (rxs E (d, false)).1 := by
  rw [bell, if_neg (by rw [h]; decide)]
/-- The lengths behind so many rounds. -/
def roundsD (E : List Edge) : Nat → (Nat → Int)
  | 0 => fun _ => 0
  | k + 1 => (rxs E (roundsD E k, false)).1
theorem roundsD_le (E : List Edge) : ∀ k v, roundsD E k v ≤ 0
  | 0, _ => Int.le_refl _
  | k + 1, v => Int.le_trans (rxs_le E (roundsD E k, false) v) (roundsD_le E k v)
theorem roundsD_low {E : List Edge} {n : Nat} (hin : ∀ e ∈ E, e.s < n ∧ e.t < n ∧ -100 ≤ e.l ∧ e.l ≤ 100) (hlen : E.length ≤ 25) : ∀ (k v : Nat), v < n → -((2500 * k : Nat) : Int) ≤ roundsD E k v
  | 0, _, _ => by simp [roundsD]
  | k + 1, v, hv => by
    have h1 := rxs_low E (roundsD E k, false) ((2500 * k : Nat) : Int) (fun u hu => roundsD_low hin hlen k u hu) (fun e he => ⟨(hin e he).1, (hin e he).2.2.1⟩) v hv
    show _ ≤ (rxs E (roundsD E k, false)).1 v
    omega
/-- The call answers two lists of its own, apart, and a bool. -/
def FpRes (a b : List Int) (ok : Bool) (w : World) (e : Ending) (w' : World) : Prop :=
  ∃ u0 u1, e = .returned (.tuple #[u0, u1, .bool ok]) ∧ w'.ownsRow w.heap.size 3 1 u0 a.length (ints a) ∧ w'.ownsRow w.heap.size 3 1 u1 b.length (ints b) ∧ (u0.ownBlock = none ∨ u0.ownBlock ≠ u1.ownBlock) ∧ Below w.heap.size w w'
theorem fpRes_nil {w w' : World} (h : Below w.heap.size w w') : FpRes [] [] false w (.returned (.tuple #[.slice none 0 0, .slice none 0 0, .bool false])) w' := ⟨_, _, rfl, World.ownsRow_nil _ _ _ _, World.ownsRow_nil _ _ _ _, .inl rfl, h⟩
end Go.Proofs.YtcliiefedmiokaaGreat
/-
  Where the rounds never end there is a simple cycle of negative length; flipping its cells gives a heavier image with the same sums. Pure.
-/
namespace Go.Proofs.YtcliiefedmiokaaGreat
open Go.RowKit

/-- A walk of k steps over the places u. -/
def Walk (E : List Edge) (k : Nat) (u : Nat → Nat) (c : Nat → Edge) : Prop := ∀ i, i < k → c i ∈ E ∧ (c i).s = u i ∧ (c i).t = u (i + 1)
def lenW (k : Nat) (c : Nat → Edge) : Int := Mx.S k fun i => (c i).l
theorem S_split (f : Nat → Int) (a : Nat) : ∀ b, Mx.S (a + b) f = Mx.S a f + Mx.S b fun t => f (a + t)
  | 0 => by simp [Mx.S]
  | b + 1 => by
    show Mx.S (a + b) f + f (a + b) = _
    rw [S_split f a b]
    show _ = Mx.S a f + ((Mx.S b fun t => f (a + t)) + f (a + b))
    omega
/-- Each length comes from a walk. -/
def FromW (E : List Edge) (d : Nat → Int) : Prop := ∀ v, ∃ k u c, Walk E k u c ∧ u k = v ∧ lenW k c = d v ∧ (k = 0 ∨ True)
theorem fromW_rx {E : List Edge} {d : Nat → Int} {b : Bool} {e : Edge} (h : FromW E d) (he : e ∈ E) : FromW E (rx (d, b) e).1 := by
  intro v
  by_cases hlt : d e.s + e.l < d e.t
  · have e1 : (rx (d, b) e).1 = updD d e.t (d e.s + e.l) := by unfold rx; rw [if_pos hlt]
    rw [e1]
    by_cases hv : v = e.t
    · subst hv
      obtain ⟨k, u, c, h1, h2, h3, -⟩ := h e.s
      refine ⟨k + 1, fun i => if i ≤ k then u i else e.t, fun i => if i < k then c i else e, fun i hi => ?_, if_neg (by omega), ?_, .inr trivial⟩
      · by_cases hk : i < k
        · simp only [if_pos hk, if_pos (show i ≤ k by omega), if_pos (show i + 1 ≤ k by omega)]
          exact h1 i hk
        · obtain rfl : i = k := by omega
          simp only [if_neg hk, if_pos (Nat.le_refl i), if_neg (show ¬ i + 1 ≤ i by omega)]
          exact ⟨he, h2.symm, trivial⟩
      · show Mx.S k (fun i => (if i < k then c i else e).l) + (if k < k then c k else e).l = updD d e.t (d e.s + e.l) e.t
        rw [Mx.S_congr (g := fun i => (c i).l) k fun i hi => by rw [if_pos hi], if_neg (Nat.lt_irrefl k)]
        unfold lenW at h3
        rw [h3]; simp [updD]
    · obtain ⟨k, u, c, h1, h2, h3, h4⟩ := h v
      exact ⟨k, u, c, h1, h2, by rw [h3]; simp [updD, hv], h4⟩
  · have e1 : (rx (d, b) e).1 = d := by unfold rx; rw [if_neg hlt]
    rw [e1]; exact h v
theorem fromW_rxs {E : List Edge} : ∀ (F : List Edge), (∀ e ∈ F, e ∈ E) → ∀ (p : (Nat → Int) × Bool), FromW E p.1 → FromW E (rxs F p).1
  | [], _, p, h => h
  | e :: F, hF, p, h => fromW_rxs F (fun x hx => hF x (List.mem_cons_of_mem _ hx)) (rx p e) (by obtain ⟨d, b⟩ := p; exact fromW_rx h (hF e List.mem_cons_self))
theorem fromW_rounds (E : List Edge) : ∀ k, FromW E (roundsD E k)
  | 0 => fun v => ⟨0, fun _ => v, fun _ => ⟨0, 0, 0⟩, fun _ hi => absurd hi (Nat.not_lt_zero _), rfl, rfl, .inl rfl⟩
  | k + 1 => fromW_rxs E (fun _ h => h) (roundsD E k, false) (fromW_rounds E k)
/-- So many different numbers below n: not more than n. -/
theorem pigeon : ∀ (n k : Nat) (u : Nat → Nat), (∀ i, i ≤ k → u i < n) → (∀ i j, i ≤ k → j ≤ k → u i = u j → i = j) → k < n
  | 0, k, u, h, _ => absurd (h 0 (Nat.zero_le _)) (Nat.not_lt_zero _)
  | n + 1, k, u, h, hj => by
    by_cases hex : ∃ i, i ≤ k ∧ u i = n
    · obtain ⟨i0, hi0, hu⟩ := hex
      cases k with
      | zero => omega
      | succ k =>
        have := pigeon n k (fun i => if i < i0 then u i else u (i + 1)) (fun i hi => by
          have hlt : ∀ j, j ≤ k + 1 → j ≠ i0 → u j < n := fun j hj1 hne => by
            have := h j hj1
            have : u j ≠ n := fun e => hne (hj j i0 hj1 hi0 (by rw [e, hu]))
            omega
          by_cases e : i < i0
          · simp only [if_pos e]; exact hlt i (by omega) (by omega)
          · simp only [if_neg e]; exact hlt (i + 1) (by omega) (by omega)) (fun i j hi hj' he => by
          by_cases e1 : i < i0
          · by_cases e2 : j < i0
            · simp only [if_pos e1, if_pos e2] at he; exact hj i j (by omega) (by omega) he
            · simp only [if_pos e1, if_neg e2] at he; have := hj i (j + 1) (by omega) (by omega) he; omega
          · by_cases e2 : j < i0
            · simp only [if_neg e1, if_pos e2] at he; have := hj (i + 1) j (by omega) (by omega) he; omega
            · simp only [if_neg e1, if_neg e2] at he; have := hj (i + 1) (j + 1) (by omega) (by omega) he; omega)
        omega
    · have := pigeon n k u (fun i hi => by
        have h1 := h i hi
        have h2 : u i ≠ n := fun e => hex ⟨i, hi, e⟩
        omega) hj
      omega
/-- The nearest two that are equal. -/
theorem near_pair (u : Nat → Nat) (k : Nat) : ∀ (m i j : Nat), j - i ≤ m → i < j → j ≤ k → u i = u j → ∃ i j, i < j ∧ j ≤ k ∧ u i = u j ∧ ∀ a b, i ≤ a → a < j → i ≤ b → b < j → u a = u b → a = b := by
  intro m
  induction m with
  | zero => intro i j h1 h2; omega
  | succ m ih =>
    intro i j h1 h2 h3 h4
    by_cases hex : ∃ a b, i ≤ a ∧ a < b ∧ b < j ∧ u a = u b
    · obtain ⟨a, b, g1, g2, g3, g4⟩ := hex
      exact ih a b (by omega) g2 (by omega) g4
    · refine ⟨i, j, h2, h3, h4, fun a b g1 g2 g3 g4 g5 => ?_⟩
      rcases Nat.lt_trichotomy a b with h | h | h
      · exact absurd ⟨a, b, g1, h, g4, g5⟩ hex
      · exact h
      · exact absurd ⟨b, a, g3, h, g2, g5.symm⟩ hex
/-- No simple cycle is negative. -/
def NoNeg (E : List Edge) : Prop := ∀ k u c, Walk E k u c → u k = u 0 → (∀ a b, a < k → b < k → u a = u b → a = b) → 0 ≤ lenW k c
theorem walk_low {E : List Edge} {n : Nat} (hin : ∀ e ∈ E, e.s < n ∧ e.t < n ∧ -100 ≤ e.l) (hno : NoNeg E) : ∀ (m k : Nat) (u : Nat → Nat) (c : Nat → Edge), k ≤ m → Walk E k u c → u 0 < n → -(100 * (n : Int)) ≤ lenW k c := by
  intro m
  induction m with
  | zero =>
    intro k u c hk _ _
    obtain rfl : k = 0 := by omega
    show -(100 * (n : Int)) ≤ 0
    omega
  | succ m ih =>
    intro k u c hk hw h0
    have hun : ∀ i, i ≤ k → u i < n := fun i hi => by
      cases i with
      | zero => exact h0
      | succ i =>
        obtain ⟨h1, -, h3⟩ := hw i (by omega)
        rw [← h3]; exact (hin _ h1).2.1
    by_cases hex : ∃ i j, i < j ∧ j ≤ k ∧ u i = u j
    · obtain ⟨i, j, g1, g2, g3⟩ := hex
      obtain ⟨i, j, g1, g2, g3, g4⟩ := near_pair u k (j - i) i j (Nat.le_refl _) g1 g2 g3
      obtain ⟨l, rfl⟩ : ∃ l, j = i + l := ⟨j - i, by omega⟩
      obtain ⟨r, rfl⟩ : ∃ r, k = i + l + r := ⟨k - (i + l), by omega⟩
      have hz : 0 ≤ lenW l fun t => c (i + t) := hno l (fun t => u (i + t)) (fun t => c (i + t)) (fun t ht => hw (i + t) (by omega)) (by simpa using g3.symm) (fun a b ha hb he => by have := g4 (i + a) (i + b) (by omega) (by omega) (by omega) (by omega) he; omega)
      have hrest := ih (i + r) (fun t => if t ≤ i then u t else u (t + l)) (fun t => if t < i then c t else c (t + l)) (by omega) (fun t ht => by
        by_cases e : t < i
        · simp only [if_pos e, if_pos (show t ≤ i by omega), if_pos (show t + 1 ≤ i by omega)]
          exact hw t (by omega)
        · simp only [if_neg e, if_neg (show ¬ t + 1 ≤ i by omega)]
          obtain ⟨h1, h2, h3⟩ := hw (t + l) (by omega)
          refine ⟨h1, ?_, by rw [h3]; congr 1; omega⟩
          by_cases e2 : t = i
          · subst e2; rw [if_pos (Nat.le_refl t), h2, g3]
          · rw [if_neg (by omega)]; exact h2) (by simpa using h0)
      have hsum : lenW (i + l + r) c = lenW (i + r) (fun t => if t < i then c t else c (t + l)) + lenW l fun t => c (i + t) := by
        unfold lenW
        rw [S_split _ (i + l) r, S_split _ i l, S_split _ i r]
        have e1 : Mx.S i (fun t => (if t < i then c t else c (t + l)).l) = Mx.S i fun t => (c t).l := Mx.S_congr i fun t ht => by rw [if_pos ht]
        have e2 : (Mx.S r fun t => (if i + t < i then c (i + t) else c (i + t + l)).l) = Mx.S r fun t => (c (i + l + t)).l := Mx.S_congr r fun t _ => by
          rw [if_neg (by omega), show i + t + l = i + l + t by omega]
        rw [e1, e2]
        show _ + (Mx.S l fun t => (c (i + t)).l) + _ = _
        have e3 : (Mx.S l fun t => ((fun t => c (i + t)) t).l) = Mx.S l fun t => (c (i + t)).l := rfl
        rw [e3]
        omega
      omega
    · have hinj : ∀ i j, i ≤ k → j ≤ k → u i = u j → i = j := fun i j hi hj he => by
        rcases Nat.lt_trichotomy i j with h | h | h
        · exact absurd ⟨i, j, h, hj, he⟩ hex
        · exact h
        · exact absurd ⟨j, i, h, hi, he.symm⟩ hex
      have hkn := pigeon n k u hun hinj
      have : ∀ q, q ≤ k → -(100 * (q : Int)) ≤ Mx.S q fun i => (c i).l := by
        intro q
        induction q with
        | zero => intro _; show -(100 * ((0 : Nat) : Int)) ≤ 0; omega
        | succ q ihq =>
          intro hq
          have h1 := ihq (by omega)
          have h2 := (hin _ (hw q (by omega)).1).2.2
          show _ ≤ (Mx.S q fun i => (c i).l) + (c q).l
          omega
      have := this k (Nat.le_refl _)
      unfold lenW
      omega
/-- A round that has found something makes a length less. -/
theorem rxs_less : ∀ (F : List Edge) (p : (Nat → Int) × Bool) (n : Nat), (∀ e ∈ F, e.t < n) → p.2 = false → (rxs F p).2 = true → ∃ v, v < n ∧ (rxs F p).1 v < p.1 v
  | [], p, n, _, h1, h2 => by
    have : p.2 = true := h2
    rw [h1] at this; cases this
  | e :: F, p, n, hF, h1, h2 => by
    obtain ⟨d, b⟩ := p
    simp only at h1
    subst h1
    by_cases hlt : d e.s + e.l < d e.t
    · have e1 : rx (d, false) e = (updD d e.t (d e.s + e.l), true) := by unfold rx; rw [if_pos hlt]
      refine ⟨e.t, hF e List.mem_cons_self, ?_⟩
      show (rxs F (rx (d, false) e)).1 e.t < d e.t
      rw [e1]
      have := rxs_le F (updD d e.t (d e.s + e.l), true) e.t
      simp only [updD, if_true] at this
      omega
    · have e1 : rx (d, false) e = (d, false) := by unfold rx; rw [if_neg hlt]
      have h2' : (rxs F (rx (d, false) e)).2 = true := h2
      rw [e1] at h2'
      obtain ⟨v, hv, hl⟩ := rxs_less F (d, false) n (fun x hx => hF x (List.mem_cons_of_mem _ hx)) rfl h2'
      exact ⟨v, hv, by show (rxs F (rx (d, false) e)).1 v < d v; rw [e1]; exact hl⟩
theorem S_less {n : Nat} {f g : Nat → Int} (h : ∀ i, i < n → f i ≤ g i) (hex : ∃ i, i < n ∧ f i < g i) : Mx.S n f < Mx.S n g := by
  induction n with
  | zero => obtain ⟨i, hi, -⟩ := hex; omega
  | succ n ih =>
    obtain ⟨i, hi, hlt⟩ := hex
    have h1 := h n (by omega)
    show Mx.S n f + f n < Mx.S n g + g n
    by_cases e : i = n
    · subst e
      have := Mx.S_le i fun j hj => h j (by omega)
      omega
    · have := ih (fun j hj => h j (by omega)) ⟨i, by omega, hlt⟩
      omega
theorem bell_none {E : List Edge} : ∀ (N k : Nat), bell E N (roundsD E k) = none → ∀ j, j < N → (rxs E (roundsD E (k + j), false)).2 = true
  | 0, _, _, j, hj => absurd hj (Nat.not_lt_zero _)
  | N + 1, k, h, j, hj => by
    have h1 : (rxs E (roundsD E k, false)).2 = true := by
      cases e : (rxs E (roundsD E k, false)).2 with
      | true => rfl
      | false => rw [bell_stop e] at h; cases h
    cases j with
    | zero => exact h1
    | succ j =>
      rw [bell_step h1] at h
      have := bell_none N (k + 1) h j (by omega)
      rwa [show k + 1 + j = k + (j + 1) by omega] at this
/-- Where no simple cycle is negative, the rounds come to an end. -/
theorem bell_noNeg {E : List Edge} {n : Nat} (hn : 0 < n) (hin : ∀ e ∈ E, e.s < n ∧ e.t < n ∧ -100 ≤ e.l ∧ e.l ≤ 100) (hne : ∀ e ∈ E, e.s ≠ e.t) (hno : NoNeg E) : ∃ D, bell E n (fun _ => 0) = some D := by
  have hin3 : ∀ e ∈ E, e.s < n ∧ e.t < n ∧ -100 ≤ e.l := fun e he => ⟨(hin e he).1, (hin e he).2.1, (hin e he).2.2.1⟩
  have hlow : ∀ N v, v < n → -(100 * (n : Int)) ≤ roundsD E N v := fun N v hv => by
    obtain ⟨k, u, c, h1, h2, h3, -⟩ := fromW_rounds E N v
    rw [← h3]
    refine walk_low hin3 hno k k u c (Nat.le_refl _) h1 ?_
    cases k with
    | zero => rw [h2]; exact hv
    | succ k => obtain ⟨g1, g2, -⟩ := h1 0 (by omega); rw [← g2]; exact (hin _ g1).1
  have hex : ∃ N D, bell E N (fun _ => 0) = some D := by
    refine Classical.byContradiction fun hno2 => ?_
    have hall : ∀ N, bell E N (roundsD E 0) = none := fun N => by
      cases e : bell E N (roundsD E 0) with
      | none => rfl
      | some D => exact absurd ⟨N, D, e⟩ hno2
    have hdec : ∀ N, Mx.S n (roundsD E N) ≤ -(N : Int) := by
      intro N
      induction N with
      | zero =>
        have : Mx.S n (roundsD E 0) = 0 := Mx.S_zero n
        rw [this]; simp
      | succ N ih =>
        have h1 := bell_none (N + 1) 0 (hall _) N (by omega)
        rw [Nat.zero_add] at h1
        have h2 := S_less (n := n) (f := roundsD E (N + 1)) (g := roundsD E N) (fun i _ => rxs_le E (roundsD E N, false) i) (rxs_less E (roundsD E N, false) n (fun e he => (hin e he).2.1) rfl h1)
        omega
    have h1 := hdec (100 * n * n + 1)
    have h2 : -(100 * (n : Int)) * n ≤ Mx.S n (roundsD E (100 * n * n + 1)) := by
      have : ∀ q, q ≤ n → -(100 * (n : Int)) * q ≤ Mx.S q (roundsD E (100 * n * n + 1)) := by
        intro q
        induction q with
        | zero => intro _; simp [Mx.S]
        | succ q ihq =>
          intro hq
          have g1 := ihq (by omega)
          have g2 := hlow (100 * n * n + 1) q (by omega)
          show _ ≤ Mx.S q _ + roundsD E (100 * n * n + 1) q
          have e : -(100 * (n : Int)) * ((q + 1 : Nat) : Int) = -(100 * (n : Int)) * q + -(100 * (n : Int)) := by
            rw [show ((q + 1 : Nat) : Int) = (q : Int) + 1 by omega, Int.mul_add, Int.mul_one]
          omega
      exact this n (Nat.le_refl _)
    have e : ((100 * n * n + 1 : Nat) : Int) = 100 * (n : Int) * n + 1 := by push_cast; rfl
    have e2 : -(100 * (n : Int)) * n = -(100 * (n : Int) * n) := Int.neg_mul _ _
    omega
  obtain ⟨N, D, hD⟩ := hex
  obtain ⟨m, r, ht⟩ := bell_tree hne _ _ _ _ (runD_start E) D hD
  have ht' : TreeD n E D r := ⟨ht.zero, ht.fit, ht.tree⟩
  obtain ⟨v, hv, h0⟩ := tree_root ht' (fun e he => (hin e he).1) (r 0) 0 (Nat.le_refl _) hn
  have hc : cnt (open' D fun _ => 0) n < n := cnt_lt_all n ⟨v, hv, by unfold open'; rw [h0]; rfl⟩
  obtain ⟨D', -, g⟩ := bell_end ht' (fun e he => ⟨(hin e he).1, (hin e he).2.1⟩) hne n (fun _ => 0) (fun _ => Int.le_refl _) ht.zero hc
  exact ⟨D', g n (Nat.le_refl _)⟩
end Go.Proofs.YtcliiefedmiokaaGreat
/-
  slices.Collect over slices.Values: a copy of the list, in memory of the call's own.
-/
namespace Go.Proofs.YtcliiefedmiokaaGreat
open Go.RowKit Go.Shelf
attribute [local go_sem] Oper.semAt_some

set_option maxRecDepth 100000 in
set_option maxHeartbeats 2000000 in
/-- The iterator of slices.Values: the elements in their order, for every body that keeps what lay in w. -/
theorem valuesEach_in (F : Fence) (n : Nat) (hF : F.fn 153) (hro : F.round = none) (hn : 1 ≤ n) (l Bs : Nat) (v : Value) (zs : List Int) (w W : World) (hin : InRow w v zs) (hW : Below w.heap.size w W) (J Jx : List Int → World → Prop)
    (hY : ∀ pre x W, J pre W → pre.length < zs.length → YieldAt F (n - 1) Tryz.prog l #[.int .i64 x] W fun e W' =>
      (e = .returned (.bool true) ∧ J (pre ++ [x]) W' ∧ Below w.heap.size W W') ∨ (e = .returned (.bool false) ∧ Jx (pre ++ [x]) W'))
    (hBs : W.cell? ⟨Bs, 0, none⟩ = some v) (h0 : J [] W) :
    CallsIn F n Tryz.prog 153 #[.func (.yield l) #[] #[], .pointer (some ⟨Bs, 0, none⟩)] W fun e W' => (∃ u, e = .returned u) ∧ ((∃ ys, ys = zs ∧ J ys W') ∨ ∃ pre, pre <+: zs ∧ Jx pre W') := by
  obtain ⟨a, c, rfl, hm, hp⟩ := hin
  unfold maxLen at hm
  have HP := hide fun h : zs.length ≠ 0 => hp.resolve_left h
  have HY := hide hY
  obtain ⟨L, hL⟩ : ∃ L, L = zs.length := ⟨_, rfl⟩
  have HL := hide hL
  rw [← hL] at hm hBs
  clear hp hL hY
  refine callsIn_of_wp Tryz.func153 rfl hF ?_ hro
  simp only [Tryz.ntmps153, List.size_toArray, List.length_cons, List.length_nil, Nat.reduceAdd, Nat.reduceSub, Array.replicate_succ, Array.replicate_zero, List.push_toArray, List.append_toArray, List.nil_append, List.cons_append]
  gi_wp2
  gi_loopw [7] (fun i wr => ∃ k : Nat, k ≤ L ∧ i = .int .i64 k ∧ J (zs.take k) wr ∧ Below w.heap.size w wr) (fun i _ => L - (intOf i).toNat)
  case atStart => exact ⟨0, Nat.zero_le _, rfl, h0, hW⟩
  case round =>
    obtain ⟨k, hk, rfl, hJ, hB⟩ := hrel
    have HB := hide hB
    clear hB
    by_cases hlt : k < L
    · obtain ⟨g, o, rfl, hg, hc⟩ := HP.out (by have := HL.out; omega)
      have hk' : k < zs.length := by rw [← HL.out]; exact hlt
      have hx := below_cell HB.out hg (hc k hk')
      have HT := hide (show zs.take (k + 1) = zs.take k ++ [zs[k]] from List.take_succ_eq_append_getElem hk')
      obtain ⟨x, hxx⟩ : ∃ x, x = zs[k] := ⟨_, rfl⟩
      rw [← hxx] at hx HT
      clear hxx hc
      obtain ⟨fn, tmps, assign, body, hy, hR⟩ := HY.out _ x wr hJ (by rw [List.length_take]; omega)
      gi_wp2
      refine hR.mono ?_
      rintro e W3 (⟨rfl, hJ3, hk3⟩ | ⟨rfl, hJx3⟩)
      · have HB3 := hide (HB.out.trans hk3)
        have HJ3 := hide (show J (zs.take (k + 1)) W3 by rw [HT.out]; exact hJ3)
        clear hJ3 hk3
        gi_wp2
        go_roundw
        case rel => exact ⟨k + 1, by omega, by go_num, HJ3.out, HB3.out⟩
        case measure => simp [intOf]; omega
      · have HJ3 := hide (show Jx (zs.take (k + 1)) W3 by rw [HT.out]; exact hJx3)
        clear hJx3
        gi_wp2
        refine bodyPost_ret (results_none rfl _ _ _) rfl ?_
        exact ⟨⟨_, rfl⟩, .inr ⟨_, List.take_prefix _ _, HJ3.out⟩⟩
    · have HE : Hid (zs.take k = zs) := hide (List.take_of_length_le (by have := HL.out; omega))
      rw [HE.out] at hJ
      gi_wp2
      go_end0
      exact ⟨⟨_, rfl⟩, .inl ⟨_, rfl, hJ⟩⟩

set_option maxRecDepth 100000 in
set_option maxHeartbeats 2000000 in
theorem appendSeq_in (F : Fence) (n : Nat) (hA : F.fn 155) (hV : F.fn 153) (hro : F.round = none) (hn : 3 ≤ n) (Bs : Nat) (v : Value) (zs : List Int) (w : World) (hin : InRow w v zs) (hlen : zs.length ≤ 2000000) (hB : Bs < w.heap.size) (hc : w.cell? ⟨Bs, 0, none⟩ = some v) :
    CallsIn F n Tryz.prog 155 #[.slice none 0 0, .func (.func 153) #[] #[.pointer (some ⟨Bs, 0, none⟩)]] w (IntsRes zs w) := by
  have h1 : 1 ≤ n := by omega
  have HI := hide hin
  obtain ⟨i0, hi, hz0, hz1, hz2⟩ := info_parts Tryz.infoInt
  clear hin
  refine callsIn_of_wp_marks Tryz.func155 rfl hA ?_ hro
  simp only [Tryz.ntmps155, List.size_toArray, List.length_cons, List.length_nil, Nat.reduceAdd, Nat.reduceSub, Array.replicate_succ, Array.replicate_zero, List.push_toArray, List.append_toArray, List.nil_append, List.cons_append]
  gi_wp2
  have bO := Boxed.new w 30 (.slice none 0 0)
  have hB0 : Below w.heap.size w (w.alloc (.cells #[.slice none 0 0] 30)) := (Below.refl _ w).alloc (Nat.le_refl _) _
  have hI0 := inRow_below HI.out hB0
  have hc0 := below_cell hB0 hB hc
  refine wpIn_rangeFunc_ownG hro h1 (gf := 153) (lb := #[.pointer (some ⟨Bs, 0, none⟩)]) rfl hV (enters_of Tryz.func153 (by kernel_rfl) rfl)
    (encs := fun x : Int => #[Value.int .i64 x]) (Kp := Below w.heap.size) (S := fun ys => ys = zs) (Sp := fun pre => pre <+: zs) (N := zs.length) (w0 := w.alloc (.cells #[.slice none 0 0] 30))
    (fun l J Jx W hW _ _ hY h0 => valuesEach_in F (n - 1) hV hro (by omega) l Bs v zs w W HI.out (hB0.trans (hW.mono hB0.size)) J Jx hY (below_cell hW (Nat.lt_of_lt_of_le hB hB0.size) hc0) h0) belowK_t (belowK_b (by simp)) (Below.refl _ _) (fun _ => rfl)
    (fun pre W => (∃ u, Boxed W w.heap.size 30 u ∧ W.ownsRow w.heap.size 3 1 u pre.length (ints pre) ∧ True) ∧ Below w.heap.size w W)
    (fun _ _ _ => False)
    (OwnFrom.and (Own.from (holdsRow_own w.heap.size w.heap.size 30 3 1 (fun pre : List Int => pre.length) (fun pre => ints pre) (fun _ _ => True)) _) (ownFrom_below (Nat.le_refl _) (by simp)))
    (fun _ _ _ _ _ hs _ _ => hs)
    ⟨⟨_, bO, World.ownsRow_nil _ _ _ _, trivial⟩, hB0⟩
    (fun x => { tmps := #[.slice none 0 0, .func (.func 153) #[] #[.pointer (some ⟨Bs, 0, none⟩)], .pointer (some ⟨w.heap.size, 0, none⟩), undef, .slice none 0 0, .int .i64 x, .func (.func 153) #[] #[.pointer (some ⟨Bs, 0, none⟩)], .int .i64 x, undef, undef, undef, undef, undef], defers := [] }) ?assign ?body ?done ?stop
  case assign =>
    intro l x W K hK
    gi_wp2
    exact hK
  case body =>
    rintro l pre x W ⟨⟨u, hv, hrow, -⟩, hBW⟩ hlt
    have hcu := hv.cell
    gi_wp2_with (gi_at_builtin; refine wpListIn_append_own _ rfl _ _ 30 rfl w.heap.size 3 i0 (.int .i64 0) 1 8 Tryz.underlying30 hi hz0 hz1 hz2 rfl (by decide) _ _ _ rfl (hrow.alloc _) ⟨W.heap.size, 0, none⟩ 1 1 [.int .i64 x] rfl rfl (cell_one_new _ _ _) (by simp [Value.oneCell']) (by unfold maxLen; omega) (by omega) (by have := hBW.size; simp; omega) ?_; intro v' w1 hown' hgrow _; obtain ⟨g', cap', rfl⟩ := ownsRow_succ hown'; obtain ⟨hv1, hv2, hr2, hk2, hb2⟩ := hv.appended (by decide) hrow hBW.size (Nat.le_refl _) hown' hgrow; have hc1 := hv1.cell; have hf1 := hv1.frozen)
    exact ⟨hk2.from _, hb2, ⟨_, hv2, by simpa [ints] using hr2, trivial⟩, hBW.trans hb2⟩
  case done =>
    rintro D ys W hD rfl ⟨⟨u, hv, hrow, -⟩, hBW⟩ hK
    have hcu := hv.cell
    gi_wp2
    refine ⟨by simp, .inl ⟨_, _, rfl, run_takeDeferred hK, ?_⟩⟩
    exact ⟨_, results_tmp rfl _ _ _, _, rfl, ownsRow_putObj hrow _ hK rfl, hBW.trans (belowK_b (w := w) (Nat.le_refl _) W D _ _ (by simp at hD; omega) hK rfl rfl)⟩
  case stop =>
    rintro D c pre W _ _ h _
    exact h.elim

set_option maxHeartbeats 1000000 in
theorem collect_in (F : Fence) (n : Nat) (hC : F.fn 151) (hA : F.fn 155) (hV : F.fn 153) (hro : F.round = none) (hn : 4 ≤ n) (Bs : Nat) (v : Value) (zs : List Int) (w : World) (hin : InRow w v zs) (hlen : zs.length ≤ 2000000) (hB : Bs < w.heap.size) (hc : w.cell? ⟨Bs, 0, none⟩ = some v) :
    CallsIn F n Tryz.prog 151 #[.func (.func 153) #[] #[.pointer (some ⟨Bs, 0, none⟩)]] w (IntsRes zs w) := by
  have HX := hide (appendSeq_in F (n - 1) hA hV hro (by omega) Bs v zs w hin hlen hB hc)
  have h1 : 1 ≤ n := by omega
  clear hin hc
  refine callsIn_of_wp Tryz.func151 rfl hC ?_ hro
  simp only [Tryz.ntmps151, List.size_toArray, List.length_cons, List.length_nil, Nat.reduceAdd, Nat.reduceSub, Array.replicate_succ, Array.replicate_zero, List.push_toArray, List.append_toArray, List.nil_append, List.cons_append]
  gi_wp2_with (gi_at_call 155; refine HX.out.mono ?_; rintro e w' ⟨u, rfl, ho, hb⟩)
  go_ret
  exact ⟨_, rfl, ho, hb⟩
theorem collectVals_any (Bs : Nat) (v : Value) (zs : List Int) (w : World) (hin : InRow w v zs) (hlen : zs.length ≤ 2000000) (hB : Bs < w.heap.size) (hc : w.cell? ⟨Bs, 0, none⟩ = some v) :
    Calls Tryz.prog 151 #[.func (.func 153) #[] #[.pointer (some ⟨Bs, 0, none⟩)]] w (IntsRes zs w) :=
  (callsIn_wide (n := 4)).1 (collect_in Fence.wide 4 trivial trivial trivial rfl (by omega) Bs v zs w hin hlen hB hc)
end Go.Proofs.YtcliiefedmiokaaGreat
/-
  Contracts of the library, at this translation: laid by the shelf, in plain declarations.
-/
namespace Go.Proofs
open Go.Shelf
def Tryz.sortI_ren : Go.Shelf.Ren := ⟨fun | 6 => 152 | 15 => 157 | 14 => 156 | 28 => 165 | 29 => 166 | 20 => 142 | 21 => 158 | 22 => 159 | 23 => 160 | 24 => 161 | 25 => 162 | 26 => 163 | 27 => 164 | 46 => 167 | 47 => 168 | 48 => 169 | 49 => 170 | 50 => 171 | 57 => 172 | n => n, fun | 22 => 30 | 24 => 3 | 25 => 112 | 3 => 3 | 39 => 119 | 0 => 0 | 53 => 158 | 55 => 160 | 4 => 4 | 46 => 168 | 45 => 167 | 50 => 44 | 5 => 5 | 9 => 9 | 66 => 173 | 70 => 177 | 76 => 179 | 77 => 180 | n => n, fun | n => n⟩
theorem Tryz.sortI : Go.Proofs.SlLaysF.n6 Tryz.prog Tryz.sortI_ren := {
  mixed := by kernel_rfl
  f6 := ⟨Tryz.f152.name, by decide, Tryz.func152.trans (congrArg some (by kernel_rfl))⟩
  f14 := ⟨Tryz.f156.name, by decide, Tryz.func156.trans (congrArg some (by kernel_rfl))⟩
  f15 := Tryz.func157.trans (congrArg some (by kernel_rfl))
  f20 := ⟨Tryz.f142.name, by decide, Tryz.func142.trans (congrArg some (by kernel_rfl))⟩
  f21 := ⟨Tryz.f158.name, by decide, Tryz.func158.trans (congrArg some (by kernel_rfl))⟩
  f22 := ⟨Tryz.f159.name, by decide, Tryz.func159.trans (congrArg some (by kernel_rfl))⟩
  f23 := ⟨Tryz.f160.name, by decide, Tryz.func160.trans (congrArg some (by kernel_rfl))⟩
  f24 := ⟨Tryz.f161.name, by decide, Tryz.func161.trans (congrArg some (by kernel_rfl))⟩
  f25 := ⟨Tryz.f162.name, by decide, Tryz.func162.trans (congrArg some (by kernel_rfl))⟩
  f26 := ⟨Tryz.f163.name, by decide, Tryz.func163.trans (congrArg some (by kernel_rfl))⟩
  f27 := ⟨Tryz.f164.name, by decide, Tryz.func164.trans (congrArg some (by kernel_rfl))⟩
  f28 := Tryz.func165.trans (congrArg some (by kernel_rfl))
  f29 := Tryz.func166.trans (congrArg some (by kernel_rfl))
  f46 := ⟨Tryz.f167.name, by decide, Tryz.func167.trans (congrArg some (by kernel_rfl))⟩
  f47 := Tryz.func168.trans (congrArg some (by kernel_rfl))
  f48 := Tryz.func169.trans (congrArg some (by kernel_rfl))
  f49 := ⟨Tryz.f170.name, by decide, Tryz.func170.trans (congrArg some (by kernel_rfl))⟩
  f50 := ⟨Tryz.f171.name, by decide, Tryz.func171.trans (congrArg some (by kernel_rfl))⟩
  f57 := ⟨Tryz.f172.name, by decide, Tryz.func172.trans (congrArg some (by kernel_rfl))⟩
  t0 := Tryz.underlying0
  a0 := Tryz.isAgg0
  z0 := Tryz.sizeOf0
  v0 := Tryz.zeroValue0
  t3 := Tryz.underlying3
  a3 := Tryz.isAgg3
  z3 := Tryz.sizeOf3
  v3 := Tryz.zeroValue3
  t4 := Tryz.underlying4
  a4 := Tryz.isAgg4
  z4 := Tryz.sizeOf4
  v4 := Tryz.zeroValue4
  t5 := Tryz.underlying5
  a5 := Tryz.isAgg5
  z5 := Tryz.sizeOf5
  v5 := Tryz.zeroValue5
  t9 := Tryz.underlying9
  a9 := Tryz.isAgg9
  z9 := Tryz.sizeOf9
  v9 := Tryz.zeroValue9
  t22 := Tryz.underlying30
  a22 := Tryz.isAgg30
  z22 := Tryz.sizeOf30
  v22 := Tryz.zeroValue30
  a24 := Tryz.isAgg3
  z24 := Tryz.sizeOf3
  t25 := Tryz.underlying112
  a25 := Tryz.isAgg112
  z25 := Tryz.sizeOf112
  v25 := Tryz.zeroValue112
  t39 := Tryz.underlying119
  a39 := Tryz.isAgg119
  z39 := Tryz.sizeOf119
  v39 := Tryz.zeroValue119
  t45 := Tryz.underlying167
  a45 := Tryz.isAgg167
  z45 := Tryz.sizeOf167
  v45 := Tryz.zeroValue167
  t46 := Tryz.underlying168
  a46 := Tryz.isAgg168
  z46 := Tryz.sizeOf168
  v46 := Tryz.zeroValue168
  t50 := Tryz.underlying44
  a50 := Tryz.isAgg44
  z50 := Tryz.sizeOf44
  v50 := Tryz.zeroValue44
  t53 := Tryz.underlying158
  a53 := Tryz.isAgg158
  z53 := Tryz.sizeOf158
  v53 := Tryz.zeroValue158
  t55 := Tryz.underlying160
  a55 := Tryz.isAgg160
  z55 := Tryz.sizeOf160
  v55 := Tryz.zeroValue160
  t66 := Tryz.underlying173
  a66 := Tryz.isAgg173
  z66 := Tryz.sizeOf173
  v66 := Tryz.zeroValue173
  t70 := Tryz.underlying177
  a70 := Tryz.isAgg177
  z70 := Tryz.sizeOf177
  v70 := Tryz.zeroValue177
  t76 := Tryz.underlying179
  a76 := Tryz.isAgg179
  z76 := Tryz.sizeOf179
  v76 := Tryz.zeroValue179
  t77 := Tryz.underlying180
  a77 := Tryz.isAgg180
  z77 := Tryz.sizeOf180
  v77 := Tryz.zeroValue180 }
end Go.Proofs
/-
  SortedDown of the program: slices.SortedFunc over slices.Values.
-/
namespace Go.Proofs.YtcliiefedmiokaaGreat
open Go.RowKit

/-- cmp.Compare on integers. -/
def cmpI (x y : Int) : Int := if x < y then -1 else if y < x then 1 else 0
theorem cmpI_neg (x y : Int) : (cmpI x y < 0) = (x < y) := by
  unfold cmpI
  by_cases h1 : x < y
  · rw [if_pos h1]; simp [h1]
  · rw [if_neg h1]
    by_cases h2 : y < x
    · rw [if_pos h2]; simp; omega
    · rw [if_neg h2]; simp; omega
theorem isNaN_any (x : Int) (w : World) : Calls Tryz.prog 130 #[.int .i64 x] w fun e w' => e = .returned (.bool false) ∧ w = w' := by
  go_enter Tryz.func130, Tryz.ntmps130
  go_wp2
  go_ret
  exact ⟨ret_bool (by simp), rfl⟩
set_option maxHeartbeats 400000 in
theorem compare_any (x y : Int) (w : World) : Calls Tryz.prog 99 #[.int .i64 x, .int .i64 y] w fun e w' => e = .returned (.int .i64 (cmpI x y)) ∧ w = w' := by
  have H1 := hide fun h : x < y => (show cmpI x y = -1 by rw [cmpI, if_pos h])
  have H2 := hide fun (h : ¬ x < y) (h2 : y < x) => (show cmpI x y = 1 by rw [cmpI, if_neg h, if_pos h2])
  have H3 := hide fun (h : ¬ x < y) (h2 : ¬ y < x) => (show cmpI x y = 0 by rw [cmpI, if_neg h, if_neg h2])
  by_cases h1 : x < y
  · rw [H1.out h1]
    go_enter Tryz.func99, Tryz.ntmps99
    go_wp2_with (first | (with_reducible refine (isNaN_any x _).mono ?_; rintro e w' ⟨rfl, rfl⟩) | (with_reducible refine (isNaN_any y _).mono ?_; rintro e w' ⟨rfl, rfl⟩))
    go_ret
    exact ⟨rfl, rfl⟩
  · by_cases h2 : y < x
    · rw [H2.out h1 h2]
      go_enter Tryz.func99, Tryz.ntmps99
      go_wp2_with (first | (with_reducible refine (isNaN_any x _).mono ?_; rintro e w' ⟨rfl, rfl⟩) | (with_reducible refine (isNaN_any y _).mono ?_; rintro e w' ⟨rfl, rfl⟩))
      go_ret
      exact ⟨rfl, rfl⟩
    · rw [H3.out h1 h2]
      go_enter Tryz.func99, Tryz.ntmps99
      go_wp2_with (first | (with_reducible refine (isNaN_any x _).mono ?_; rintro e w' ⟨rfl, rfl⟩) | (with_reducible refine (isNaN_any y _).mono ?_; rintro e w' ⟨rfl, rfl⟩))
      go_ret
      exact ⟨rfl, rfl⟩
theorem downCmp_any (x y : Int) (w : World) : Calls Tryz.prog 149 #[.int .i64 x, .int .i64 y] w fun e w' => e = .returned (.int .i64 (cmpI y x)) ∧ w = w' := by
  go_enter Tryz.func149, Tryz.ntmps149
  go_wp2_with ((with_reducible refine (compare_any y x _).mono ?_); rintro e w' ⟨rfl, rfl⟩)
  go_ret
  exact ⟨rfl, rfl⟩

def downC (x y : Int) : Int := cmpI y x
theorem downC_lt (x y : Int) : ltOf downC x y = decide (y < x) := by
  unfold ltOf downC; simp only [cmpI_neg]
theorem downC_swo : Go.Sort.SWO (ltOf downC) where
  irrefl x := by rw [downC_lt]; simp
  trans x y z h1 h2 := by rw [downC_lt] at *; simp at *; omega
  ntrans x y z h1 h2 := by rw [downC_lt] at *; simp at *; omega

/-- What the sort leaves of a slice that the call owns. -/
theorem own_sorted {w : World} {base E n g cap : Nat} {r : List Int} (s : List Int) (m : Nat) (os : Array Obj) (h : w.ownsRow base E 1 (.slice (some ⟨g, 0, none⟩) n cap) n (ints r)) (hs : s.length = n) :
    (sortWorld (Value.int .i64) w g 0 m s.toArray os).ownsRow base E 1 (.slice (some ⟨g, 0, none⟩) n cap) n (ints s) ∧ w.grownBy (sortWorld (Value.int .i64) w g 0 m s.toArray os) (some g) := by
  rcases h.2 with ⟨he, _⟩ | ⟨g', cap', cur, he, hbg, hg, hc, hm, hz, ht⟩
  · cases he
  cases he
  have hgl := (Array.getElem?_eq_some_iff.1 hg).1
  have hheap : (sortWorld (Value.int .i64) w g 0 m s.toArray os).heap = w.heap.modify g (Go.Sort.onCells (Go.Sort.putCells (Value.int .i64) 0 s.toArray)) ++ os := rfl
  have hsz : (w.heap.modify g (Go.Sort.onCells (Go.Sort.putCells (Value.int .i64) 0 s.toArray))).size = w.heap.size := Array.size_modify
  have hat : (sortWorld (Value.int .i64) w g 0 m s.toArray os).heap[g]? = some (.cells (Go.Sort.putCells (Value.int .i64) 0 s.toArray cur) E (0, 0)) := by
    rw [hheap, Array.getElem?_append_left (by rw [hsz]; exact hgl), Array.getElem?_modify, if_pos rfl, hg]; rfl
  refine ⟨⟨by rw [ints_len]; omega, .inr ⟨g, cap, _, rfl, hbg, hat, hc, hm, by rw [Go.Sort.putCells, Array.size_mapIdx]; exact hz, ?_⟩⟩, ⟨rfl, rfl, rfl, by rw [hheap, Array.size_append, hsz]; omega, fun k hk hne => ?_⟩⟩
  · apply List.ext_getElem
    · rw [List.length_take, Array.length_toList, Go.Sort.putCells, Array.size_mapIdx, ints_len]; omega
    · intro i h1 h2
      rw [ints_len] at h2
      have h3 := ints_at s i h2
      rw [List.getElem?_eq_getElem (by rw [ints_len]; exact h2)] at h3
      rw [Option.some.inj h3, List.getElem_take, Array.getElem_toList]
      simp only [Go.Sort.putCells, Array.getElem_mapIdx]
      rw [if_pos ⟨Nat.zero_le _, by simp; omega⟩]
      simp [h2]
  · rw [hheap, Array.getElem?_append_left (by rw [hsz]; exact hk), Array.getElem?_modify, if_neg (fun e => hne (by rw [e]))]

set_option maxHeartbeats 1000000 in
theorem sortFunc_any (base : Nat) (v : Value) (r : List Int) (w : World) (h : w.ownsRow base 3 1 v r.length (ints r)) (hr : r.length ≤ 2000000) (hb : base ≤ w.heap.size) :
    Calls Tryz.prog 152 #[v, .func (.func 149) #[] #[]] w fun e w' => e = .returned (.tuple #[]) ∧ w'.ownsRow base 3 1 v r.length (ints (sortD r)) ∧ Below base w w' := by
  by_cases h0 : r.length = 0
  · obtain rfl : r = [] := List.eq_nil_of_length_eq_zero h0
    obtain ⟨a, c, rfl⟩ := own_none h
    have hcon := AnyF.slices_SortFunc_none (P := Tryz.prog) (ρ := Tryz.sortI_ren) { Tryz.sortI with } a c (.func (.func 149) #[] #[]) w
    change Calls Tryz.prog 152 _ _ _ at hcon
    refine hcon.mono ?_
    rintro e w' ⟨rfl, rfl⟩
    exact ⟨rfl, by simpa [sortD] using h, Below.refl _ _⟩
  · obtain ⟨g, cap, rfl, hbg, hg, hc, hm, hcell, hfr⟩ := own_some h (by omega)
    have eg : ∀ args w, (callFunc 149 args).run Tryz.prog w = .ok (.enter 149 args) w := enters_of Tryz.func149 (by kernel_rfl) rfl
    have hcmp : CmpLays1 Tryz.prog 149 #[] (Value.int .i64) downC g 0 r.toArray.size w := fun m os dk _ x y =>
      (downCmp_any x y _).mono fun e w' ⟨he, hw⟩ => ⟨he, 0, #[], by rw [← hw, Go.Sort.grow_empty]; rfl⟩
    have hH : Go.Sort.Holds (Value.int .i64) w g 0 r.toArray := fun j hj => by
      have hj' : j < r.length := by simpa using hj
      rw [Nat.zero_add]
      exact ⟨by rw [hcell j hj', ints_at r j hj']; simp [hj'], hfr j⟩
    have hcon := Any.slices_SortFunc_total Tryz.sortI (Value.int .i64) (fun _ => rfl) downC downC_swo 149 #[] g 0 cap r.toArray w eg hcmp hH hg (by simp; omega)
      (fun x y h1 h2 => by rw [downC_lt] at h1 h2; simp at h1 h2; omega)
    change Calls Tryz.prog 152 _ _ _ at hcon
    rw [List.size_toArray] at hcon
    refine hcon.mono ?_
    rintro e w' ⟨rfl, m, os, rfl⟩
    have hs : (r.mergeSort fun x y => !ltOf downC y x) = sortD r := by
      rw [sortD]; congr 1; funext x y; rw [downC_lt]; by_cases hxy : x < y
      · rw [decide_eq_true hxy, decide_eq_false (by omega)]; rfl
      · rw [decide_eq_false hxy, decide_eq_true (by omega)]; rfl
    dsimp only
    rw [hs]
    obtain ⟨k1, k2⟩ := own_sorted (sortD r) m os h (sortD_len r)
    exact ⟨rfl, k1, (Below.refl _ _).grown k2 hb (fun k hk => by cases hk; exact hbg)⟩

theorem values_any (a : Option Addr) (n c : Nat) (w : World) :
    Calls Tryz.prog 148 #[.slice a n c] w fun e w' => e = .returned (.func (.func 153) #[] #[.pointer (some ⟨w.heap.size, 0, none⟩)]) ∧ w' = w.alloc (.cells #[.slice a n c] 30) := by
  go_enter Tryz.func148, Tryz.ntmps148
  go_wp2
  go_ret
  exact ⟨rfl, rfl⟩
set_option maxHeartbeats 400000 in
theorem sortedFunc_any (Bs : Nat) (v : Value) (r : List Int) (w : World) (hin : InRow w v r) (hr : r.length ≤ 2000000) (hB : Bs < w.heap.size) (hc : w.cell? ⟨Bs, 0, none⟩ = some v) :
    Calls Tryz.prog 147 #[.func (.func 153) #[] #[.pointer (some ⟨Bs, 0, none⟩)], .func (.func 149) #[] #[]] w (IntsRes (sortD r) w) := by
  have HX := hide (collectVals_any Bs v r w hin hr hB hc)
  clear hin hc
  go_enter Tryz.func147, Tryz.ntmps147
  go_wp2_with fail
  refine HX.out.mono ?_
  rintro e w1 ⟨u, rfl, ho, hb⟩
  have HS := hide (sortFunc_any w.heap.size u r w1 ho hr hb.size)
  have HB := hide hb
  clear ho hb
  go_wp2_with fail
  refine HS.out.mono ?_
  rintro e w2 ⟨rfl, ho, hb⟩
  have HO := hide ho; have HB2 := hide (HB.out.trans hb)
  clear ho hb
  go_wp2
  go_ret
  exact ⟨_, rfl, by rw [sortD_len]; exact HO.out, HB2.out⟩
set_option maxHeartbeats 400000 in
theorem implSortedDown_any (v : Value) (l : List Int) (w : World) (hin : InRow w v l) (hl : l.length ≤ 1048576) :
    Calls Tryz.prog 138 #[v] w (IntsRes (sortD l) w) := by
  have hb := (Below.refl w.heap.size w).alloc (Nat.le_refl _) (.cells #[v] 30)
  have HX := hide (sortedFunc_any w.heap.size v l _ (inRow_below hin hb) (by omega) (by simp) (show (w.alloc (.cells #[v] 30)).cell? ⟨w.heap.size, 0, none⟩ = some v by simp [World.cell?_alloc_new]))
  have HB := hide hb
  obtain ⟨a, c, rfl, -, -⟩ := hin
  clear hb
  go_enter Tryz.func138, Tryz.ntmps138
  go_wp2_with fail
  refine (values_any a _ c _).mono ?_
  rintro e w1 ⟨rfl, rfl⟩
  go_wp2_with fail
  refine HX.out.mono ?_
  rintro e w2 ⟨u, rfl, ho, hb⟩
  have HO := hide (own_base ho HB.out.size); have HB2 := hide (HB.out.trans (hb.mono HB.out.size))
  clear ho hb
  go_wp2
  go_ret
  exact ⟨_, rfl, HO.out, HB2.out⟩
end Go.Proofs.YtcliiefedmiokaaGreat
/-
  Worlds that have grown: some draws, some blocks laid behind.
-/
namespace Go.Proofs.YtcliiefedmiokaaGreat
open Go.RowKit

/-- After some draws, with some blocks laid behind. -/
def GrownW (w w' : World) : Prop := ∃ q os, w' = Go.Sort.grow (w.drewN q) os
theorem grownW_refl (w : World) : GrownW w w := ⟨0, #[], by rw [Go.Sort.grow_empty]; rfl⟩
theorem grownW_grow (w : World) (q : Nat) (os : Array Obj) : GrownW w (Go.Sort.grow (w.drewN q) os) := ⟨q, os, rfl⟩
theorem grownW_trans {a b c : World} (h : GrownW a b) (k : GrownW b c) : GrownW a c := by
  obtain ⟨q, os, rfl⟩ := h
  obtain ⟨p, os', rfl⟩ := k
  exact ⟨q + p, os ++ os', by show Go.Sort.grow (Go.Sort.grow ((a.drewN q).drewN p) os) os' = _; rw [Go.Sort.grow_grow, World.drewN_drewN]⟩
theorem grownW_alloc (w : World) (o : Obj) : GrownW w (w.alloc o) := ⟨0, #[o], by rw [Go.Sort.alloc_eq_grow]; rfl⟩
theorem grownW_below {w w' : World} (h : GrownW w w') : Below w.heap.size w w' := by
  obtain ⟨q, os, rfl⟩ := h
  refine ⟨rfl, rfl, rfl, ?_, fun k hk => ?_⟩
  · show w.heap.size ≤ (w.heap ++ os).size
    rw [Array.size_append]; omega
  · show (w.heap ++ os)[k]? = _
    rw [Array.getElem?_append_left hk]
theorem quiet_of {P : Program} {f : FuncId} {args : Array Value} {w : World} {n : Nat} {os : Array Obj} {v : Value} (h : Calls P f args (Go.Sort.grow (w.drewN n) os) fun e w' => e = .returned v ∧ GrownW (Go.Sort.grow (w.drewN n) os) w') :
    Calls P f args (Go.Sort.grow (w.drewN n) os) fun e w'' => e = .returned v ∧ ∃ p : GrownBy, w'' = Go.Sort.grow (w.drewN p.n) p.os := Calls.grown_of h
end Go.Proofs.YtcliiefedmiokaaGreat
/-
  The bounds of chapter 5: slack, isBroken, and the comparison by slack.
-/
namespace Go.Proofs.YtcliiefedmiokaaGreat
open Go.RowKit

/-- A bound in a variable. -/
def BoundAt (w : World) (g : Nat) (s m : Int) : Prop := w.heap[g]? = some (.cells #[.int .i64 s, .int .i64 m] 144 (0, 0))
theorem boundAt_below {w w' : World} {g : Nat} {s m : Int} (h : BoundAt w g s m) (hb : Below w.heap.size w w') : BoundAt w' g s m := by
  unfold BoundAt; rw [hb.block g (Array.getElem?_eq_some_iff.1 h).1]; exact h
theorem boundAt_cells {w : World} {g : Nat} {s m : Int} (h : BoundAt w g s m) : w.cell? ⟨g, 0, none⟩ = some (.int .i64 s) ∧ w.cell? ⟨g, 1, none⟩ = some (.int .i64 m) :=
  ⟨by rw [cell_of_row w g 0 _ _ _ h]; rfl, by rw [cell_of_row w g 1 _ _ _ h]; rfl⟩
theorem boundAt_frozen {w : World} {g : Nat} {s m : Int} (h : BoundAt w g s m) : w.frozen? ⟨g, 0, none⟩ = false ∧ w.frozen? ⟨g, 1, none⟩ = false := by
  unfold BoundAt at h
  simp [World.frozen?, h]
theorem Tryz.sizeBound : (Tryz.prog.info? 144).map (·.size) = some 2 := by kernel_rfl
theorem wpList_loadBound {ops : Array Oper} {rest : List Oper} {o : Oper} {a : Act} {Q : Exit → Act → World → Prop} {W : World} {g : Nat} {s m : Int} (hb : BoundAt W g s m)
    (hgd : o.guard = none) (x : Operand) (ho : o.op = .load 144 x) (hx : a.eval x = .pointer (some ⟨g, 0, none⟩))
    (h : wpList Tryz.prog ops Q rest (a.put o.dst (.agg #[.int .i64 s, .int .i64 m])) W) : wpList Tryz.prog ops Q (o :: rest) a W :=
  wpList_load_row hgd _ x ho g hx _ _ (0, 0) _ hb Tryz.underlying144 rfl Tryz.sizeBound h

set_option maxHeartbeats 400000 in
theorem slack_any (s m : Int) (w : World) (hs : 0 ≤ s ∧ s ≤ 25) (hm : 0 ≤ m ∧ m ≤ 25) :
    Calls Tryz.prog 141 #[.agg #[.int .i64 s, .int .i64 m]] w fun e w' => e = .returned (.int .i64 (m - s)) ∧ GrownW w w' := by
  obtain ⟨s1, s2⟩ := hs
  obtain ⟨m1, m2⟩ := hm
  go_enter Tryz.func141, Tryz.ntmps141
  go_wp2
  go_ret
  exact ⟨rfl, grownW_alloc _ _⟩
set_option maxHeartbeats 400000 in
theorem isBroken_any (s m : Int) (w : World) (hs : 0 ≤ s ∧ s ≤ 25) (hm : 0 ≤ m ∧ m ≤ 25) :
    Calls Tryz.prog 128 #[.agg #[.int .i64 s, .int .i64 m]] w fun e w' => e = .returned (.bool (decide (m - s < 0))) ∧ Below w.heap.size w w' := by
  have HG := hide (show BoundAt (w.alloc (.cells #[.int .i64 s, .int .i64 m] 144)) w.heap.size s m from heap_alloc_new w _)
  have HSL := hide fun w => slack_any s m w hs hm
  go_enter Tryz.func128, Tryz.ntmps128
  go_wp2_with (first | (with_reducible refine wpList_loadBound HG.out rfl _ rfl rfl ?_) | ((with_reducible refine (HSL.out _).mono ?_); rintro e w1 ⟨rfl, hg⟩; have HB := hide (grownW_below (grownW_trans (grownW_alloc _ _) hg)); clear hg))
  go_ret
  exact ⟨rfl, HB.out⟩
theorem load_bound {w : World} {g : Nat} {s m : Int} (h : BoundAt w g s m) (n : Nat) (os : Array Obj) : BoundAt (Go.Sort.grow (w.drewN n) os) g s m := boundAt_below h (grownW_below ⟨n, os, rfl⟩)
end Go.Proofs.YtcliiefedmiokaaGreat
