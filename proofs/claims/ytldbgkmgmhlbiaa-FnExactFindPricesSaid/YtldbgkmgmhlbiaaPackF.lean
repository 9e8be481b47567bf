/-
  Texts of this claim, one behind the other: Betw, WtOf, FindP, FindI, Relax.
-/
import Derived.Test.YtldbgkmgmhlbiaaPackE
import Derived.Test.YtldbgkmgmhlbiaaPackD
/-
  stepsBetween: a step for each cell.
-/
namespace Go.Proofs.Ytldbgkmgmhlbiaa
open Go.RowKit

/-- The step of a cell: from the row to the column where it is black, back where it is white. -/
def edgeAt (R : Nat) (g f : Nat → Nat → Int) (y x : Nat) : Edge := if f y x = 1 then ⟨y, R + x, g y x⟩ else ⟨R + x, y, -(g y x)⟩
def rowE (R : Nat) (g f : Nat → Nat → Int) (y x : Nat) : List Edge := (List.range x).map (edgeAt R g f y)
def allE (R C : Nat) (g f : Nat → Nat → Int) (y : Nat) : List Edge := (List.range y).flatMap fun j => rowE R g f j C
theorem allE_succ (R C : Nat) (g f : Nat → Nat → Int) (y : Nat) : allE R C g f (y + 1) = allE R C g f y ++ rowE R g f y C := by simp [allE, List.range_succ]
theorem rowE_succ (R : Nat) (g f : Nat → Nat → Int) (y x : Nat) : rowE R g f y (x + 1) = rowE R g f y x ++ [edgeAt R g f y x] := by simp [rowE, List.range_succ]
theorem rowE_len (R : Nat) (g f : Nat → Nat → Int) (y x : Nat) : (rowE R g f y x).length = x := by simp [rowE]
theorem allE_len (R C : Nat) (g f : Nat → Nat → Int) : ∀ y, (allE R C g f y).length = y * C
  | 0 => by simp [allE]
  | y + 1 => by rw [allE_succ, List.length_append, allE_len R C g f y, rowE_len, Nat.add_mul, Nat.one_mul]
theorem mem_allE {R C : Nat} {g f : Nat → Nat → Int} {y : Nat} {e : Edge} : e ∈ allE R C g f y ↔ ∃ j x, j < y ∧ x < C ∧ e = edgeAt R g f j x := by
  simp only [allE, rowE, List.mem_flatMap, List.mem_range, List.mem_map]
  constructor
  · rintro ⟨j, hj, x, hx, rfl⟩; exact ⟨j, x, hj, hx, rfl⟩
  · rintro ⟨j, x, hj, hx, rfl⟩; exact ⟨j, hj, x, hx, rfl⟩
theorem allE_in {R C : Nat} {g f : Nat → Nat → Int} (hW : Wt R C g) : ∀ e ∈ allE R C g f R, (e.s < R + C ∧ e.t < R + C ∧ -100 ≤ e.l ∧ e.l ≤ 100) ∧ e.s ≠ e.t := by
  intro e he
  obtain ⟨j, x, hj, hx, rfl⟩ := mem_allE.1 he
  have h1 := hW.lo j x hj hx; have h2 := hW.hi j x hj hx
  unfold edgeAt
  split
  · exact ⟨⟨by show j < R + C; omega, by show R + x < R + C; omega, h1, h2⟩, by show j ≠ R + x; omega⟩
  · exact ⟨⟨by show R + x < R + C; omega, by show j < R + C; omega, by show -100 ≤ -(g j x); omega, by show -(g j x) ≤ 100; omega⟩, by show R + x ≠ j; omega⟩
def stE (p q : Nat) (l : Int) : Array Value := #[.pointer (some ⟨p, 0, none⟩), .pointer (some ⟨q, 0, none⟩), .int .i64 l]
theorem cellsE_edge (B : Nat → Nat) (E : List Edge) (e : Edge) : cellsE B (E ++ [e]) = cellsE B E ++ (stE (B e.s) (B e.t) e.l).toList := cellsE_snoc B E e
def StepAt (w : World) (g p q : Nat) (l : Int) : Prop := w.heap[g]? = some (.cells (stE p q l) 75 (0, 0))
def stZ : Array Value := #[.pointer none, .pointer none, .int .i64 0]
def StepZ (w : World) (g : Nat) : Prop := w.heap[g]? = some (.cells stZ 75 (0, 0))
theorem Try.infoStep : (Try.prog.info? 75).map (fun i => (i.zero, i.size, i.bytes)) = some (some (.agg stZ), 3, 24) := by kernel_rfl
theorem Try.zeroStep (w : World) : (zeroValue 75).run Try.prog w = .ok (.agg stZ) w := Try.zeroValue75 w
theorem exec_allocE {ρ : Operand → Value} {o : Oper} {w : World} (ho : o.op = .alloc 75) : (execOp ρ o).run Try.prog w = .ok (.value (.pointer (some ⟨w.heap.size, 0, none⟩))) (w.alloc (.cells stZ 75)) := by
  unfold execOp
  simp only [ho, Instr.alloc, Sem.run_bind, Try.zeroStep, Result.andThen_ok]
  rfl
theorem exec_storeE {W : World} {g : Nat} {cs : Array Value} (p q : Nat) (l : Int) (hb : W.heap[g]? = some (.cells cs 75 (0, 0))) (hcs : cs.size = 3) :
    ∃ w', (∀ (ρ : Operand → Value) (o : Oper) (x y : Operand), o.op = .store 75 x y → ρ x = .pointer (some ⟨g, 0, none⟩) → ρ y = .agg (stE p q l) → (execOp ρ o).run Try.prog W = .ok .skip w') ∧ StepAt w' g p q l ∧ W.grownBy w' (some g) ∧ w'.heap.size = W.heap.size := by
  refine ⟨_, fun ρ o x y ho hx hy => ?_, setRow_heap W g _ (stE p q l) 75 (0, 0) hb, ⟨rfl, rfl, rfl, by simp, fun k hk hr => setRow_other W g k _ (fun e => hr (by rw [e]))⟩, by simp⟩
  unfold execOp
  simp only [ho, hx, hy, Instr.storeAt, Instr.sureAddr, Sem.run_bind, Sem.run_pure, Result.andThen_ok, run_storeVar_row W g 75 75 cs (stE p q l) hb (by rw [Try.sizeStep]; rfl) (by rw [hcs]; rfl) (by simp [stE, Value.oneCell'])]
theorem wpList_storeE {ops : Array Oper} {rest : List Oper} {o : Oper} {a : Act} {Q : Exit → Act → World → Prop} {W : World} {g : Nat} {cs : Array Value} (p q : Nat) (l : Int) (hb : W.heap[g]? = some (.cells cs 75 (0, 0))) (hcs : cs.size = 3)
    (hgd : o.guard = none) (x y : Operand) (ho : o.op = .store 75 x y) (hx : a.eval x = .pointer (some ⟨g, 0, none⟩)) (hy : a.eval y = .agg (stE p q l))
    (h : ∀ w', StepAt w' g p q l → W.grownBy w' (some g) → w'.heap.size = W.heap.size → wpList Try.prog ops Q rest (a.put o.dst undef) w') : wpList Try.prog ops Q (o :: rest) a W := by
  refine wpList_plain hgd fun K hK => ?_
  obtain ⟨w', h1, h2, h3, h4⟩ := exec_storeE p q l hb hcs
  unfold Oper.wp
  rw [h1 a.eval o x y ho hx hy]
  exact hK _ _ (h _ h2 h3 h4)
theorem wpList_loadE {ops : Array Oper} {rest : List Oper} {o : Oper} {a : Act} {Q : Exit → Act → World → Prop} {W : World} {g p q : Nat} {l : Int} (hb : StepAt W g p q l)
    (d : Tmp) (_hd : o.dst = some d) (hgd : o.guard = none) (x : Operand) (ho : o.op = .load 75 x) (hx : a.eval x = .pointer (some ⟨g, 0, none⟩))
    (h : wpList Try.prog ops Q rest (a.put o.dst (.agg (stE p q l))) W) : wpList Try.prog ops Q (o :: rest) a W :=
  wpList_load_row hgd _ x ho g hx _ _ (0, 0) _ hb Try.underlying75 rfl Try.sizeStep h
/-- A new step, in a block from B on. -/
def newE (B : Nat) : FactP := fun u w2 => ∃ G, u = .pointer (some ⟨G, 0, none⟩) ∧ B ≤ G ∧ StepZ w2 G
theorem stable_newE (B : Nat) : StableP (newE B) := fun _ _ _ hb h => ⟨h.choose, h.choose_spec.1, h.choose_spec.2.1, (hb.block _ (Array.getElem?_eq_some_iff.1 h.choose_spec.2.2).1).trans h.choose_spec.2.2⟩

set_option maxRecDepth 100000 in
set_option maxHeartbeats 4000000 in
theorem stepsBetween_any (vr vc vk vm : Value) (R C lo : Nat) (B : Nat → Nat) (g f : Nat → Nat → Int) (w : World) (hr : w.ownsRow lo 70 1 vr R (ptrsB B R R)) (hc : w.ownsRow lo 70 1 vc C (ptrsB (fun i => B (R + i)) C C)) (hk : InMat w vk (mkM R C g)) (hm : InMat w vm (mkM R C f)) (hI : Img R C f) (hW : Wt R C g) :
    Calls Try.prog 46 #[vr, vc, vk, vm] w fun e w' => ∃ v, e = .returned v ∧ OwnE w' w.heap.size v B (allE R C g f R) ∧ Below w.heap.size w w' := by
  have hR1 := hI.r1; have hC1 := hI.c1; have hR := hI.r2; have hC := hI.c2
  obtain ⟨ga, oa, ca, rfl, hga, hca⟩ := inMat_img hk (by omega) (by omega)
  obtain ⟨gb, ob, cb, rfl, hgb, hcb⟩ := inMat_img hm (by omega) (by omega)
  obtain ⟨gr, cr, rfl, -, hgr, -, -, -, -⟩ := own_some hr hR1
  obtain ⟨gc, cc, rfl, -, hgc, -, -, -, -⟩ := own_some hc hC1
  have HPR := hide fun (y : Nat) (hy : y < R) => (show w.cell? ⟨gr, y, none⟩ = some (.pointer (some ⟨B y, 0, none⟩)) by
    have := cell_held hr hy
    rw [ptrsB_at hy, if_pos hy] at this
    exact this)
  have HPC := hide fun (x : Nat) (hx : x < C) => (show w.cell? ⟨gc, x, none⟩ = some (.pointer (some ⟨B (R + x), 0, none⟩)) by
    have := cell_held hc hx
    rw [ptrsB_at hx, if_pos hx] at this
    exact this)
  have HA := hide hca; have HM := hide hcb; have HI := hide hI; have HW := hide hW
  have HNIL := hide (show OwnE w w.heap.size (.slice none 0 0) B (allE R C g f 0) from World.ownsRow_nil _ _ _ _)
  have HLEN := hide fun (y x : Nat) (hy : y < R) (hx : x ≤ C) => (show (allE R C g f y ++ rowE R g f y x).length ≤ 25 by
    rw [List.length_append, allE_len, rowE_len]
    have : y * C ≤ 4 * 5 := Nat.mul_le_mul (by omega) (by omega)
    omega)
  have HES := hide fun y => allE_succ R C g f y
  have HRS := hide fun y x => rowE_succ R g f y x
  have HR0 := hide fun y => (show rowE R g f y 0 = [] from rfl)
  have HAT := hide fun y x => (show edgeAt R g f y x = if f y x = 1 then ⟨y, R + x, g y x⟩ else ⟨R + x, y, -(g y x)⟩ from rfl)
  obtain ⟨AE, hAE⟩ : ∃ AE, AE = allE R C g f := ⟨_, rfl⟩
  obtain ⟨RE, hRE⟩ : ∃ RE, RE = rowE R g f := ⟨_, rfl⟩
  obtain ⟨EA, hEA⟩ : ∃ EA, EA = edgeAt R g f := ⟨_, rfl⟩
  rw [← hAE] at HNIL HLEN HES ⊢
  rw [← hRE] at HLEN HES HRS HR0
  rw [← hEA] at HRS HAT
  clear hk hm hI hW hca hcb hr hc hAE hRE hEA
  go_enter Try.func46, Try.ntmps46
  go_wp2
  go_loopw [9, 17] (fun s i w' => ∃ y : Nat, y ≤ R ∧ i = .int .i64 y ∧ OwnE w' w.heap.size s B (AE y) ∧ Below w.heap.size w w') (fun _ i _ => R - (intOf i).toNat)
  case atStart => exact ⟨0, Nat.zero_le _, rfl, HNIL.out, Below.refl _ _⟩
  case round =>
    obtain ⟨y, hy, rfl, hs, hb⟩ := hrel
    by_cases hlt : y < R
    · have hyI : (y : Int) < R := by omega
      obtain ⟨g', o', c', hx, hg', hcc⟩ := HM.out y hlt
      have hx := below_cell hb hgb hx
      have HCC := hide hcc
      have HO := hide hs; have HB := hide hb
      obtain ⟨av, cv, rfl⟩ := ownA_slice hs
      clear hcc hs hb
      obtain ⟨wo, rfl⟩ : ∃ wo : World, wo = wr := ⟨_, rfl⟩
      go_wp2
      have HST : Hid (OwnE wo w.heap.size (.slice av (AE y).length cv) B (AE y ++ RE y 0)) := hide (by rw [HR0.out, List.append_nil]; exact HO.out)
      go_loopw [9, 24] (fun s i w' => ∃ x : Nat, x ≤ C ∧ i = .int .i64 x ∧ OwnE w' w.heap.size s B (AE y ++ RE y x) ∧ Below w.heap.size w w') (fun _ i _ => C - (intOf i).toNat)
      case atStart => exact ⟨0, Nat.zero_le _, rfl, HST.out, HB.out⟩
      case round =>
        clear HST HO HB hx
        obtain ⟨x, hxx, rfl, hs, hb⟩ := hrel
        by_cases hlx : x < C
        · have hxI : (x : Int) < C := by omega
          have hz := below_cell hb hg' (HCC.out x hlx)
          obtain ⟨g2, o2, c2, hx2, hg2, hc2⟩ := HA.out y hlt
          have hx2 := below_cell hb hga hx2
          have hz2 := below_cell hb hg2 (hc2 x hlx)
          have hpr := below_cell hb hgr (HPR.out y hlt)
          have hpc := below_cell hb hgc (HPC.out x hlx)
          have b1 := HW.out.lo y x hlt hlx
          have b2 := HW.out.hi y x hlt hlx
          have h01 := HI.out.cell y x hlt hlx
          have HRX := hide (HRS.out y x)
          have HEE := hide (HAT.out y x)
          have hln := HLEN.out y x hlt hxx
          have HO := hide hs; have HB := hide hb
          obtain ⟨av2, cv2, rfl⟩ := ownA_slice hs
          obtain ⟨E0, hE0⟩ : ∃ E0, E0 = AE y ++ RE y x := ⟨_, rfl⟩
          have HE0 := hide hE0
          rw [← hE0] at HO hln ⊢
          obtain ⟨s, hs1⟩ : ∃ s, s = f y x := ⟨_, rfl⟩
          obtain ⟨t, ht⟩ : ∃ t, t = g y x := ⟨_, rfl⟩
          obtain ⟨p, hp⟩ : ∃ p, p = B y := ⟨_, rfl⟩
          obtain ⟨q, hq⟩ : ∃ q, q = B (R + x) := ⟨_, rfl⟩
          rw [← hs1] at hz h01 HEE
          rw [← ht] at hz2 b1 b2 HEE
          rw [← hp] at hpr
          rw [← hq] at hpc
          have HP := hide hp; have HQ := hide hq
          have HF := hide (show ∃ w4 : World, w4 = wr from ⟨_, rfl⟩)
          have HC1 := hide hx2; have HC2 := hide hz2; have HC3 := hide hpr; have HC4 := hide hpc
          have HWZ := hide (show w.heap.size ≤ wr.heap.size from hb.size)
          have hg2' : g2 < wr.heap.size := Nat.lt_of_lt_of_le hg2 hb.size
          have hga' : ga < wr.heap.size := Nat.lt_of_lt_of_le hga hb.size
          have hgr' : gr < wr.heap.size := Nat.lt_of_lt_of_le hgr hb.size
          have hgc' : gc < wr.heap.size := Nat.lt_of_lt_of_le hgc hb.size
          have HG1 := hide hga'; have HG2 := hide hg2'; have HG3 := hide hgr'; have HG4 := hide hgc'
          clear hc2 hs hb hs1 ht hp hq hE0 hx2 hz2 hpr hpc hg2' hga' hgr' hgc' HF
          go_wp2
          obtain ⟨fs, hfs⟩ : ∃ fs : List FactP, fs = [isV (.slice (some ⟨gr, 0, none⟩) R cr), isV (.int .i64 y), isV (.pointer (some ⟨gr, y, none⟩)), isV (.pointer (some ⟨p, 0, none⟩)), isV (.slice (some ⟨gc, 0, none⟩) C cc), isV (.int .i64 x), isV (.pointer (some ⟨gc, x, none⟩)), isV (.pointer (some ⟨q, 0, none⟩)), isV (.slice (some ⟨ga, oa, none⟩) R ca), isV (.int .i64 y), isV (.pointer (some ⟨ga, oa + y, none⟩)), isV (.slice (some ⟨g2, o2, none⟩) C c2), isV (.int .i64 x), isV (.pointer (some ⟨g2, o2 + x, none⟩)), isV (.int .i64 t), isV (.agg (stE p q t)), newE wr.heap.size] := ⟨_, rfl⟩
          have hst : ∀ f ∈ fs, StableP f := by
            rw [hfs]; intro f hf
            simp only [List.mem_cons, List.not_mem_nil, or_false] at hf
            rcases hf with rfl | rfl | rfl | rfl | rfl | rfl | rfl | rfl | rfl | rfl | rfl | rfl | rfl | rfl | rfl | rfl | rfl <;> first | exact stable_v _ | exact stable_newE _
          subst hfs
          refine wp_region_tail (S := fun w2 => Below wr.heap.size wr w2) [isV (.slice (some ⟨gr, 0, none⟩) R cr), isV (.int .i64 y), isV (.pointer (some ⟨gr, y, none⟩)), isV (.pointer (some ⟨p, 0, none⟩)), isV (.slice (some ⟨gc, 0, none⟩) C cc), isV (.int .i64 x), isV (.pointer (some ⟨gc, x, none⟩)), isV (.pointer (some ⟨q, 0, none⟩)), isV (.slice (some ⟨ga, oa, none⟩) R ca), isV (.int .i64 y), isV (.pointer (some ⟨ga, oa + y, none⟩)), isV (.slice (some ⟨g2, o2, none⟩) C c2), isV (.int .i64 x), isV (.pointer (some ⟨g2, o2 + x, none⟩)), isV (.int .i64 t), isV (.agg (stE p q t)), newE wr.heap.size] [(0, .slice (some ⟨gr, 0, none⟩) R cr), (1, .slice (some ⟨gc, 0, none⟩) C cc), (2, .slice (some ⟨ga, oa, none⟩) R ca), (10, .int .i64 y), (12, .int .i64 x)] _ _ 17 (by kernel_rfl) rfl rfl (by kernel_rfl) (by kernel_rfl) rfl (by kernel_rfl) ?base (below_drew (Below.refl _ _)) ?ob rfl ?fin
          case base =>
            intro t v ht
            simp only [List.lookup_cons, List.lookup_nil] at ht
            repeat' split at ht
            all_goals first | (cases ht; done) | (obtain rfl := Option.some.inj ht; rename_i hh; obtain rfl := eq_of_beq hh; rfl)
          case ob =>
            exact ⟨obt_move (.slice (some ⟨gr, 0, none⟩) R cr) rfl rfl rfl (srt_b 0 rfl),
              obt_move (.int .i64 y) rfl rfl rfl (srt_b 10 rfl),
              obt_two (.pointer (some ⟨gr, y, none⟩)) rfl rfl (srt_j 0 rfl (by kernel_rfl) rfl) (srt_j 1 rfl (by kernel_rfl) rfl) (fun ρ w2 hS hx hy => by go_simp),
              obt_one (.pointer (some ⟨p, 0, none⟩)) rfl rfl (srt_j 2 rfl (by kernel_rfl) rfl) (fun ρ w2 hS hx => by have hcell := below_cell hS HG3.out HC3.out; go_simp),
              obt_move (.slice (some ⟨gc, 0, none⟩) C cc) rfl rfl rfl (srt_b 1 rfl),
              obt_move (.int .i64 x) rfl rfl rfl (srt_b 12 rfl),
              obt_two (.pointer (some ⟨gc, x, none⟩)) rfl rfl (srt_j 4 rfl (by kernel_rfl) rfl) (srt_j 5 rfl (by kernel_rfl) rfl) (fun ρ w2 hS hx hy => by go_simp),
              obt_one (.pointer (some ⟨q, 0, none⟩)) rfl rfl (srt_j 6 rfl (by kernel_rfl) rfl) (fun ρ w2 hS hx => by have hcell := below_cell hS HG4.out HC4.out; go_simp),
              obt_move (.slice (some ⟨ga, oa, none⟩) R ca) rfl rfl rfl (srt_b 2 rfl),
              obt_move (.int .i64 y) rfl rfl rfl (srt_b 10 rfl),
              obt_two (.pointer (some ⟨ga, oa + y, none⟩)) rfl rfl (srt_j 8 rfl (by kernel_rfl) rfl) (srt_j 9 rfl (by kernel_rfl) rfl) (fun ρ w2 hS hx hy => by go_simp),
              obt_one (.slice (some ⟨g2, o2, none⟩) C c2) rfl rfl (srt_j 10 rfl (by kernel_rfl) rfl) (fun ρ w2 hS hx => by have hcell := below_cell hS HG1.out HC1.out; go_simp),
              obt_move (.int .i64 x) rfl rfl rfl (srt_b 12 rfl),
              obt_two (.pointer (some ⟨g2, o2 + x, none⟩)) rfl rfl (srt_j 11 rfl (by kernel_rfl) rfl) (srt_j 12 rfl (by kernel_rfl) rfl) (fun ρ w2 hS hx hy => by go_simp),
              obt_one (.int .i64 t) rfl rfl (srt_j 13 rfl (by kernel_rfl) rfl) (fun ρ w2 hS hx => by have hcell := below_cell hS HG2.out HC2.out; go_simp),
              obt_run (.agg (stE p q t)) rfl rfl (fun ρ w2 hS hs => by have x1 := hs _ _ (srt_j 3 rfl (by kernel_rfl) rfl); have x2 := hs _ _ (srt_j 7 rfl (by kernel_rfl) rfl); have x3 := hs _ _ (srt_j 14 rfl (by kernel_rfl) rfl); unfold stE; go_simp),
              obt_make hst rfl (fun a w2 hS hs => ⟨_, _, exec_allocE rfl, hS.trans (((Below.refl _ _).alloc (Nat.le_refl _) _).mono hS.size), (Below.refl _ _).alloc (Nat.le_refl _) _, w2.heap.size, rfl, hS.size, heap_alloc_new w2 _⟩),
              trivial⟩
          case fin =>
            intro a' w' h1 h2 h3 hS h4 K hK
            have ha := frame_ov rfl h1 h2 h3 [(29, .slice (some ⟨gr, 0, none⟩) R cr), (30, .int .i64 y), (31, .pointer (some ⟨gr, y, none⟩)), (32, .pointer (some ⟨p, 0, none⟩)), (33, .slice (some ⟨gc, 0, none⟩) C cc), (34, .int .i64 x), (35, .pointer (some ⟨gc, x, none⟩)), (36, .pointer (some ⟨q, 0, none⟩)), (37, .slice (some ⟨ga, oa, none⟩) R ca), (38, .int .i64 y), (39, .pointer (some ⟨ga, oa + y, none⟩)), (40, .slice (some ⟨g2, o2, none⟩) C c2), (41, .int .i64 x), (42, .pointer (some ⟨g2, o2 + x, none⟩)), (43, .int .i64 t), (44, .agg (stE p q t)), (14, a'.tmps.getD 14 undef)] (by kernel_rfl) ⟨h4 0 29 rfl (by decide), h4 1 30 rfl (by decide), h4 2 31 rfl (by decide), h4 3 32 rfl (by decide), h4 4 33 rfl (by decide), h4 5 34 rfl (by decide), h4 6 35 rfl (by decide), h4 7 36 rfl (by decide), h4 8 37 rfl (by decide), h4 9 38 rfl (by decide), h4 10 39 rfl (by decide), h4 11 40 rfl (by decide), h4 12 41 rfl (by decide), h4 13 42 rfl (by decide), h4 14 43 rfl (by decide), h4 15 44 rfl (by decide), rfl, trivial⟩
            dsimp only [ov, List.lookup, Nat.reduceBEq, Nat.reduceAdd] at ha
            have v44 : a'.tmps.getD 44 undef = .agg (stE p q t) := h4 15 44 rfl (by decide)
            obtain ⟨gn, hv14, hgn, hbn⟩ := h4 16 14 rfl (by decide)
            have HV14 := hide hv14
            obtain ⟨w9, hrun, E4, g9, s9⟩ := exec_storeE p q t hbn rfl
            refine run_skip (hrun a'.eval _ (.tmp 14) (.tmp 44) rfl hv14 v44) (hK undef _ ?_)
            show Exit.then _ _ Exit.normal a' _
            have b9 := hS.trans (grown_below g9 (fun k hk => by cases hk; exact hgn) hS.size)
            have F4 := hide E4; have F5 := hide b9; have F6 := hide hgn
            clear hbn hgn E4 g9 s9 b9 hrun v44 hv14
            rw [ha]
            rw [HV14.out]
            clear ha h1 h2 h3 h4 hst hK
            clear HV14 hS HC1 HC2 HC3 HC4 HG1 HG2 HG3 HG4
            have F7 := hide (ownA_below HO.out F5.out)
            have F8 := hide (HB.out.trans (F5.out.mono HB.out.size))
            rcases h01 with rfl | rfl
            · have HED : Hid (cellsE B (E0 ++ [EA y x]) = cellsE B E0 ++ (stE q p (-t)).toList) := hide (by rw [cellsE_edge, HEE.out, if_neg (by decide), HP.out, HQ.out])
              have HBK := hide fun (W : World) => back_any p q t W ⟨b1, b2⟩
              go_wp2_with (first | (with_reducible refine wpList_loadE F4.out 47 rfl rfl _ rfl rfl ?_) | (go_at_call 65; refine (HBK.out w9).mono ?_; rintro e7 w7 ⟨rfl, hb7⟩; have K1 := hide ((hb7.block gn (Array.getElem?_eq_some_iff.1 F4.out).1).trans F4.out); have K2 := hide hb7; clear hb7) | (refine wpList_storeE q p (-t) K1.out rfl rfl (.tmp 14) (.tmp 48) rfl rfl rfl ?_; intro wb hb' gb sb; have K3 := hide hb'; have K4 := hide (F5.out.trans ((K2.out.mono F5.out.size).trans (grown_below gb (fun k hk => by cases hk; exact F6.out) (Nat.le_trans F5.out.size K2.out.size)))); have K5 := hide (ownA_below HO.out K4.out); have K6 := hide (HB.out.trans (K4.out.mono HB.out.size)); have K7 := hide (Nat.le_trans HWZ.out K4.out.size); clear hb' gb sb) | (with_reducible refine wpList_loadE K3.out 50 rfl rfl _ rfl rfl ?_) | (with_reducible refine wpList_buildOneA (stE q p (-t)) _ 51 rfl rfl (.tmp 50) rfl rfl Try.underlying54 Try.infoStep (by decide) (by decide) rfl ?_) | (at_builtin; refine wpList_pushA K5.out (stE q p (-t)) _ rfl _ _ rfl Try.underlying54 Try.infoStep rfl (by decide) (by decide) rfl rfl rfl (by simp [stE, Value.oneCell']) (by omega) K7.out ?_; intro g8 cap8 w8 hown8 hb8 hg8 hat8 hlt8))
              have J1 := hide (K6.out.trans hb8); have J2 := hide hown8
              clear hown8 hb8 hg8 hat8 hlt8
              go_roundw
              case rel => exact ⟨x + 1, by omega, by go_num, by rw [HRX.out, ← List.append_assoc, ← HE0.out]; unfold OwnE; rw [List.length_append, List.length_singleton, HED.out]; exact J2.out, J1.out⟩
              case measure => simp [intOf]; omega
            · have HED : Hid (cellsE B (E0 ++ [EA y x]) = cellsE B E0 ++ (stE p q t).toList) := hide (by rw [cellsE_edge, HEE.out, if_pos rfl, HP.out, HQ.out])
              have K7 := hide (Nat.le_trans HWZ.out F5.out.size)
              go_wp2_with (first | (with_reducible refine wpList_loadE F4.out 50 rfl rfl _ rfl rfl ?_) | (with_reducible refine wpList_buildOneA (stE p q t) _ 51 rfl rfl (.tmp 50) rfl rfl Try.underlying54 Try.infoStep (by decide) (by decide) rfl ?_) | (at_builtin; refine wpList_pushA F7.out (stE p q t) _ rfl _ _ rfl Try.underlying54 Try.infoStep rfl (by decide) (by decide) rfl rfl rfl (by simp [stE, Value.oneCell']) (by omega) K7.out ?_; intro g8 cap8 w8 hown8 hb8 hg8 hat8 hlt8))
              have J1 := hide (F8.out.trans hb8); have J2 := hide hown8
              clear hown8 hb8 hg8 hat8 hlt8
              go_roundw
              case rel => exact ⟨x + 1, by omega, by go_num, by rw [HRX.out, ← List.append_assoc, ← HE0.out]; unfold OwnE; rw [List.length_append, List.length_singleton, HED.out]; exact J2.out, J1.out⟩
              case measure => simp [intOf]; omega
        · obtain rfl : x = C := by omega
          obtain ⟨av2, cv2, rfl⟩ := ownA_slice hs
          have HO := hide hs; have HB := hide hb
          clear hs hb
          go_wp2
          go_roundw
          case rel => exact ⟨y + 1, by omega, by go_num, by rw [HES.out]; exact HO.out, HB.out⟩
          case measure => simp [intOf]; omega
    · obtain rfl : y = R := by omega
      obtain ⟨av, cv, rfl⟩ := ownA_slice hs
      have HO := hide hs; have HB := hide hb
      clear hs hb
      go_wp2
      go_ret
      exact ⟨_, rfl, HO.out, HB.out⟩
end Go.Proofs.Ytldbgkmgmhlbiaa
/-
  WeightOf and PricesOk, of the program and of the model.
-/
namespace Go.Proofs.Ytldbgkmgmhlbiaa
open Go.RowKit Go.Shelf

def wtOfB (k m : List (List Int)) : Bool := okB m && wtB k m.length (widthM m)
def wtOf (k m : List (List Int)) : Int := if wtOfB k m then wtS m.length (widthM m) (cellM k) (cellM m) else 0
theorem wtB_nat {k : List (List Int)} {R C : Nat} (h : wtB k R C = true) : sizeB k R C (-100) 100 = true := by
  unfold wtB at h
  rw [Bool.and_eq_true, Int.toNat_natCast, Int.toNat_natCast] at h
  exact h.2
theorem ret_tup {n m : Int} {a b : Bool} (h1 : n = m) (h2 : a = b) : Ending.returned (.tuple #[.int .i64 n, .bool a]) = .returned (.tuple #[.int .i64 m, .bool b]) := by rw [h1, h2]

set_option maxHeartbeats 1000000 in
theorem implWeightOf_any (vk vm : Value) (k m : List (List Int)) (w : World) (hk : InMat w vk k) (hm : InMat w vm m) :
    Calls Try.prog 14 #[vk, vm] w fun e w' => e = .returned (.tuple #[.int .i64 (wtOf k m), .bool (wtOfB k m)]) ∧ Below w.heap.size w w' := by
  have HOK := hide (implImageOk_any vm m w hm)
  cases h : okB m with
  | false =>
    rw [h] at HOK
    have HF : Hid (wtOfB k m = false) := hide (by rw [wtOfB, h, Bool.false_and])
    have HV : Hid (wtOf k m = 0) := hide (by rw [wtOf, HF.out]; rfl)
    rw [HF.out, HV.out]
    obtain ⟨a, ca, rfl, -, -⟩ := hk
    obtain ⟨b, cb, rfl, -, -⟩ := hm
    generalize m.length = M at *
    generalize k.length = L at *
    clear h HF HV
    go_enter Try.func14, Try.ntmps14
    go_wp2_with (go_at_call 36; refine HOK.out.mono ?_; rintro e w1 ⟨rfl, rfl⟩)
    exact bodyPost_ret (results_tmp2 rfl _ _ _) rfl ⟨rfl, Below.refl _ _⟩
  | true =>
    rw [h] at HOK
    obtain ⟨R, C, f, rfl, hI⟩ := ok_img h
    have hR1 := hI.r1; have hC1 := hI.c1; have hR := hI.r2; have hC := hI.c2
    have HWT := hide (implWeightOk_any vk k R C w hk)
    have HB : Hid (wtOfB k (mkM R C f) = wtB k R C) := hide (by rw [wtOfB, h, Bool.true_and, mkM_len, width_mkM hR1])
    cases hw : wtB k R C with
    | false =>
      rw [hw] at HWT
      have HF : Hid (wtOfB k (mkM R C f) = false) := hide (by rw [HB.out, hw])
      have HV : Hid (wtOf k (mkM R C f) = 0) := hide (by rw [wtOf, HF.out]; rfl)
      rw [HF.out, HV.out]
      obtain ⟨ak, ck, rfl, -, -⟩ := hk
      obtain ⟨gb, ob, cb, rfl, hgb, hcb⟩ := inMat_img hm (by omega) (by omega)
      obtain ⟨g0, o0, c0, hx0, -⟩ := hcb 0 (by omega)
      rw [Nat.add_zero] at hx0
      generalize k.length = L at *
      clear h hw HB HF HV hcb hI hm
      go_enter Try.func14, Try.ntmps14
      go_wp2_with (first | (go_at_call 36; refine HOK.out.mono ?_; rintro e w1 ⟨rfl, rfl⟩) | (go_at_call 11; refine HWT.out.mono ?_; rintro e w1 ⟨rfl, b1⟩; have B1 := hide b1; clear b1))
      exact bodyPost_ret (results_tmp2 rfl _ _ _) rfl ⟨rfl, B1.out⟩
    | true =>
      rw [hw] at HWT
      obtain ⟨hkm, hWt⟩ := sizeB_wt (wtB_nat hw)
      have HF : Hid (wtOfB k (mkM R C f) = true) := hide (by rw [HB.out, hw])
      have HV : Hid (wtOf k (mkM R C f) = wtS R C (cellM k) f) := hide (by
        rw [wtOf, HF.out, if_pos rfl, mkM_len, width_mkM hR1]
        exact wtS_congr (fun _ _ _ _ => rfl) fun y x hy hx => cell_mk R C f hy hx)
      rw [HF.out, HV.out]
      have hk2 := hk
      rw [hkm] at hk2
      have HBW := hide fun w1 (b1 : Below w.heap.size w w1) => blackWeight_any vk vm R C (cellM k) f w1 (inMat_below hk2 b1) (inMat_below hm b1) hI hWt
      obtain ⟨S, hS⟩ : ∃ S, S = wtS R C (cellM k) f := ⟨_, rfl⟩
      rw [← hS] at HBW ⊢
      obtain ⟨ak, ck, rfl, -, -⟩ := hk
      obtain ⟨gb, ob, cb, rfl, hgb, hcb⟩ := inMat_img hm (by omega) (by omega)
      obtain ⟨g0, o0, c0, hx0, -⟩ := hcb 0 (by omega)
      rw [Nat.add_zero] at hx0
      generalize k.length = L at *
      clear h hw HB HF HV hcb hI hm hk2 hkm hWt hS
      go_enter Try.func14, Try.ntmps14
      go_wp2_with (first | (go_at_call 36; refine HOK.out.mono ?_; rintro e w1 ⟨rfl, rfl⟩) | (go_at_call 11; refine HWT.out.mono ?_; rintro e w1 ⟨rfl, b1⟩; have B1 := hide b1; clear b1) | (go_at_call 37; refine (HBW.out _ B1.out).mono ?_; rintro e w2 ⟨rfl, rfl⟩))
      exact bodyPost_ret (results_tmp2 rfl _ _ _) rfl ⟨rfl, B1.out⟩

set_option maxHeartbeats 1000000 in
theorem specWeightOf_any (vk vm : Value) (k m : List (List Int)) (w : World) (hk : InMat w vk k) (hm : InMat w vm m) :
    Calls Try.prog 13 #[vk, vm] w fun e w' => e = .returned (.tuple #[.int .i64 (wtOf k m), .bool (wtOfB k m)]) ∧ w = w' := by
  have HOK := hide (specImageOk_any vm m w hm)
  cases h : okB m with
  | false =>
    rw [h] at HOK
    have HF : Hid (wtOfB k m = false) := hide (by rw [wtOfB, h, Bool.false_and])
    have HV : Hid (wtOf k m = 0) := hide (by rw [wtOf, HF.out]; rfl)
    rw [HF.out, HV.out]
    obtain ⟨a, ca, rfl, -, -⟩ := hk
    obtain ⟨b, cb, rfl, -, -⟩ := hm
    generalize m.length = M at *
    generalize k.length = L at *
    clear h HF HV
    go_enter Try.func13, Try.ntmps13
    go_wp2_with (go_at_call 34; refine HOK.out.mono ?_; rintro e w1 ⟨rfl, rfl⟩)
    exact bodyPost_ret (results_tmp2 rfl _ _ _) rfl ⟨rfl, rfl⟩
  | true =>
    rw [h] at HOK
    obtain ⟨R, C, f, rfl, hI⟩ := ok_img h
    have hR1 := hI.r1; have hC1 := hI.c1; have hR := hI.r2; have hC := hI.c2
    have HWT := hide (specWeightOk_any vk k R C w hk)
    have HB : Hid (wtOfB k (mkM R C f) = wtB k R C) := hide (by rw [wtOfB, h, Bool.true_and, mkM_len, width_mkM hR1])
    cases hw : wtB k R C with
    | false =>
      rw [hw] at HWT
      have HF : Hid (wtOfB k (mkM R C f) = false) := hide (by rw [HB.out, hw])
      have HV : Hid (wtOf k (mkM R C f) = 0) := hide (by rw [wtOf, HF.out]; rfl)
      rw [HF.out, HV.out]
      obtain ⟨ak, ck, rfl, -, -⟩ := hk
      obtain ⟨gb, ob, cb, rfl, hgb, hcb⟩ := inMat_img hm (by omega) (by omega)
      obtain ⟨g0, o0, c0, hx0, -⟩ := hcb 0 (by omega)
      rw [Nat.add_zero] at hx0
      generalize k.length = L at *
      clear h hw HB HF HV hcb hI hm
      go_enter Try.func13, Try.ntmps13
      go_wp2_with (first | (go_at_call 34; refine HOK.out.mono ?_; rintro e w1 ⟨rfl, rfl⟩) | (go_at_call 9; refine HWT.out.mono ?_; rintro e w1 ⟨rfl, rfl⟩))
      exact bodyPost_ret (results_tmp2 rfl _ _ _) rfl ⟨rfl, rfl⟩
    | true =>
      rw [hw] at HWT
      obtain ⟨hkm, hWt⟩ := sizeB_wt (wtB_nat hw)
      have HF : Hid (wtOfB k (mkM R C f) = true) := hide (by rw [HB.out, hw])
      have HV : Hid (wtOf k (mkM R C f) = wtS R C (cellM k) f) := hide (by
        rw [wtOf, HF.out, if_pos rfl, mkM_len, width_mkM hR1]
        exact wtS_congr (fun _ _ _ _ => rfl) fun y x hy hx => cell_mk R C f hy hx)
      rw [HF.out, HV.out]
      have hk2 := hk
      rw [hkm] at hk2
      have HBW := hide (l09Weight_any vk vm R C (cellM k) f w hk2 hm hI hWt)
      obtain ⟨S, hS⟩ : ∃ S, S = wtS R C (cellM k) f := ⟨_, rfl⟩
      rw [← hS] at HBW ⊢
      obtain ⟨ak, ck, rfl, -, -⟩ := hk
      obtain ⟨gb, ob, cb, rfl, hgb, hcb⟩ := inMat_img hm (by omega) (by omega)
      obtain ⟨g0, o0, c0, hx0, -⟩ := hcb 0 (by omega)
      rw [Nat.add_zero] at hx0
      generalize k.length = L at *
      clear h hw HB HF HV hcb hI hm hk2 hkm hWt hS
      go_enter Try.func13, Try.ntmps13
      go_wp2_with (first | (go_at_call 34; refine HOK.out.mono ?_; rintro e w1 ⟨rfl, rfl⟩) | (go_at_call 9; refine HWT.out.mono ?_; rintro e w1 ⟨rfl, rfl⟩) | (go_at_call 35; refine HBW.out.mono ?_; rintro e w2 ⟨rfl, rfl⟩))
      exact bodyPost_ret (results_tmp2 rfl _ _ _) rfl ⟨rfl, rfl⟩
end Go.Proofs.Ytldbgkmgmhlbiaa
/-
  FindPrices, pure: what it answers.
-/
namespace Go.Proofs.Ytldbgkmgmhlbiaa
open Go.RowKit

/-- The least lengths, where no cycle is negative; nothing where the arguments are refused. -/
def fpP (k m : List (List Int)) : Option (Nat → Int) := if wtOfB k m then bell (allE m.length (widthM m) (cellM k) (cellM m) m.length) (m.length + widthM m) (fun _ => 0) else none
def fpA (k m : List (List Int)) : List Int := match fpP k m with | none => [] | some D => rowF m.length fun y => -(D y)
def fpC (k m : List (List Int)) : List Int := match fpP k m with | none => [] | some D => rowF (widthM m) fun x => D (m.length + x)
def fpB (k m : List (List Int)) : Bool := (fpP k m).isSome
theorem fpP_mk {k : List (List Int)} {R C : Nat} {f : Nat → Nat → Int} (h : wtOfB k (mkM R C f) = true) (hR : 0 < R) : fpP k (mkM R C f) = bell (allE R C (cellM k) f R) (R + C) (fun _ => 0) := by
  rw [fpP, h, if_pos rfl, mkM_len, width_mkM hR]
  congr 1
  unfold allE
  rw [List.flatMap_def, List.flatMap_def]
  congr 1
  refine List.map_congr_left fun j hj => ?_
  unfold rowE
  refine List.map_congr_left fun x hx => ?_
  rw [List.mem_range] at hj hx
  unfold edgeAt
  rw [cell_mk R C f hj hx]
/-- Where the rounds stand: so many are over. -/
theorem bell_step {E : List Edge} {k : Nat} {d : Nat → Int} (h : (rxs E (d, false)).2 = true) : bell E (k + 1) d = bell E k (rxs E (d, false)).1 := by
  rw [bell, if_pos h]
theorem bell_stop {E : List Edge} {k : Nat} {d : Nat → Int} (h : (rxs E (d, false)).2 = false) : bell E (k + 1) d = some (rxs E (d, false)).1 := by
  rw [bell, if_neg (by rw [h]; decide)]
/-- The lengths behind so many rounds. -/
def roundsD (E : List Edge) : Nat → (Nat → Int)
  | 0 => fun _ => 0
  | k + 1 => (rxs E (roundsD E k, false)).1
theorem roundsD_le (E : List Edge) : ∀ k v, roundsD E k v ≤ 0
  | 0, _ => Int.le_refl _
  | k + 1, v => Int.le_trans (rxs_le E (roundsD E k, false) v) (roundsD_le E k v)
theorem roundsD_low {E : List Edge} {n : Nat} (hin : ∀ e ∈ E, e.s < n ∧ e.t < n ∧ -100 ≤ e.l ∧ e.l ≤ 100) (hlen : E.length ≤ 25) : ∀ (k v : Nat), v < n → -((2500 * k : Nat) : Int) ≤ roundsD E k v
  | 0, _, _ => by simp [roundsD]
  | k + 1, v, hv => by
    have h1 := rxs_low E (roundsD E k, false) ((2500 * k : Nat) : Int) (fun u hu => roundsD_low hin hlen k u hu) (fun e he => ⟨(hin e he).1, (hin e he).2.2.1⟩) v hv
    show _ ≤ (rxs E (roundsD E k, false)).1 v
    omega
/-- The call answers two lists of its own, apart, and a bool. -/
def FpRes (a b : List Int) (ok : Bool) (w : World) (e : Ending) (w' : World) : Prop :=
  ∃ u0 u1, e = .returned (.tuple #[u0, u1, .bool ok]) ∧ w'.ownsRow w.heap.size 3 1 u0 a.length (ints a) ∧ w'.ownsRow w.heap.size 3 1 u1 b.length (ints b) ∧ (u0.ownBlock = none ∨ u0.ownBlock ≠ u1.ownBlock) ∧ Below w.heap.size w w'
theorem fpRes_nil {w w' : World} (h : Below w.heap.size w w') : FpRes [] [] false w (.returned (.tuple #[.slice none 0 0, .slice none 0 0, .bool false])) w' := ⟨_, _, rfl, World.ownsRow_nil _ _ _ _, World.ownsRow_nil _ _ _ _, .inl rfl, h⟩
end Go.Proofs.Ytldbgkmgmhlbiaa
/-
  FindPrices of the program.
-/
namespace Go.Proofs.Ytldbgkmgmhlbiaa
open Go.RowKit

/-- The stops of the rows and of the columns, apart. -/
theorem net_start {w2 w3 : World} {lo R C : Nat} {v2 v3 : Value} {b2 b3 : Nat → Nat} (h2 : StopsB w2 lo v2 R b2) (h3 : StopsB w3 w2.heap.size v3 C b3) (hb : Below w2.heap.size w2 w3) (hlo : lo ≤ w2.heap.size) :
    ∃ B, Net w3 (R + C) B (fun _ => 0) ∧ w3.ownsRow lo 70 1 v2 R (ptrsB B R R) ∧ w3.ownsRow lo 70 1 v3 C (ptrsB (fun i => B (R + i)) C C) ∧ ∀ v, v < R + C → lo ≤ B v := by
  have hlt : ∀ v, v < R → b2 v < w2.heap.size := fun v hv => (h2.box v hv).2.lt
  refine ⟨fun v => if v < R then b2 v else b3 (v - R), ⟨fun v hv => ?_, fun u v hu hv he => ?_⟩, ?_, ?_, fun v hv => ?_⟩
  · by_cases e : v < R
    · simp only [if_pos e]; exact (hb.block _ (hlt v e)).trans (h2.box v e).2
    · simp only [if_neg e]; exact (h3.box (v - R) (by omega)).2
  · by_cases e1 : u < R
    · by_cases e2 : v < R
      · simp only [if_pos e1, if_pos e2] at he
        rcases Nat.lt_trichotomy u v with h | h | h
        · have := h2.inj u v h e2; omega
        · exact h
        · have := h2.inj v u h e1; omega
      · simp only [if_pos e1, if_neg e2] at he
        have := hlt u e1; have := (h3.box (v - R) (by omega)).1; omega
    · by_cases e2 : v < R
      · simp only [if_neg e1, if_pos e2] at he
        have := hlt v e2; have := (h3.box (u - R) (by omega)).1; omega
      · simp only [if_neg e1, if_neg e2] at he
        rcases Nat.lt_trichotomy u v with h | h | h
        · have := h3.inj (u - R) (v - R) (by omega) (by omega); omega
        · exact h
        · have := h3.inj (v - R) (u - R) (by omega) (by omega); omega
  · rw [ptrsB_congr (b' := b2) fun i hi => by simp only [if_pos hi]]
    exact own_below h2.own hb
  · rw [ptrsB_congr (b := fun i => if R + i < R then b2 (R + i) else b3 (R + i - R)) (b' := b3) fun i hi => by rw [if_neg (by omega), Nat.add_sub_cancel_left]]
    exact own_base h3.own hlo
  · by_cases e : v < R
    · simp only [if_pos e]; exact (h2.box v e).1
    · simp only [if_neg e]; exact Nat.le_trans hlo (h3.box (v - R) (by omega)).1

set_option maxRecDepth 100000 in
set_option maxHeartbeats 4000000 in
theorem implFind_any (vk vm : Value) (k m : List (List Int)) (w : World) (hk : InMat w vk k) (hm : InMat w vm m) :
    Calls Try.prog 25 #[vk, vm] w (FpRes (fpA k m) (fpC k m) (fpB k m) w) := by
  have HWO := hide (implWeightOf_any vk vm k m w hk hm)
  cases h : wtOfB k m with
  | false =>
    rw [h] at HWO
    have HP : fpP k m = none := by rw [fpP, h]; rfl
    have HA : Hid (fpA k m = []) := hide (by rw [fpA, HP])
    have HC : Hid (fpC k m = []) := hide (by rw [fpC, HP])
    have HB : Hid (fpB k m = false) := hide (by rw [fpB, HP]; rfl)
    rw [HA.out, HC.out, HB.out]
    obtain ⟨x, hx⟩ : ∃ x, x = wtOf k m := ⟨_, rfl⟩
    rw [← hx] at HWO
    obtain ⟨ak, ck, rfl, -, -⟩ := hk
    obtain ⟨am, cm, rfl, -, -⟩ := hm
    generalize k.length = n1 at *
    generalize m.length = n2 at *
    clear hx h HP HA HC HB
    go_enter Try.func25, Try.ntmps25
    go_wp2_with (go_at_call 14; refine HWO.out.mono ?_; rintro e w1 ⟨rfl, b1⟩; have B1 := hide b1; clear b1)
    refine bodyPost_ret (results_tmp3 rfl _ _ _) rfl ⟨.slice none 0 0, .slice none 0 0, rfl, World.ownsRow_nil _ _ _ _, World.ownsRow_nil _ _ _ _, .inl rfl, B1.out⟩
  | true =>
    rw [h] at HWO
    have hok : okB m = true := by unfold wtOfB at h; rw [Bool.and_eq_true] at h; exact h.1
    obtain ⟨R, C, f, rfl, hI⟩ := ok_img hok
    have hR1 := hI.r1; have hC1 := hI.c1; have hR := hI.r2; have hC := hI.c2
    have hsz : sizeB k R C (-100) 100 = true := by
      have h' := h
      unfold wtOfB at h'
      rw [Bool.and_eq_true, mkM_len, width_mkM hR1] at h'
      exact wtB_nat h'.2
    obtain ⟨hkm, hWt⟩ := sizeB_wt hsz
    have HPP := hide (fpP_mk h hR1)
    obtain ⟨x, hx⟩ : ∃ x, x = wtOf k (mkM R C f) := ⟨_, rfl⟩
    rw [← hx] at HWO
    have hk2 := hk
    rw [hkm] at hk2
    obtain ⟨g, hg⟩ : ∃ g, g = cellM k := ⟨_, rfl⟩
    rw [← hg] at hk2 hWt HPP
    obtain ⟨E, hE⟩ : ∃ E, E = allE R C g f R := ⟨_, rfl⟩
    have hEin : ∀ e ∈ E, e.s < R + C ∧ e.t < R + C ∧ -100 ≤ e.l ∧ e.l ≤ 100 := fun e he => by rw [hE] at he; exact (allE_in hWt e he).1
    have hElen : E.length = R * C := by rw [hE, allE_len]
    have hE0 : 0 < E.length := by rw [hElen]; exact Nat.mul_pos hR1 hC1
    have hE25 : E.length ≤ 25 := by rw [hElen]; exact Nat.le_trans (Nat.mul_le_mul hR hC) (by decide)
    rw [← hE] at HPP
    have HSB := hide fun (vr vc : Value) (lo : Nat) (B : Nat → Nat) (w' : World) (hw : Below w.heap.size w w') (h1 : w'.ownsRow lo 70 1 vr R (ptrsB B R R)) (h2 : w'.ownsRow lo 70 1 vc C (ptrsB (fun i => B (R + i)) C C)) =>
      stepsBetween_any vr vc vk vm R C lo B g f w' h1 h2 (inMat_below hk2 hw) (inMat_below hm hw) hI hWt
    rw [← hE] at HSB
    obtain ⟨ga, oa, ca, hvk, hga, hca⟩ := inMat_img hk2 (by omega) (by omega)
    obtain ⟨gb, ob, cb, hvm, hgb, hcb⟩ := inMat_img hm (by omega) (by omega)
    subst hvk hvm
    obtain ⟨g0, o0, c0, hx0, -⟩ := hcb 0 (by omega)
    rw [Nat.add_zero] at hx0
    have HX := hide fun w' (hw : Below w.heap.size w w') => below_cell hw hgb hx0
    have HSR := hide fun (w' : World) => stopsFor_any R w' hR
    have HSC := hide fun (w' : World) => stopsFor_any C w' hC
    have HEI := hide hEin; have HE0 := hide hE0; have HE25 := hide hE25
    clear hx hg h hE hkm hsz hok hk hk2 hm hca hcb hx0 hWt hI hEin hE0 hE25 hElen
    go_enter Try.func25, Try.ntmps25
    go_wp2_with (first | (go_at_call 14; refine HWO.out.mono ?_; rintro e w1 ⟨rfl, b1⟩; have B1 := hide b1; have hx0 := HX.out _ b1; have hgb1 := Nat.lt_of_lt_of_le hgb b1.size; clear b1) | fail)
    have HXD := hide fun (w2 : World) (h : Below w1.drew.heap.size w1.drew w2) => below_cell (w := w1.drew) (w' := w2) h hgb1 hx0
    go_region_with (first | (with_reducible refine (HSR.out _).mono ?_; rintro e2 w2 ⟨v2, b2, rfl, hs2, hb2⟩; have hx2 := HXD.out _ hb2) | (with_reducible refine (HSC.out _).mono ?_; rintro e3 w3 ⟨v3, b3, rfl, hs3, hb3⟩))
    all_goals
      have hlo2 : w.heap.size ≤ w1.drew.heap.size := B1.out.size
      obtain ⟨B, hN, ho2, ho3, hBlo⟩ := net_start hs2 hs3 hb3 hb2.size
      obtain ⟨a2, q2, rfl⟩ := own_slice ho2
      obtain ⟨a3, q3, rfl⟩ := own_slice ho3
      have BW3 := hide (B1.out.trans ((show Below w1.heap.size w1 w3 from (below_drew (Below.refl _ w1)).trans (hb2.trans (hb3.mono hb2.size))).mono B1.out.size))
      have HS4 := hide (HSB.out (.slice a2 R q2) (.slice a3 C q3) w.heap.size B w3 BW3.out (own_base ho2 hlo2) (own_base ho3 hlo2))
      have HN := hide hN; have HO2 := hide (own_base ho2 hlo2); have HO3 := hide (own_base ho3 hlo2)
      have HBL := hide fun (k : Nat) (hk : InB (R + C) B k) => (show w.heap.size ≤ k by obtain ⟨v, hv, rfl⟩ := hk; exact Nat.le_trans hlo2 (hBlo v hv))
      clear hx2 hs2 hs3 hb2 hb3 hN ho2 ho3 hBlo hlo2 hx0 HX HXD
      go_wp2_with fail
      refine HS4.out.mono ?_
      rintro e4 w4 ⟨v4, rfl, hE4, hb4⟩
      obtain ⟨a4, q4, rfl⟩ := ownA_slice hE4
      have HE4 := hide hE4
      have HN4 := hide (net_below HN.out hb4)
      have HP2 := hide (own_below HO2.out hb4)
      have HP3 := hide (own_below HO3.out hb4)
      have BW4 := hide (BW3.out.trans (hb4.mono BW3.out.size))
      clear hE4 hb4
      go_wp2
      go_loopw [38] (fun i w' => ∃ j : Nat, j ≤ R + C ∧ i = .int .i64 j ∧ Net w' (R + C) B (roundsD E j) ∧ Onl (InB (R + C) B) w4 w' ∧ bell E (R + C) (fun _ => 0) = bell E (R + C - j) (roundsD E j)) (fun i _ => R + C - (intOf i).toNat)
      case atStart => exact ⟨0, Nat.zero_le _, rfl, HN4.out, onl_refl _ _, rfl⟩
      case round =>
        obtain ⟨j, hj, rfl, hnet, hon, hbell⟩ := hrel
        have HNET := hide hnet; have HON := hide hon; have HBE := hide hbell
        clear hnet hon hbell
        by_cases hlt : j < R + C
        · have HSH := hide (shortened_any (.slice a4 E.length q4) (R + C) w3.heap.size (2500 * j) B (roundsD E j) E wr HNET.out (own_onl HE4.out HN4.out (by decide) HON.out) HEI.out HE0.out HE25.out (fun v hv => ⟨roundsD_low HEI.out HE25.out j v hv, roundsD_le E j v⟩) (by omega))
          obtain ⟨fl, hfl⟩ : ∃ fl, fl = (rxs E (roundsD E j, false)).2 := ⟨_, rfl⟩
          have HFL := hide hfl
          rw [← hfl] at HSH
          clear hfl
          go_wp2_with fail
          refine HSH.out.mono ?_
          rintro e5 w5 ⟨rfl, hN5, hO5⟩
          have HN5 := hide (show Net w5 (R + C) B (roundsD E (j + 1)) from hN5)
          have HO5 := hide (onl_trans HON.out hO5 (fun _ h => h) (fun _ h => h))
          clear hN5 hO5
          cases fl with
          | true =>
            have HBE2 := hide (show bell E (R + C) (fun _ => 0) = bell E (R + C - (j + 1)) (roundsD E (j + 1)) by
              rw [HBE.out, show R + C - j = (R + C - (j + 1)) + 1 by omega, bell_step HFL.out.symm]; rfl)
            go_wp2
            go_roundw
            case rel => exact ⟨j + 1, by omega, by go_num, HN5.out, HO5.out, HBE2.out⟩
            case measure => simp [intOf]; omega
          | false =>
            have HBE2 := hide (show fpP k (mkM R C f) = some (roundsD E (j + 1)) by
              rw [HPP.out, HBE.out, show R + C - j = (R + C - (j + 1)) + 1 by omega, bell_stop HFL.out.symm]; rfl)
            have hlow := fun v (hv : v < R + C) => roundsD_low HEI.out HE25.out (j + 1) v hv
            have hup := roundsD_le E (j + 1)
            have HA := hide (show fpA k (mkM R C f) = rowF R (fun y => -1 * roundsD E (j + 1) y) by
              unfold fpA; rw [HBE2.out, mkM_len]; exact rowF_congr fun i _ => by rw [Int.neg_one_mul])
            have HCC := hide (show fpC k (mkM R C f) = rowF C (fun x => 1 * roundsD E (j + 1) (R + x)) by
              unfold fpC; rw [HBE2.out, mkM_len, width_mkM hR1]; exact rowF_congr fun i _ => by rw [Int.one_mul])
            have HBB := hide (show fpB k (mkM R C f) = true by unfold fpB; rw [HBE2.out]; rfl)
            have HQ1 := hide (pricesAt_any (.slice a2 R q2) R w.heap.size B (roundsD E (j + 1)) (-1) w5 (.inr rfl) ⟨hR1, hR⟩ (own_onl HP2.out HN4.out (by decide) HO5.out) (fun i hi => HN5.out.box i (by omega)) (fun i hi => by have := hlow i (by omega); have := hup i; omega))
            have HQ2 := hide fun (w6 : World) (h6 : Below w5.heap.size w5 w6) => pricesAt_any (.slice a3 C q3) C w.heap.size (fun i => B (R + i)) (fun i => roundsD E (j + 1) (R + i)) 1 w6 (.inl rfl) ⟨hC1, hC⟩ (own_below (own_onl HP3.out HN4.out (by decide) HO5.out) h6) (fun i hi => (net_below HN5.out h6).box (R + i) (by omega)) (fun i hi => by have := hlow (R + i) (by omega); have := hup (R + i); omega)
            have BW5 := hide (below_onl BW4.out HO5.out HBL.out)
            clear hlow hup HBE2 HBE HFL HSH
            go_wp2_with fail
            refine HQ1.out.mono ?_
            rintro e6 w6 ⟨u6, rfl, ho6, hb6⟩
            rw [rowF_len] at ho6
            obtain ⟨a6, q6, rfl⟩ := own_slice ho6
            have HO6 := hide ho6; have HB6 := hide hb6
            have HQ3 := hide (HQ2.out w6 hb6)
            clear ho6 hb6 HQ1 HQ2
            go_wp2_with fail
            refine HQ3.out.mono ?_
            rintro e7 w7 ⟨u7, rfl, ho7, hb7⟩
            rw [rowF_len] at ho7
            obtain ⟨a7, q7, rfl⟩ := own_slice ho7
            have H7 := hide (And.intro ho7 hb7)
            clear ho7 hb7 HQ3
            go_wp2
            refine bodyPost_ret (results_tmp3 rfl _ _ _) rfl ?_
            rw [HA.out, HCC.out, HBB.out]
            refine ⟨.slice a6 R q6, .slice a7 C q7, rfl, ?_, ?_, ?_, ?_⟩
            · rw [rowF_len]; exact own_base (own_below HO6.out H7.out.2) BW5.out.size
            · rw [rowF_len]; exact own_base H7.out.1 (Nat.le_trans BW5.out.size HB6.out.size)
            · cases hob : (Value.slice a6 R q6).ownBlock with
              | none => exact .inl rfl
              | some b =>
                refine .inr fun e => ?_
                have l1 := (HO6.out.lt b hob).2
                have l2 := (H7.out.1.lt b e.symm).1
                omega
            · exact BW5.out.trans ((HB6.out.trans (H7.out.2.mono HB6.out.size)).mono BW5.out.size)
        · have hjn : j = R + C := by omega
          have HBE2 : fpP k (mkM R C f) = none := by rw [HPP.out, HBE.out, hjn, Nat.sub_self]; rfl
          have HA := hide (show fpA k (mkM R C f) = [] by rw [fpA, HBE2])
          have HCC := hide (show fpC k (mkM R C f) = [] by rw [fpC, HBE2])
          have HBB := hide (show fpB k (mkM R C f) = false by rw [fpB, HBE2]; rfl)
          have BW5 := hide (below_onl BW4.out HON.out HBL.out)
          clear HBE2 hjn
          go_wp2
          refine bodyPost_ret (results_tmp3 rfl _ _ _) rfl ?_
          rw [HA.out, HCC.out, HBB.out]
          exact ⟨.slice none 0 0, .slice none 0 0, rfl, World.ownsRow_nil _ _ _ _, World.ownsRow_nil _ _ _ _, .inl rfl, BW5.out⟩
end Go.Proofs.Ytldbgkmgmhlbiaa
/-
  A round over the cells, of the model: l09Relax.
-/
namespace Go.Proofs.Ytldbgkmgmhlbiaa
open Go.RowKit

theorem own_cellOther {w : World} {base e n z g k : Nat} {v u : Value} {xs : List Value} (h : w.ownsRow base e z v n xs) (hne : v.ownBlock ≠ some g) : (w.setCell ⟨g, k, none⟩ u).ownsRow base e z v n xs := by
  refine ⟨h.1, ?_⟩
  rcases h.2 with hn | ⟨b, cap, cur, hv, hbg, hg, r⟩
  · exact .inl hn
  · refine .inr ⟨b, cap, cur, hv, hbg, ?_, r⟩
    rw [Below.heap_setCell _ _ _ _ (fun e => hne (by rw [hv]; exact congrArg some e))]
    exact hg
/-- The lengths as two lists. -/
structure Two (w : World) (lo gr gc R C cr cc : Nat) (D : Nat → Int) : Prop where
  row : w.ownsRow lo 3 1 (.slice (some ⟨gr, 0, none⟩) R cr) R (ints (rowF R D))
  col : w.ownsRow lo 3 1 (.slice (some ⟨gc, 0, none⟩) C cc) C (ints (rowF C fun x => D (R + x)))
theorem two_col {w : World} {lo gr gc R C cr cc x : Nat} {D : Nat → Int} {v : Int} (h : Two w lo gr gc R C cr cc D) (hne : gr ≠ gc) : Two (w.setCell ⟨gc, x, none⟩ (.int .i64 v)) lo gr gc R C cr cc (updD D (R + x) v) := by
  constructor
  · have := own_cellOther (g := gc) (k := x) (u := .int .i64 v) h.row (by simp [Value.ownBlock, hne])
    rw [show rowF R (updD D (R + x) v) = rowF R D from rowF_congr fun i hi => by unfold updD; rw [if_neg (by omega)]]
    exact this
  · have := (h.col.stored x (.int .i64 v)).1
    rw [ints_set, rowF_set] at this
    rw [show (rowF C fun j => updD D (R + x) v (R + j)) = rowF C fun j => if j = x then v else D (R + j) from rowF_congr fun i _ => by
      unfold updD
      by_cases e : i = x
      · subst e; rw [if_pos rfl, if_pos rfl]
      · rw [if_neg (by omega), if_neg e]]
    exact this
theorem two_row {w : World} {lo gr gc R C cr cc y : Nat} {D : Nat → Int} {v : Int} (h : Two w lo gr gc R C cr cc D) (hne : gr ≠ gc) (hy : y < R) : Two (w.setCell ⟨gr, y, none⟩ (.int .i64 v)) lo gr gc R C cr cc (updD D y v) := by
  constructor
  · have := (h.row.stored y (.int .i64 v)).1
    rw [ints_set, rowF_set] at this
    rw [show rowF R (updD D y v) = rowF R fun j => if j = y then v else D j from rowF_congr fun i _ => rfl]
    exact this
  · have := own_cellOther (g := gr) (k := y) (u := .int .i64 v) h.col (by simp [Value.ownBlock]; omega)
    rw [show (rowF C fun j => updD D y v (R + j)) = rowF C fun j => D (R + j) from rowF_congr fun i _ => by unfold updD; rw [if_neg (by omega)]]
    exact this
theorem two_cells {w : World} {lo gr gc R C cr cc : Nat} {D : Nat → Int} (h : Two w lo gr gc R C cr cc D) : (∀ y, y < R → w.cell? ⟨gr, y, none⟩ = some (.int .i64 (D y))) ∧ (∀ x, x < C → w.cell? ⟨gc, x, none⟩ = some (.int .i64 (D (R + x)))) ∧ (∀ y, w.frozen? ⟨gr, y, none⟩ = false) ∧ ∀ x, w.frozen? ⟨gc, x, none⟩ = false := by
  refine ⟨fun y hy => ?_, fun x hx => ?_, fun y => h.row.frozenAt y, fun x => h.col.frozenAt x⟩
  · have := cell_held h.row hy
    rw [this]; simp [ints, rowF, hy]
  · have := cell_held h.col hx
    rw [this]; simp [ints, rowF, hx]
theorem two_drew {w : World} {lo gr gc R C cr cc n : Nat} {D : Nat → Int} (h : Two w lo gr gc R C cr cc D) : Two (w.drewN n) lo gr gc R C cr cc D := ⟨h.row, h.col⟩
theorem two_drew1 {w : World} {lo gr gc R C cr cc : Nat} {D : Nat → Int} (h : Two w lo gr gc R C cr cc D) : Two w.drew lo gr gc R C cr cc D := ⟨h.row, h.col⟩

set_option maxRecDepth 100000 in
set_option maxHeartbeats 4000000 in
theorem relax_any (vk vm : Value) (R C gr gc cr cc M : Nat) (g f : Nat → Nat → Int) (D0 : Nat → Int) (w0 w : World) (hw : Below w0.heap.size w0 w) (hk : InMat w0 vk (mkM R C g)) (hm : InMat w0 vm (mkM R C f)) (hI : Img R C f) (hW : Wt R C g)
    (hT : Two w w0.heap.size gr gc R C cr cc D0) (hne : gr ≠ gc) (hd : ∀ v, v < R + C → -(M : Int) ≤ D0 v ∧ D0 v ≤ 0) (hM : M ≤ 90000) :
    Calls Try.prog 44 #[vk, vm, .slice (some ⟨gr, 0, none⟩) R cr, .slice (some ⟨gc, 0, none⟩) C cc] w fun e w' => e = .returned (.bool (rxs (allE R C g f R) (D0, false)).2) ∧ Two w' w0.heap.size gr gc R C cr cc (rxs (allE R C g f R) (D0, false)).1 ∧ Below w0.heap.size w0 w' := by
  have hR1 := hI.r1; have hC1 := hI.c1; have hR := hI.r2; have hC := hI.c2
  obtain ⟨ga, oa, ca, rfl, hga, hca⟩ := inMat_img hk (by omega) (by omega)
  obtain ⟨gb, ob, cb, rfl, hgb, hcb⟩ := inMat_img hm (by omega) (by omega)
  have HA := hide hca; have HM := hide hcb; have HI := hide hI; have HW := hide hW; have HT := hide hT; have HNE := hide hne; have HBW := hide hw
  have HLR := hide (show w0.heap.size ≤ gr from (hT.row.lt gr rfl).1)
  have HLC := hide (show w0.heap.size ≤ gc from (hT.col.lt gc rfl).1)
  have HIN := hide (allE_in hW (f := f))
  have HLOW := hide fun (y x : Nat) (hy : y < R) (hx : x ≤ C) (v : Nat) (hv : v < R + C) => (show -((M : Int) + 2500) ≤ (rxs (allE R C g f y ++ rowE R g f y x) (D0, false)).1 v ∧ (rxs (allE R C g f y ++ rowE R g f y x) (D0, false)).1 v ≤ 0 by
    have hsub : ∀ e ∈ allE R C g f y ++ rowE R g f y x, e ∈ allE R C g f R := fun e he => by
      rw [List.mem_append] at he
      rcases he with he | he
      · obtain ⟨j, z, hj, hz, rfl⟩ := mem_allE.1 he
        exact mem_allE.2 ⟨j, z, by omega, hz, rfl⟩
      · unfold rowE at he
        rw [List.mem_map] at he
        obtain ⟨z, hz, rfl⟩ := he
        rw [List.mem_range] at hz
        exact mem_allE.2 ⟨y, z, hy, by omega, rfl⟩
    have h1 := rxs_low (allE R C g f y ++ rowE R g f y x) (D0, false) (M : Int) (fun u hu => (hd u hu).1) (fun e he => ⟨(HIN.out e (hsub e he)).1.1, (HIN.out e (hsub e he)).1.2.2.1⟩) v hv
    have h2 : (allE R C g f y ++ rowE R g f y x).length ≤ 25 := by
      rw [List.length_append, allE_len, rowE_len]
      have : y * C ≤ 4 * 5 := Nat.mul_le_mul (by omega) (by omega)
      omega
    have h3 := rxs_le (allE R C g f y ++ rowE R g f y x) (D0, false) v
    have h4 := (hd v hv).2
    simp only at h3
    omega)
  have HES := hide fun y => allE_succ R C g f y
  have HRS := hide fun y x => rowE_succ R g f y x
  have HR0 := hide fun y => (show rowE R g f y 0 = [] from rfl)
  have HAT := hide fun y x => (show edgeAt R g f y x = if f y x = 1 then ⟨y, R + x, g y x⟩ else ⟨R + x, y, -(g y x)⟩ from rfl)
  have HN0 : Hid (allE R C g f 0 = []) := hide rfl
  obtain ⟨AE, hAE⟩ : ∃ AE, AE = allE R C g f := ⟨_, rfl⟩
  obtain ⟨RE, hRE⟩ : ∃ RE, RE = rowE R g f := ⟨_, rfl⟩
  obtain ⟨EA, hEA⟩ : ∃ EA, EA = edgeAt R g f := ⟨_, rfl⟩
  rw [← hAE] at HLOW HES HN0 ⊢
  rw [← hRE] at HLOW HES HRS HR0
  rw [← hEA] at HRS HAT
  clear hk hm hI hW hca hcb hT hne hd hAE hRE hEA hw HIN
  go_enter Try.func44, Try.ntmps44
  go_wp2
  go_loopw [9, 16] (fun s i w' => ∃ y : Nat, y ≤ R ∧ i = .int .i64 y ∧ s = .bool (rxs (AE y) (D0, false)).2 ∧ Two w' w0.heap.size gr gc R C cr cc (rxs (AE y) (D0, false)).1 ∧ Below w0.heap.size w0 w') (fun _ i _ => R - (intOf i).toNat)
  case atStart => exact ⟨0, Nat.zero_le _, rfl, by rw [HN0.out]; rfl, by rw [HN0.out]; exact HT.out, HBW.out⟩
  case round =>
    obtain ⟨y, hy, rfl, rfl, ht, hb⟩ := hrel
    have HT1 := hide ht; have HB1 := hide hb
    clear ht hb
    by_cases hlt : y < R
    · have hyI : (y : Int) < R := by omega
      obtain ⟨g', o', c', hx, hg', hcc⟩ := HM.out y hlt
      have hx := below_cell HB1.out hgb hx
      have HCC := hide hcc
      clear hcc
      obtain ⟨wo, rfl⟩ : ∃ wo : World, wo = wr := ⟨_, rfl⟩
      have HFL : Hid ((rxs (AE y) (D0, false)).2 = (rxs (AE y ++ RE y 0) (D0, false)).2) := hide (by rw [HR0.out, List.append_nil])
      have HTL : Hid (Two wo w0.heap.size gr gc R C cr cc (rxs (AE y ++ RE y 0) (D0, false)).1) := hide (by rw [HR0.out, List.append_nil]; exact HT1.out)
      go_wp2
      go_loopw [9, 23] (fun s i w' => ∃ x : Nat, x ≤ C ∧ i = .int .i64 x ∧ s = .bool (rxs (AE y ++ RE y x) (D0, false)).2 ∧ Two w' w0.heap.size gr gc R C cr cc (rxs (AE y ++ RE y x) (D0, false)).1 ∧ Below w0.heap.size w0 w') (fun _ i _ => C - (intOf i).toNat)
      case atStart => exact ⟨0, Nat.zero_le _, rfl, by rw [HFL.out], HTL.out, HB1.out⟩
      case round =>
        clear HFL HTL HT1 HB1 hx
        obtain ⟨x, hxx, rfl, rfl, ht, hb⟩ := hrel
        by_cases hlx : x < C
        · have hxI : (x : Int) < C := by omega
          have hz := below_cell hb hg' (HCC.out x hlx)
          obtain ⟨g2, o2, c2, hx2, hg2, hc2⟩ := HA.out y hlt
          have hx2 := below_cell hb hga hx2
          have hz2 := below_cell hb hg2 (hc2 x hlx)
          have b1 := HW.out.lo y x hlt hlx
          have b2 := HW.out.hi y x hlt hlx
          have h01 := HI.out.cell y x hlt hlx
          obtain ⟨q1, q2⟩ := HLOW.out y x hlt hxx y (by omega)
          obtain ⟨q3, q4⟩ := HLOW.out y x hlt hxx (R + x) (by omega)
          have HRX := hide (show AE y ++ RE y (x + 1) = (AE y ++ RE y x) ++ [EA y x] by rw [HRS.out, List.append_assoc])
          have HEE := hide (HAT.out y x)
          obtain ⟨F0, hF0⟩ : ∃ F0, F0 = AE y ++ RE y x := ⟨_, rfl⟩
          rw [← hF0] at ht q1 q2 q3 q4 HRX ⊢
          obtain ⟨D, hD⟩ : ∃ D, D = (rxs F0 (D0, false)).1 := ⟨_, rfl⟩
          obtain ⟨fl, hfl⟩ : ∃ fl, fl = (rxs F0 (D0, false)).2 := ⟨_, rfl⟩
          have HNX := hide (show rxs (AE y ++ RE y (x + 1)) (D0, false) = rx (D, fl) (EA y x) by
            rw [HRX.out, rxs_append, hD, hfl]; rfl)
          rw [← hD] at ht q1 q2 q3 q4
          rw [← hfl]
          obtain ⟨k1, k2, k3, k4⟩ := two_cells ht
          have ky := k1 y hlt
          have kx := k2 x hlx
          have kfr := k3 y
          have kfc := k4 x
          have HT2 := hide ht; have HB2 := hide hb
          obtain ⟨s, hs1⟩ : ∃ s, s = f y x := ⟨_, rfl⟩
          obtain ⟨t, ht1⟩ : ∃ t, t = g y x := ⟨_, rfl⟩
          obtain ⟨dy, hdy⟩ : ∃ dy, dy = D y := ⟨_, rfl⟩
          obtain ⟨dx, hdx⟩ : ∃ dx, dx = D (R + x) := ⟨_, rfl⟩
          rw [← hs1] at hz h01 HEE
          rw [← ht1] at hz2 b1 b2 HEE
          rw [← hdy] at q1 q2 ky
          rw [← hdx] at q3 q4 kx
          have HDY := hide hdy; have HDX := hide hdx
          clear hc2 hs1 ht1 hdy hdx hF0 hD hfl k1 k2 k3 k4 ht hb
          rcases h01 with rfl | rfl
          · have HED : Hid (EA y x = ⟨R + x, y, -t⟩) := hide (by rw [HEE.out, if_neg (by decide)])
            by_cases hcmp : dx - t < dy
            · have HN2 := hide (show rxs (AE y ++ RE y (x + 1)) (D0, false) = (updD D y (dx - t), true) by
                rw [HNX.out, HED.out]
                unfold rx
                have e1 : D (R + x) + -t < D y := by rw [← HDX.out, ← HDY.out]; omega
                simp only [if_pos e1]
                rw [← HDX.out, Int.sub_eq_add_neg])
              have HTD := hide fun (w9 : World) (h : Two w9 w0.heap.size gr gc R C cr cc D) => two_row (v := dx - t) h HNE.out hlt
              clear HNX HED HEE
              go_wp2
              go_quiet (fail)
              go_wp2
              go_quiet (fail)
              go_wp2
              go_region
              all_goals go_wp2
              all_goals exact ⟨⟨x + 1, by omega, by go_num, by rw [HN2.out], by rw [HN2.out]; exact HTD.out _ (two_drew HT2.out), Below.setCell (below_draws HB2.out _) HLR.out _⟩, by simp [intOf]; omega⟩
            · have HN2 := hide (show rxs (AE y ++ RE y (x + 1)) (D0, false) = (D, fl) by
                rw [HNX.out, HED.out]
                unfold rx
                have e1 : ¬ D (R + x) + -t < D y := by rw [← HDX.out, ← HDY.out]; omega
                simp only [if_neg e1])
              clear HNX HED HEE
              go_wp2
              go_quiet (fail)
              go_wp2
              go_quiet (fail)
              go_wp2
              exact ⟨⟨x + 1, by omega, by go_num, by rw [HN2.out], by rw [HN2.out]; exact two_drew HT2.out, below_draws HB2.out _⟩, by simp [intOf]; omega⟩
          · have HED : Hid (EA y x = ⟨y, R + x, t⟩) := hide (by rw [HEE.out, if_pos rfl])
            by_cases hcmp : dy + t < dx
            · have HN2 := hide (show rxs (AE y ++ RE y (x + 1)) (D0, false) = (updD D (R + x) (dy + t), true) by
                rw [HNX.out, HED.out]
                unfold rx
                have e1 : D y + t < D (R + x) := by rw [← HDX.out, ← HDY.out]; omega
                simp only [if_pos e1]
                rw [← HDY.out])
              have HTD := hide fun (w9 : World) (h : Two w9 w0.heap.size gr gc R C cr cc D) => two_col (x := x) (v := dy + t) h HNE.out
              clear HNX HED HEE
              go_wp2
              go_quiet (fail)
              go_wp2
              go_region
              all_goals go_wp2
              all_goals go_quiet (fail)
              all_goals go_wp2
              all_goals exact ⟨⟨x + 1, by omega, by go_num, by rw [HN2.out], by rw [HN2.out]; exact two_drew (HTD.out _ (two_drew HT2.out)), below_draws (Below.setCell (below_draws HB2.out _) HLC.out _) _⟩, by simp [intOf]; omega⟩
            · have HN2 := hide (show rxs (AE y ++ RE y (x + 1)) (D0, false) = (D, fl) by
                rw [HNX.out, HED.out]
                unfold rx
                have e1 : ¬ D y + t < D (R + x) := by rw [← HDX.out, ← HDY.out]; omega
                simp only [if_neg e1])
              clear HNX HED HEE
              go_wp2
              go_quiet (fail)
              go_wp2
              go_quiet (fail)
              go_wp2
              exact ⟨⟨x + 1, by omega, by go_num, by rw [HN2.out], by rw [HN2.out]; exact two_drew HT2.out, below_draws HB2.out _⟩, by simp [intOf]; omega⟩
        · obtain rfl : x = C := by omega
          have HT2 := hide ht; have HB2 := hide hb
          clear ht hb
          go_wp2
          go_roundw
          case rel => exact ⟨y + 1, by omega, by go_num, by rw [HES.out], by rw [HES.out]; exact HT2.out, HB2.out⟩
          case measure => simp [intOf]; omega
    · obtain rfl : y = R := by omega
      go_wp2
      go_ret
      exact ⟨rfl, HT1.out, HB1.out⟩
end Go.Proofs.Ytldbgkmgmhlbiaa
