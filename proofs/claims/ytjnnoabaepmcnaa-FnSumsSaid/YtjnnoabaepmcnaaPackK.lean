/-
  Texts of this claim, one behind the other: AddI, Less, BgP, AghI, TwoP, ShSl.
-/
import Derived.Test.YtjnnoabaepmcnaaPackJ
import Derived.Test.YtjnnoabaepmcnaaPackG
import Derived.Test.YtjnnoabaepmcnaaPackD
import Derived.Test.YtjnnoabaepmcnaaPackE
import Derived.Shelf.Slices.Clone
import Derived.Ground.Names2Prog
import Derived.Test.YtjnnoabaepmcnaaProg
/-
  grid.add of the program: a grid is added into another one.
-/
namespace Go.Proofs.Ytjnnoabaepmcnaa
open Go.RowKit
set_option maxRecDepth 100000

/-- A place in a variable. -/
def PlaceAt (w : World) (g : Nat) (y x : Int) : Prop := w.heap[g]? = some (.cells #[.int .i64 y, .int .i64 x] 87 (0, 0))
theorem placeAt_lt {w : World} {g : Nat} {y x : Int} (h : PlaceAt w g y x) : g < w.heap.size := (Array.getElem?_eq_some_iff.1 h).1
theorem placeAt_below {w w' : World} {g : Nat} {r c : Int} (h : PlaceAt w g r c) (hb : Below w.heap.size w w') : PlaceAt w' g r c := by
  unfold PlaceAt; rw [hb.block g (placeAt_lt h)]; exact h
theorem placeAt_cells {w : World} {g : Nat} {y x : Int} (h : PlaceAt w g y x) : w.cell? ⟨g, 0, none⟩ = some (.int .i64 y) ∧ w.cell? ⟨g, 1, none⟩ = some (.int .i64 x) :=
  ⟨by rw [cell_of_row w g 0 _ _ _ h]; rfl, by rw [cell_of_row w g 1 _ _ _ h]; rfl⟩
theorem placeAt_cell {w : World} {g : Nat} {y x : Int} (h : PlaceAt w g y x) (p : Addr) (v : Value) (hne : g ≠ p.block) : PlaceAt (w.setCell p v) g y x := by
  unfold PlaceAt; rw [heap_setCell_other w p g v hne]; exact h
theorem gridAt_cell {w : World} {g : Nat} {y x : Int} {u : Value} (h : GridAt w g y x u) (p : Addr) (v : Value) (hne : g ≠ p.block) : GridAt (w.setCell p v) g y x u := by
  unfold GridAt; rw [heap_setCell_other w p g v hne]; exact h
theorem exec_storeIntG {ρ : Operand → Value} {o : Oper} {w : World} {x y : Operand} {g k : Nat} {u v : Int} (ho : o.op = .store 3 x y) (hx : ρ x = .pointer (some ⟨g, k, none⟩)) (hy : ρ y = .int .i64 v) (h1 : w.cell? ⟨g, k, none⟩ = some (.int .i64 u)) (f1 : w.frozen? ⟨g, k, none⟩ = false) :
    (execOp ρ o).run Try.prog w = .ok .skip (w.setCell ⟨g, k, none⟩ (.int .i64 v)) := by
  unfold execOp
  simp only [ho, hx, hy]
  go_simp
/-- The numbers behind a rows of the other grid and b elements of the next one. -/
def addF (F G : Nat → Nat → Int) (fac : Int) (y0 x0 C2 a b : Nat) (y x : Nat) : Int :=
  if y0 ≤ y ∧ x0 ≤ x ∧ x < x0 + C2 ∧ (y < y0 + a ∨ (y = y0 + a ∧ x < x0 + b)) then IntKind.i64.wrap (F y x + IntKind.i64.wrap (fac * G (y - y0) (x - x0))) else F y x
theorem addF_zero (F G : Nat → Nat → Int) (fac : Int) (y0 x0 C2 : Nat) : addF F G fac y0 x0 C2 0 0 = F := by
  funext y x
  unfold addF
  rw [if_neg]
  omega
theorem addF_row (F G : Nat → Nat → Int) (fac : Int) (y0 x0 C2 a : Nat) : addF F G fac y0 x0 C2 a C2 = addF F G fac y0 x0 C2 (a + 1) 0 := by
  funext y x
  unfold addF
  by_cases h : y0 ≤ y ∧ x0 ≤ x ∧ x < x0 + C2 ∧ (y < y0 + a ∨ (y = y0 + a ∧ x < x0 + C2))
  · rw [if_pos h, if_pos (by omega)]
  · rw [if_neg h, if_neg (by omega)]
theorem addF_step (F G : Nat → Nat → Int) (fac : Int) (y0 x0 C2 a b : Nat) (hb : b < C2) :
    (fun i j => if i = y0 + a ∧ j = x0 + b then IntKind.i64.wrap (addF F G fac y0 x0 C2 a b (y0 + a) (x0 + b) + IntKind.i64.wrap (fac * G a b)) else addF F G fac y0 x0 C2 a b i j) = addF F G fac y0 x0 C2 a (b + 1) := by
  funext y x
  by_cases e : y = y0 + a ∧ x = x0 + b
  · obtain ⟨rfl, rfl⟩ := e
    rw [if_pos ⟨rfl, rfl⟩]
    unfold addF
    rw [if_neg (by omega), if_pos (by omega), show y0 + a - y0 = a by omega, show x0 + b - x0 = b by omega]
  · rw [if_neg e]
    unfold addF
    by_cases h : y0 ≤ y ∧ x0 ≤ x ∧ x < x0 + C2 ∧ (y < y0 + a ∨ (y = y0 + a ∧ x < x0 + b))
    · rw [if_pos h, if_pos (by omega)]
    · rw [if_neg h, if_neg (by omega)]
/-- A grid that reads as G and lies outside of the blocks from lo up to hi. -/
def OutMat (w : World) (lo hi : Nat) (q : Value) (R C : Nat) (G : Nat → Nat → Int) : Prop :=
  ∃ g o c, q = .slice (some ⟨g, o, none⟩) R c ∧ (g < lo ∨ hi ≤ g) ∧ g < w.heap.size ∧ ∀ y, y < R → ∃ g' o' c', w.cell? ⟨g, o + y, none⟩ = some (.slice (some ⟨g', o', none⟩) C c') ∧ (g' < lo ∨ hi ≤ g') ∧ g' < w.heap.size ∧ ∀ x, x < C → w.cell? ⟨g', o' + x, none⟩ = some (.int .i64 (G y x))
theorem out_cell {w w' : World} {lo hi g o : Nat} (hw : Within lo hi w w') (ha : g < lo ∨ hi ≤ g) (hg : g < w.heap.size) {u : Option Value} (h : w.cell? ⟨g, o, none⟩ = u) : w'.cell? ⟨g, o, none⟩ = u := by
  rw [← h]
  simp [World.cell?, hw.block g hg ha]
theorem outMat_in {w0 w : World} {lo hi R C : Nat} {q : Value} {G : Nat → Nat → Int} (h : InMat w0 q (mkM R C G)) (hB : Below w0.heap.size w0 w) (hlo : w0.heap.size ≤ lo) (hR : 0 < R) (hC : 0 < C) : OutMat w lo hi q R C G := by
  obtain ⟨g, o, c, rfl, hg, hrow⟩ := inMat_img h hR hC
  have hs := hB.size
  refine ⟨g, o, c, rfl, .inl (by omega), by omega, fun y hy => ?_⟩
  obtain ⟨g', o', c', h1, h2, h3⟩ := hrow y hy
  exact ⟨g', o', c', below_cell hB hg h1, .inl (by omega), by omega, fun x hx => below_cell hB h2 (h3 x hx)⟩
theorem outMat_own {w : World} {lo hi lo2 hi2 R C : Nat} {q : Value} {G : Nat → Nat → Int} (h : OwnMat w lo2 hi2 q (mkM R C G)) (ha : hi ≤ lo2) (hR : 0 < R) (hC : 0 < C) : OutMat w lo hi q R C G := by
  have hin := inMat_own h
  obtain ⟨g, o, c, rfl, hg, hrow⟩ := inMat_img hin hR hC
  obtain ⟨vs, ho, hoh, hr, -⟩ := h
  have hgo : lo2 ≤ g := (ho.lt g rfl).1
  have ho0 : o = 0 := by
    rcases ho.2 with ⟨e, -⟩ | ⟨g2, cap, cur, e, -⟩
    · cases e
    · simp only [Value.slice.injEq, Option.some.injEq, Addr.mk.injEq] at e
      exact e.1.2.1
  subst ho0
  refine ⟨g, 0, c, rfl, .inr (Nat.le_trans ha hgo), hg, fun y hy => ?_⟩
  obtain ⟨g', o', c', h1, h2, h3⟩ := hrow y hy
  refine ⟨g', o', c', h1, .inr ?_, h2, h3⟩
  have hy' : y < (mkM R C G).length := by rw [mkM_len]; exact hy
  have ho2 := ho
  rw [mkM_len] at ho2
  have hv := ho2.cellAt y (Nat.lt_of_lt_of_eq hy (Nat.mul_one _).symm)
  rw [Nat.zero_add] at h1
  have hvs : vs.getD y undef = .slice (some ⟨g', o', none⟩) C c' := by
    have h2 := Eq.trans hv.symm h1
    rw [List.getD_eq_getElem?_getD, h2]; rfl
  have hrr := (hr y hy').1
  rw [hvs] at hrr
  have hrl : lo2 ≤ g' := (hrr.lt g' rfl).1
  exact Nat.le_trans ha hrl
set_option maxHeartbeats 4000000 in
theorem add_any (p q : Value) (R C R2 C2 y0 x0 : Nat) (F G : Nat → Nat → Int) (fac : Int) (lo hi : Nat) (w : World) (hp : OwnMat w lo hi p (mkM R C F)) (hq : OutMat w lo hi q R2 C2 G) (hhi : hi ≤ w.heap.size)
    (hR : y0 + R2 ≤ R) (hC : x0 + C2 ≤ C) (hR2 : 1 ≤ R2) (hC2 : 1 ≤ C2) (hRm : R ≤ 100) (hCm : C ≤ 100) :
    Calls Try.prog 58 #[gridV R C p, gridV R2 C2 q, .int .i64 fac, .agg #[.int .i64 y0, .int .i64 x0]] w fun e w' => e = .returned (.tuple #[]) ∧ OwnMat w' lo hi p (mkM R C (addF F G fac y0 x0 C2 R2 0)) ∧ Within lo hi w w' := by
  obtain ⟨gq, oq, qc, rfl, hga, hgq, hrow⟩ := hq
  have HROW := hide hrow
  obtain ⟨gp, pc, rfl⟩ : ∃ gp pc, p = .slice (some ⟨gp, 0, none⟩) R pc := by
    obtain ⟨vs, ho, -⟩ := hp
    rcases ho.2 with ⟨e, h0⟩ | ⟨g', cap', cur, e, _⟩
    · rw [mkM_len] at h0; omega
    · rw [mkM_len] at e; exact ⟨_, _, e⟩
  have HO := hide hp; have HGA := hide hga
  have HG1 : Hid (∀ w : World, GridAt (w.alloc (.cells #[.int .i64 R, .int .i64 C, .slice (some ⟨gp, 0, none⟩) R pc] 68)) w.heap.size R C (.slice (some ⟨gp, 0, none⟩) R pc)) := hide fun w => heap_alloc_new w _
  have HG2 : Hid (∀ w : World, GridAt (w.alloc (.cells #[.int .i64 R2, .int .i64 C2, .slice (some ⟨gq, oq, none⟩) R2 qc] 68)) w.heap.size R2 C2 (.slice (some ⟨gq, oq, none⟩) R2 qc)) := hide fun w => heap_alloc_new w _
  have HG3 : Hid (∀ w : World, PlaceAt (w.alloc (.cells #[.int .i64 y0, .int .i64 x0] 87)) w.heap.size y0 x0) := hide fun w => heap_alloc_new w _
  have HA : Hid (∀ (w : World) (o : Obj), Below w.heap.size w (w.alloc o)) := hide fun w o => (Below.refl _ _).alloc (Nat.le_refl _) o
  have H1 := hide (HG1.out w)
  have B1 := hide (HA.out w (.cells #[.int .i64 R, .int .i64 C, .slice (some ⟨gp, 0, none⟩) R pc] 68))
  obtain ⟨w1, hw1⟩ : ∃ w1, w1 = w.alloc (.cells #[.int .i64 R, .int .i64 C, .slice (some ⟨gp, 0, none⟩) R pc] 68) := ⟨_, rfl⟩
  have hz1 : w1.heap.size = w.heap.size + 1 := by rw [hw1]; simp
  rw [← hw1] at H1 B1
  have H2 := hide (HG2.out w1)
  have B2 := hide (HA.out w1 (.cells #[.int .i64 R2, .int .i64 C2, .slice (some ⟨gq, oq, none⟩) R2 qc] 68))
  obtain ⟨w2, hw2⟩ : ∃ w2, w2 = w1.alloc (.cells #[.int .i64 R2, .int .i64 C2, .slice (some ⟨gq, oq, none⟩) R2 qc] 68) := ⟨_, rfl⟩
  have hz2 : w2.heap.size = w.heap.size + 2 := by rw [hw2]; simp [hz1]
  rw [← hw2] at H2 B2
  have H3 := hide (HG3.out w2)
  have B3 := hide (HA.out w2 (.cells #[.int .i64 y0, .int .i64 x0] 87))
  obtain ⟨w3, hw3⟩ : ∃ w3, w3 = w2.alloc (.cells #[.int .i64 y0, .int .i64 x0] 87) := ⟨_, rfl⟩
  have hz3 : w3.heap.size = w.heap.size + 3 := by rw [hw3]; simp [hz2]
  rw [← hw3] at H3 B3
  have HW3 : Hid (w3 = ((w.alloc (.cells #[.int .i64 R, .int .i64 C, .slice (some ⟨gp, 0, none⟩) R pc] 68)).alloc (.cells #[.int .i64 R2, .int .i64 C2, .slice (some ⟨gq, oq, none⟩) R2 qc] 68)).alloc (.cells #[.int .i64 y0, .int .i64 x0] 87)) := hide (by rw [hw3, hw2, hw1])
  have K1 : Hid (GridAt w3 w.heap.size R C (.slice (some ⟨gp, 0, none⟩) R pc)) := hide (gridAt_below (gridAt_below H1.out B2.out) B3.out)
  have K2 : Hid (GridAt w3 (w.heap.size + 1) R2 C2 (.slice (some ⟨gq, oq, none⟩) R2 qc)) := hide (gridAt_below (by rw [← hz1]; exact H2.out) B3.out)
  have K3 : Hid (PlaceAt w3 (w.heap.size + 2) y0 x0) := hide (by rw [← hz2]; exact H3.out)
  have B12 := B1.out.trans (B2.out.mono B1.out.size)
  have KB := hide (B12.trans (B3.out.mono B12.size))
  have KO := hide (ownMat_below hp KB.out)
  have KZ := hide (Nat.le_of_eq hz3.symm)
  obtain ⟨q0, q1, q2⟩ := gridAt_cells K2.out
  clear hp hga hrow hw1 hw2 hw3 hz1 hz2 hz3 H1 H2 H3 B1 B2 B3 HG1 HG2 HG3 B12 HA HO
  have HZ0 := hide (addF_zero F G fac y0 x0 C2)
  have HRW := hide (addF_row F G fac y0 x0 C2)
  unfold gridV
  rw [HW3.out] at q0 q1 q2
  go_enter Try.func58, Try.ntmps58
  go_wp2
  rw [← HW3.out]
  clear q0 q1 q2 HW3
  go_loopw [15] (fun i w' => ∃ a : Nat, a ≤ R2 ∧ i = .int .i64 a ∧ OwnMat w' lo hi (.slice (some ⟨gp, 0, none⟩) R pc) (mkM R C (addF F G fac y0 x0 C2 a 0)) ∧ GridAt w' w.heap.size R C (.slice (some ⟨gp, 0, none⟩) R pc) ∧ GridAt w' (w.heap.size + 1) R2 C2 (.slice (some ⟨gq, oq, none⟩) R2 qc) ∧ PlaceAt w' (w.heap.size + 2) y0 x0 ∧ Within lo hi w w' ∧ w.heap.size + 3 ≤ w'.heap.size) (fun i _ => R2 - (intOf i).toNat)
  case atStart => exact ⟨0, Nat.zero_le _, rfl, by rw [HZ0.out]; exact KO.out, K1.out, K2.out, K3.out, within_below KB.out, KZ.out⟩
  case round =>
    clear K1 K2 K3 KB KO KZ
    obtain ⟨wo, rfl⟩ : ∃ wo, wo = wr := ⟨_, rfl⟩
    obtain ⟨a, ha, rfl, ho, h1, h2, h3, hw, hsz⟩ := hrel
    have HO := hide ho; have HG1 := hide h1; have HG2 := hide h2; have HG3 := hide h3; have HW := hide hw; have HSZ := hide hsz
    obtain ⟨q0, q1, q2⟩ := gridAt_cells h2
    clear ho h1 h2 h3 hw hsz
    by_cases hla : a < R2
    · have hlaI : (a : Int) < R2 := by omega
      obtain ⟨gs, os, cs, hcr, hgsa, hgs, hcell⟩ := HROW.out a hla
      have HGSA := hide hgsa
      have hcr := out_cell HW.out HGA.out hgq hcr
      have HCELL := hide hcell
      clear hcell hgsa
      go_wp2
      clear q0 q1 q2 hcr
      go_loopw [22] (fun i w' => ∃ b : Nat, b ≤ C2 ∧ i = .int .i64 b ∧ OwnMat w' lo hi (.slice (some ⟨gp, 0, none⟩) R pc) (mkM R C (addF F G fac y0 x0 C2 a b)) ∧ GridAt w' w.heap.size R C (.slice (some ⟨gp, 0, none⟩) R pc) ∧ GridAt w' (w.heap.size + 1) R2 C2 (.slice (some ⟨gq, oq, none⟩) R2 qc) ∧ PlaceAt w' (w.heap.size + 2) y0 x0 ∧ Within lo hi w w' ∧ w.heap.size + 3 ≤ w'.heap.size) (fun i _ => C2 - (intOf i).toNat)
      case atStart => exact ⟨0, Nat.zero_le _, rfl, HO.out, HG1.out, HG2.out, HG3.out, HW.out, HSZ.out⟩
      case round =>
        clear HO HG1 HG2 HG3 HW HSZ
        obtain ⟨b, hb, rfl, ho, h1, h2, h3, hw, hsz⟩ := hrel
        have HO := hide ho; have HG1 := hide h1; have HG2 := hide h2; have HG3 := hide h3; have HW := hide hw; have HSZ := hide hsz
        clear ho h2 hw
        by_cases hlb : b < C2
        · have hlbI : (b : Int) < C2 := by omega
          have hcx := out_cell HW.out HGSA.out hgs (HCELL.out b hlb)
          obtain ⟨Y, hY⟩ : ∃ Y, Y = y0 + a := ⟨_, rfl⟩
          obtain ⟨X, hX⟩ : ∃ X, X = x0 + b := ⟨_, rfl⟩
          obtain ⟨gr, rc, hcrow, hcl, hfr, hgl, hgh, hset⟩ := ownMat_cell HO.out Y X (by omega) (by omega)
          have HSET := hide hset
          have HST := hide (addF_step F G fac y0 x0 C2 a b hlb)
          obtain ⟨p0, p1, p2⟩ := gridAt_cells h1
          obtain ⟨l0, l1⟩ := placeAt_cells h3
          obtain ⟨n, hn⟩ : ∃ n, n = G a b := ⟨_, rfl⟩
          obtain ⟨c, hc⟩ : ∃ c, c = addF F G fac y0 x0 C2 a b Y X := ⟨_, rfl⟩
          obtain ⟨mv, hmv⟩ : ∃ mv, mv = IntKind.i64.wrap (fac * n) := ⟨_, rfl⟩
          obtain ⟨sv, hsv⟩ : ∃ sv, sv = IntKind.i64.wrap (c + mv) := ⟨_, rfl⟩
          have hmv2 := hmv.symm
          have hsv2 := hsv.symm
          rw [← hY, ← hX, ← hc, ← hn, ← hmv, ← hsv] at HST
          rw [← hn] at hcx
          rw [← hc] at hcl
          have hyI : (y0 : Int) + (a : Int) = (Y : Int) := by omega
          have hxI : (x0 : Int) + (b : Int) = (X : Int) := by omega
          have hyR : (Y : Int) < R := by omega
          have hxC : (X : Int) < C := by omega
          have hyW : IntKind.i64.wrap (Y : Int) = Y := IntWalk.i64_in _ (by omega)
          have hxW : IntKind.i64.wrap (X : Int) = X := IntWalk.i64_in _ (by omega)
          clear hY hX
          clear h1 h3 hset hn hc hmv hsv
          go_upto_region 7 with fail
          obtain ⟨fs, hfs⟩ : ∃ fs : List FactP, fs = [(isV (.pointer (some ⟨w.heap.size, 2, none⟩))), (isV (.slice (some ⟨gp, 0, none⟩) R pc)), (isV (.pointer (some ⟨w.heap.size + 2, 0, none⟩))), (isV (.int .i64 ((y0 : Int)))), (isV (.int .i64 ((a : Int)))), (isV (.int .i64 ((Y : Int)))), (isV (.pointer (some ⟨gp, Y, none⟩))), (isV (.slice (some ⟨gr, 0, none⟩) C rc)), (isV (.pointer (some ⟨w.heap.size + 2, 1, none⟩))), (isV (.int .i64 ((x0 : Int)))), (isV (.int .i64 ((b : Int)))), (isV (.int .i64 ((X : Int)))), (isV (.pointer (some ⟨gr, X, none⟩))), (isV (.int .i64 (c))), (isV (.int .i64 (fac))), (isV (.int .i64 (n))), (isV (.int .i64 (mv))), (isV (.int .i64 (sv))), (isV (.pointer (some ⟨gr, X, none⟩)))] := ⟨_, rfl⟩
          have hst : ∀ f ∈ fs, StableP f := by
            rw [hfs]; intro f hf
            simp only [List.mem_cons, List.not_mem_nil, or_false] at hf
            rcases hf with rfl | rfl | rfl | rfl | rfl | rfl | rfl | rfl | rfl | rfl | rfl | rfl | rfl | rfl | rfl | rfl | rfl | rfl | rfl <;> exact stable_v _
          subst hfs
          refine wp_region_g (S := fun w2 => w2 = wr.drew) [(isV (.pointer (some ⟨w.heap.size, 2, none⟩))), (isV (.slice (some ⟨gp, 0, none⟩) R pc)), (isV (.pointer (some ⟨w.heap.size + 2, 0, none⟩))), (isV (.int .i64 ((y0 : Int)))), (isV (.int .i64 ((a : Int)))), (isV (.int .i64 ((Y : Int)))), (isV (.pointer (some ⟨gp, Y, none⟩))), (isV (.slice (some ⟨gr, 0, none⟩) C rc)), (isV (.pointer (some ⟨w.heap.size + 2, 1, none⟩))), (isV (.int .i64 ((x0 : Int)))), (isV (.int .i64 ((b : Int)))), (isV (.int .i64 ((X : Int)))), (isV (.pointer (some ⟨gr, X, none⟩))), (isV (.int .i64 (c))), (isV (.int .i64 (fac))), (isV (.int .i64 (n))), (isV (.int .i64 (mv))), (isV (.int .i64 (sv))), (isV (.pointer (some ⟨gr, X, none⟩)))] [(2, .int .i64 (fac)), (4, .pointer (some ⟨w.heap.size, 0, none⟩)), (7, .pointer (some ⟨w.heap.size + 2, 0, none⟩)), (8, .int .i64 ((a : Int))), (10, .int .i64 ((b : Int))), (11, .int .i64 (n))] _ _ 19 (by kernel_rfl) rfl rfl (by kernel_rfl) (by kernel_rfl) rfl (by kernel_rfl) ?base rfl ?ob rfl ?fin
          case base =>
            intro t v ht
            simp only [List.lookup_cons, List.lookup_nil] at ht
            repeat' split at ht
            all_goals first | (cases ht; done) | (obtain rfl := Option.some.inj ht; rename_i hh; obtain rfl := eq_of_beq hh; rfl)
          case ob =>
            exact ⟨obg_of rfl (obt_one (.pointer (some ⟨w.heap.size, 2, none⟩)) rfl rfl (srt_b 4 rfl) (fun ρ w2 hS hx => by subst hS; go_simp)),
              obg_of rfl (obt_one (.slice (some ⟨gp, 0, none⟩) R pc) rfl rfl (srt_j 0 rfl (by kernel_rfl) rfl) (fun ρ w2 hS hx => by subst hS; go_simp)),
              obg_of rfl (obt_one (.pointer (some ⟨w.heap.size + 2, 0, none⟩)) rfl rfl (srt_b 7 rfl) (fun ρ w2 hS hx => by subst hS; go_simp)),
              obg_of rfl (obt_one (.int .i64 ((y0 : Int))) rfl rfl (srt_j 2 rfl (by kernel_rfl) rfl) (fun ρ w2 hS hx => by subst hS; go_simp)),
              obg_of rfl (obt_move (.int .i64 ((a : Int))) rfl rfl rfl (srt_b 8 rfl)),
              obg_of rfl (obt_two (.int .i64 ((Y : Int))) rfl rfl (srt_j 3 rfl (by kernel_rfl) rfl) (srt_j 4 rfl (by kernel_rfl) rfl) (fun ρ w2 hS hx hy => by subst hS; go_simp)),
              obg_of rfl (obt_two (.pointer (some ⟨gp, Y, none⟩)) rfl rfl (srt_j 1 rfl (by kernel_rfl) rfl) (srt_j 5 rfl (by kernel_rfl) rfl) (fun ρ w2 hS hx hy => by subst hS; go_simp)),
              obg_of rfl (obt_one (.slice (some ⟨gr, 0, none⟩) C rc) rfl rfl (srt_j 6 rfl (by kernel_rfl) rfl) (fun ρ w2 hS hx => by subst hS; go_simp)),
              obg_of rfl (obt_one (.pointer (some ⟨w.heap.size + 2, 1, none⟩)) rfl rfl (srt_b 7 rfl) (fun ρ w2 hS hx => by subst hS; go_simp)),
              obg_of rfl (obt_one (.int .i64 ((x0 : Int))) rfl rfl (srt_j 8 rfl (by kernel_rfl) rfl) (fun ρ w2 hS hx => by subst hS; go_simp)),
              obg_of rfl (obt_move (.int .i64 ((b : Int))) rfl rfl rfl (srt_b 10 rfl)),
              obg_of rfl (obt_two (.int .i64 ((X : Int))) rfl rfl (srt_j 9 rfl (by kernel_rfl) rfl) (srt_j 10 rfl (by kernel_rfl) rfl) (fun ρ w2 hS hx hy => by subst hS; go_simp)),
              obg_of rfl (obt_two (.pointer (some ⟨gr, X, none⟩)) rfl rfl (srt_j 7 rfl (by kernel_rfl) rfl) (srt_j 11 rfl (by kernel_rfl) rfl) (fun ρ w2 hS hx hy => by subst hS; go_simp)),
              obg_of rfl (obt_one (.int .i64 (c)) rfl rfl (srt_j 12 rfl (by kernel_rfl) rfl) (fun ρ w2 hS hx => by subst hS; go_simp)),
              obg_of rfl (obt_move (.int .i64 (fac)) rfl rfl rfl (srt_b 2 rfl)),
              obg_of rfl (obt_move (.int .i64 (n)) rfl rfl rfl (srt_b 11 rfl)),
              obg_of rfl (obt_two (.int .i64 (mv)) rfl rfl (srt_j 14 rfl (by kernel_rfl) rfl) (srt_j 15 rfl (by kernel_rfl) rfl) (fun ρ w2 hS hx hy => by subst hS; go_simp)),
              obg_of rfl (obt_two (.int .i64 (sv)) rfl rfl (srt_j 13 rfl (by kernel_rfl) rfl) (srt_j 16 rfl (by kernel_rfl) rfl) (fun ρ w2 hS hx hy => by subst hS; go_simp)),
              obg_of rfl (obt_two (.pointer (some ⟨gr, X, none⟩)) rfl rfl (srt_j 7 rfl (by kernel_rfl) rfl) (srt_j 11 rfl (by kernel_rfl) rfl) (fun ρ w2 hS hx hy => by subst hS; go_simp)),
              trivial⟩
          case fin =>
            intro a' w' h1 h2 h3 hS h4 K hK
            have ha := frame_ov rfl h1 h2 h3 [(27, .pointer (some ⟨w.heap.size, 2, none⟩)), (28, .slice (some ⟨gp, 0, none⟩) R pc), (29, .pointer (some ⟨w.heap.size + 2, 0, none⟩)), (30, .int .i64 ((y0 : Int))), (31, .int .i64 ((a : Int))), (32, .int .i64 ((Y : Int))), (33, .pointer (some ⟨gp, Y, none⟩)), (34, .slice (some ⟨gr, 0, none⟩) C rc), (35, .pointer (some ⟨w.heap.size + 2, 1, none⟩)), (36, .int .i64 ((x0 : Int))), (37, .int .i64 ((b : Int))), (38, .int .i64 ((X : Int))), (39, .pointer (some ⟨gr, X, none⟩)), (40, .int .i64 (c)), (41, .int .i64 (fac)), (42, .int .i64 (n)), (43, .int .i64 (mv)), (44, .int .i64 (sv)), (45, .pointer (some ⟨gr, X, none⟩))] (by kernel_rfl) ⟨h4 0 27 rfl (by decide), h4 1 28 rfl (by decide), h4 2 29 rfl (by decide), h4 3 30 rfl (by decide), h4 4 31 rfl (by decide), h4 5 32 rfl (by decide), h4 6 33 rfl (by decide), h4 7 34 rfl (by decide), h4 8 35 rfl (by decide), h4 9 36 rfl (by decide), h4 10 37 rfl (by decide), h4 11 38 rfl (by decide), h4 12 39 rfl (by decide), h4 13 40 rfl (by decide), h4 14 41 rfl (by decide), h4 15 42 rfl (by decide), h4 16 43 rfl (by decide), h4 17 44 rfl (by decide), h4 18 45 rfl (by decide), trivial⟩
            dsimp only [ov, List.lookup, Nat.reduceBEq, Nat.reduceAdd] at ha
            have v45 : a'.tmps.getD 45 undef = .pointer (some ⟨gr, X, none⟩) := h4 18 45 rfl (by decide)
            have v44 : a'.tmps.getD 44 undef = .int .i64 (sv) := h4 17 44 rfl (by decide)
            subst hS
            refine run_skip (exec_storeIntG (u := c) rfl v45 v44 hcl hfr) (hK undef _ ?_)
            show Exit.inBlock _ _ Exit.normal a' _
            have E1 : Hid (OwnMat (wr.drew.setCell ⟨gr, X, none⟩ (.int .i64 sv)) lo hi (.slice (some ⟨gp, 0, none⟩) R pc) (mkM R C (addF F G fac y0 x0 C2 a (b + 1)))) := hide (by have := HSET.out sv; rw [HST.out] at this; exact this)
            have E2 : Hid (GridAt (wr.drew.setCell ⟨gr, X, none⟩ (.int .i64 sv)) w.heap.size R C (.slice (some ⟨gp, 0, none⟩) R pc)) := hide (gridAt_cell HG1.out _ _ (by simp; omega))
            have E3 : Hid (GridAt (wr.drew.setCell ⟨gr, X, none⟩ (.int .i64 sv)) (w.heap.size + 1) R2 C2 (.slice (some ⟨gq, oq, none⟩) R2 qc)) := hide (gridAt_cell HG2.out _ _ (by simp; omega))
            have E4 : Hid (PlaceAt (wr.drew.setCell ⟨gr, X, none⟩ (.int .i64 sv)) (w.heap.size + 2) y0 x0) := hide (placeAt_cell HG3.out _ _ (by simp; omega))
            have E5 : Hid (Within lo hi w (wr.drew.setCell ⟨gr, X, none⟩ (.int .i64 sv))) := hide (within_trans HW.out ⟨rfl, rfl, rfl, by simp, fun k hk hne => heap_setCell_other _ _ _ _ (fun e => by simp at e; omega)⟩)
            have E6 : Hid (w.heap.size + 3 ≤ (wr.drew.setCell ⟨gr, X, none⟩ (.int .i64 sv)).heap.size) := hide (by simp; exact HSZ.out)
            clear v44 v45
            generalize wr.drew.setCell ⟨gr, X, none⟩ (.int .i64 sv) = w9 at E1 E2 E3 E4 E5 E6 ⊢
            rw [ha]
            clear ha h1 h2 h3 h4 hst hK
            go_wp2
            go_roundw
            case rel => exact ⟨b + 1, by omega, by go_num, E1.out, E2.out, E3.out, E4.out, E5.out, E6.out⟩
            case measure => simp [intOf]; omega
        · obtain rfl : b = C2 := by omega
          go_wp2
          go_roundw
          case rel => exact ⟨a + 1, by omega, by go_num, by rw [← HRW.out a]; exact HO.out, HG1.out, HG2.out, HG3.out, HW.out, HSZ.out⟩
          case measure => simp [intOf]; omega
    · obtain rfl : a = R2 := by omega
      go_wp2
      exact bodyPost_end (v := .tuple #[]) (by simp [results, Try.results58]) rfl ⟨rfl, HO.out, HW.out⟩
end Go.Proofs.Ytjnnoabaepmcnaa
/-
  grid.lessShifted of the program: a grid minus its shifted copy.
-/
namespace Go.Proofs.Ytjnnoabaepmcnaa
open Go.RowKit Go.Katz
set_option maxRecDepth 100000

/-- max(0, -dy) and max(0, dy). -/
def dnN (dy : Int) : Nat := (max 0 (-dy)).toNat
def upN (dy : Int) : Nat := (max 0 dy).toNat
/-- The grid minus its shifted copy, as the program reckons it. -/
def lsF (R C : Nat) (G : Nat → Nat → Int) (dx dy : Int) : Nat → Nat → Int := addF (addF (fun _ _ => 0) G 1 (dnN dy) 0 C R 0) G (-1) (upN dy) dx.toNat C R 0
theorem add_at (y x : Int) (p q : Value) (R C R2 C2 y0 x0 : Nat) (F G : Nat → Nat → Int) (fac : Int) (lo hi : Nat) (w0 w : World) (hy : y = (y0 : Int)) (hx : x = (x0 : Int)) (hp : OwnMat w lo hi p (mkM R C F)) (hq : InMat w0 q (mkM R2 C2 G)) (hB : Below w0.heap.size w0 w) (hlo : w0.heap.size ≤ lo) (hhi : hi ≤ w.heap.size)
    (hR : y0 + R2 ≤ R) (hC : x0 + C2 ≤ C) (hR2 : 1 ≤ R2) (hC2 : 1 ≤ C2) (hRm : R ≤ 100) (hCm : C ≤ 100) :
    Calls Try.prog 58 #[.agg #[.int .i64 R, .int .i64 C, p], .agg #[.int .i64 R2, .int .i64 C2, q], .int .i64 fac, .agg #[.int .i64 y, .int .i64 x]] w fun e w' => e = .returned (.tuple #[]) ∧ OwnMat w' lo hi p (mkM R C (addF F G fac y0 x0 C2 R2 0)) ∧ Within lo hi w w' := by
  subst hy; subst hx
  exact add_any p q R C R2 C2 y0 x0 F G fac lo hi w hp (outMat_in hq hB hlo (by omega) (by omega)) hhi hR hC hR2 hC2 hRm hCm
set_option maxHeartbeats 4000000 in
theorem lessShifted_any (q : Value) (R C : Nat) (G : Nat → Nat → Int) (dx dy : Int) (w : World) (hq : InMat w q (mkM R C G)) (hn : Near dx dy) (hR : 1 ≤ R ∧ R ≤ 20) (hC : 1 ≤ C ∧ C ≤ 20) :
    Calls Try.prog 49 #[gridV R C q, .agg #[.int .i64 dx, .int .i64 dy]] w (GridRes (R + (tallD (dx, dy)).toNat) (C + dx.toNat) (lsF R C G dx dy) w) := by
  have HQ := hide hq
  obtain ⟨qa, qn, qc, rfl⟩ : ∃ a n c, q = .slice a n c := by
    obtain ⟨a, c, h, -⟩ := hq
    exact ⟨a, _, c, h⟩
  have HNR := hide hn
  obtain ⟨n1, n2, n3, n4⟩ := hn
  obtain ⟨A, hA⟩ : ∃ A, A = dnN dy := ⟨_, rfl⟩
  obtain ⟨B, hB⟩ : ∃ B, B = upN dy := ⟨_, rfl⟩
  obtain ⟨X, hX⟩ : ∃ X, X = dx.toNat := ⟨_, rfl⟩
  obtain ⟨U, hU⟩ : ∃ U, U = (tallD (dx, dy)).toNat := ⟨_, rfl⟩
  have hXI : dx = (X : Int) := by omega
  have HTI : Hid (tallD (dx, dy) = (U : Int)) := hide (by rw [hU]; have := tallD_max (dx, dy); simp only at this; omega)
  have HA : Hid ((0 < -dy → -dy = (A : Int)) ∧ (¬ 0 < -dy → 0 = (A : Int))) := hide (by rw [hA, dnN]; omega)
  have HB : Hid ((0 < dy → dy = (B : Int)) ∧ (¬ 0 < dy → 0 = (B : Int))) := hide (by rw [hB, upN]; omega)
  have hAU : A ≤ U ∧ B ≤ U := by
    rw [hA, hB, hU, dnN, upN, ← tallD_max]; simp only; omega
  obtain ⟨hAU, hBU⟩ := hAU
  have HLS : Hid (lsF R C G dx dy = addF (addF (fun _ _ => 0) G 1 A 0 C R 0) G (-1) B X C R 0) := hide (by rw [lsF, hA, hB, hX])
  have hU3 : U ≤ 3 := by rw [hU]; have := tallD_max (dx, dy); simp only at this; omega
  have l1 : IntKind.i64.wrap (-dy) = -dy := IntWalk.i64_in _ (by omega)
  rw [HLS.out]
  rw [← hU, ← hX]
  obtain ⟨R', hR'⟩ : ∃ R', R' = R + U := ⟨_, rfl⟩
  obtain ⟨C', hC'⟩ : ∃ C', C' = C + X := ⟨_, rfl⟩
  have HRU : Hid ((R : Int) + (U : Int) = (R' : Int)) := hide (by omega)
  have HCX : Hid ((C : Int) + (X : Int) = (C' : Int)) := hide (by omega)
  rw [← hR', ← hC']
  have hR1 : R + U ≤ R' := by omega
  have hR2 : R' ≤ 23 := by omega
  have hC1 : C + X ≤ C' := by omega
  have hC2 : C' ≤ 23 := by omega
  clear hA hB hX hU HLS hq hR' hC'
  subst hXI
  have HAL : Hid (∀ (w : World) (o : Obj), Below w.heap.size w (w.alloc o)) := hide fun w o => (Below.refl _ _).alloc (Nat.le_refl _) o
  have HGN : Hid (∀ (w : World) (r c : Int) (a : Option Addr) (n k : Nat), GridAt (w.alloc (.cells #[.int .i64 r, .int .i64 c, .slice a n k] 68)) w.heap.size r c (.slice a n k)) := hide fun w _ _ _ _ _ => heap_alloc_new w _
  have HDN : Hid (∀ w : World, DirAt (w.alloc (.cells #[.int .i64 (X : Int), .int .i64 dy] 29)) w.heap.size X dy) := hide fun w => heap_alloc_new w _
  obtain ⟨wa, hwa⟩ : ∃ wa, wa = w.alloc (.cells #[.int .i64 R, .int .i64 C, .slice qa qn qc] 68) := ⟨_, rfl⟩
  obtain ⟨wb, hwb⟩ : ∃ wb, wb = wa.alloc (.cells #[.int .i64 (X : Int), .int .i64 dy] 29) := ⟨_, rfl⟩
  obtain ⟨wc, hwc⟩ : ∃ wc, wc = wb.alloc (.cells #[.int .i64 0, .int .i64 0, .slice none 0 0] 68) := ⟨_, rfl⟩
  have za : wa.heap.size = w.heap.size + 1 := by rw [hwa]; simp
  have zb : wb.heap.size = w.heap.size + 2 := by rw [hwb]; simp [za]
  have zc : wc.heap.size = w.heap.size + 3 := by rw [hwc]; simp [zb]
  have hba : Below w.heap.size w wa := by rw [hwa]; exact HAL.out _ _
  have hbb : Below wa.heap.size wa wb := by rw [hwb]; exact HAL.out _ _
  have hbc : Below wb.heap.size wb wc := by rw [hwc]; exact HAL.out _ _
  have hbbc := hbb.trans (hbc.mono hbb.size)
  have G1 := hide (gridAt_below (show GridAt wa w.heap.size R C (.slice qa qn qc) by rw [hwa]; exact HGN.out _ _ _ _ _ _) hbbc)
  have D1 := hide (dirAt_below (show DirAt wb (w.heap.size + 1) X dy by rw [← za, hwb]; exact HDN.out _) hbc)
  have Z1 := hide (show GridAt wc (w.heap.size + 2) 0 0 (.slice none 0 0) by rw [← zb, hwc]; exact HGN.out _ _ _ _ _ _)
  have BC := hide (hba.trans (hbbc.mono hba.size))
  have HWC : Hid (wc = ((w.alloc (.cells #[.int .i64 R, .int .i64 C, .slice qa qn qc] 68)).alloc (.cells #[.int .i64 (X : Int), .int .i64 dy] 29)).alloc (.cells #[.int .i64 0, .int .i64 0, .slice none 0 0] 68)) := hide (by rw [hwc, hwb, hwa])
  have HZC := hide zc
  clear hwa hwb hwc za zb zc hba hbb hbc hbbc
  unfold gridV
  have hcase : (0 < -dy ∧ ¬ 0 < dy) ∨ (¬ 0 < -dy ∧ ¬ 0 < dy) ∨ (¬ 0 < -dy ∧ 0 < dy) := by omega
  rcases hcase with ⟨p1, p2⟩ | ⟨p1, p2⟩ | ⟨p1, p2⟩
  all_goals
    go_enter Try.func49, Try.ntmps49
    go_wp2_with (first | ((with_reducible refine (grownBy_any R C X dy _ (by omega) (by omega) HNR.out).mono ?_); rw [HTI.out, ← HWC.out, HRU.out, HCX.out]; rintro e w1 ⟨rfl, hb⟩; have G2 := hide (gridAt_below G1.out hb); have D2 := hide (dirAt_below D1.out hb); have Z2 := hide (gridAt_below Z1.out hb); have B2 := hide (BC.out.trans (hb.mono BC.out.size)); have s2 := hb.size; clear hb) | ((with_reducible refine (zeroGrid_any R' C' _ (by omega) (by omega)).mono ?_); rintro e w3 ⟨x, rfl, ho, hb⟩; obtain ⟨xa, xn, xc, rfl⟩ := ownMat_slice ho; dsimp only [gridV]; have G3 := hide (gridAt_below G2.out hb); have D3 := hide (dirAt_below D2.out hb); have Z3 := hide (gridAt_below Z2.out hb); have B3 := hide (B2.out.trans (hb.mono B2.out.size)); have s3 := hb.size; have O3 := hide ho; obtain ⟨w4, hw4⟩ : ∃ w4, w4 = w3.alloc (.cells #[.int .i64 R', .int .i64 C', .slice xa xn xc] 68) := ⟨_, rfl⟩; have hal : Below w3.heap.size w3 w4 := (by rw [hw4]; exact HAL.out _ _); have Y4 := hide (show GridAt w4 w3.heap.size R' C' (.slice xa xn xc) by rw [hw4]; exact HGN.out _ _ _ _ _ _); have O4 := hide (ownMat_below O3.out hal); have G4 := hide (gridAt_below G3.out hal); have D4 := hide (dirAt_below D3.out hal); have Z4 := hide (gridAt_below Z3.out hal); have B4 := hide (B3.out.trans (hal.mono B3.out.size)); have s4 := hal.size; have HW4 := hide hw4; obtain ⟨g0, g1, g2⟩ := gridAt_cells G4.out; obtain ⟨y0, y1, y2⟩ := gridAt_cells Y4.out; obtain ⟨d0, d1⟩ := drC_at D4.out; rw [hw4] at g0 g1 g2 y0 y1 y2 d0 d1; clear hb ho hal hw4))
    rw [← HW4.out]
    refine (add_at _ 0 _ _ R' C' R C A 0 (fun _ _ => 0) G 1 w1.heap.size w3.heap.size w w4 (by first | exact HA.out.1 p1 | exact HA.out.2 p1) rfl O4.out HQ.out B4.out (by have := B2.out.size; omega) s4 (by omega) (by omega) (by omega) (by omega) (by omega) (by omega)).mono ?_
    rintro e w5 ⟨rfl, ho, hw⟩
    have O5 := hide ho
    have G5 := hide (gridAt_within G4.out hw (.inl (by have := B2.out.size; have := HZC.out; omega)))
    have Y5 := hide (gridAt_within Y4.out hw (.inr (Nat.le_refl _)))
    have Z5 := hide (gridAt_within Z4.out hw (.inl (by have := B2.out.size; have := HZC.out; omega)))
    have hdl := (Array.getElem?_eq_some_iff.1 D4.out).1
    have D5 := hide (show DirAt w5 (w.heap.size + 1) X dy by unfold DirAt; rw [hw.block _ hdl (.inl (by have := B2.out.size; have := HZC.out; omega))]; exact D4.out)
    have B5 := hide (B4.out.trans (below_within hw (by have := B2.out.size; omega) B4.out.size))
    have s5 := hw.size
    clear ho hw g0 g1 g2 y0 y1 y2 d0 d1 O4 G4 Y4 Z4 D4
    obtain ⟨g0, g1, g2⟩ := gridAt_cells G5.out
    obtain ⟨y0, y1, y2⟩ := gridAt_cells Y5.out
    obtain ⟨d0, d1⟩ := drC_at D5.out
    simp only at d0 d1
    go_wp2_with fail
    refine (add_at _ _ _ _ R' C' R C B X _ G (-1) w1.heap.size w3.heap.size w w5 (by first | exact HB.out.1 p2 | exact HB.out.2 p2) rfl O5.out HQ.out B5.out (by have := B2.out.size; omega) (by omega) (by omega) (by omega) (by omega) (by omega) (by omega) (by omega)).mono ?_
    rintro e w6 ⟨rfl, ho, hw⟩
    have Y6 := hide (gridAt_within Y5.out hw (.inr (Nat.le_refl _)))
    have Z6 := hide (gridAt_within Z5.out hw (.inl (by have := B2.out.size; have := HZC.out; omega)))
    have B6 := hide (B5.out.trans (below_within hw (by have := B2.out.size; omega) B5.out.size))
    have O6 := hide ho
    have s6 := hw.size
    clear ho hw g0 g1 g2 y0 y1 y2 d0 d1 O5 G5 Y5 Z5 D5
    go_wp2_with (first | (with_reducible refine wpList_loadGr Y6.out rfl _ rfl rfl ?_) | ((with_reducible refine wpList_storeGr Z6.out R' C' (.slice xa xn xc) rfl rfl _ _ rfl rfl rfl ?_); intro w7 hs hg7 hz; have HS7 := hide hs; have HG7 := hide hg7; have hz7 := hz; have B7 := hide (B6.out.trans (grown_below hg7 (fun q hq => by cases hq; omega) B6.out.size)); clear hs hg7 hz))
    obtain ⟨q0, q1, q2⟩ := gridAt_cells HS7.out
    have HOF := hide (ownMat_mono (lo' := w.heap.size) (hi' := w7.heap.size) (ownMat_within (lo' := w.heap.size + 2) (hi' := w.heap.size + 3) O6.out (within_grown HG7.out (fun q e => by cases e; omega)) (.inr (by have := B2.out.size; have := HZC.out; omega))) (by have := B2.out.size; omega) (by omega))
    refine bodyPost_ret (v := gridV R' C' (.slice xa xn xc)) ?_ rfl ⟨_, rfl, HOF.out, B7.out⟩
    simp [results, Try.results49, go_sem, q0, q1, q2, gridV]
end Go.Proofs.Ytjnnoabaepmcnaa
/-
  PURE: what the program's shifted subtraction and the ghost's have in common.
-/
namespace Go.Proofs.Ytjnnoabaepmcnaa
open Go.RowKit Go.Katz

theorem wrap_small {z : Int} (h : -100000 ≤ z ∧ z ≤ 100000) : IntKind.i64.wrap z = z := IntWalk.i64_in _ (by omega)
/-- A grid's elements are at most b. -/
def GOK (g : Grid) (b : Nat) : Prop := ∀ y x, (g.at y x).natAbs ≤ b
theorem gok_at {g : Grid} {b : Nat} (h : GOK g b) {y x : Nat} (hy : y < g.R) (hx : x < g.C) : (g.f y x).natAbs ≤ b := by
  have := h y x
  unfold Grid.at box at this
  rw [if_pos (by omega)] at this
  simpa using this
theorem gok_minus {g : Grid} {b : Nat} (h : GOK g b) {d : Int × Int} (hd : 0 ≤ d.1) : GOK (g.minus d) (2 * b) := fun y x => by
  rw [minus_at g d hd]
  exact mns_small h _ _
theorem at_in {g : Grid} {y x : Int} (h : 0 ≤ y ∧ y < g.R ∧ 0 ≤ x ∧ x < g.C) : g.at y x = g.f y.toNat x.toNat := if_pos h
theorem at_out {g : Grid} {y x : Int} (h : ¬ (0 ≤ y ∧ y < g.R ∧ 0 ≤ x ∧ x < g.C)) : g.at y x = 0 := if_neg h
theorem addF_val (F G : Nat → Nat → Int) (fac : Int) (y0 x0 C2 R2 y x : Nat) :
    addF F G fac y0 x0 C2 R2 0 y x = if y0 ≤ y ∧ y < y0 + R2 ∧ x0 ≤ x ∧ x < x0 + C2 then IntKind.i64.wrap (F y x + IntKind.i64.wrap (fac * G (y - y0) (x - x0))) else F y x := by
  unfold addF
  by_cases h : y0 ≤ y ∧ y < y0 + R2 ∧ x0 ≤ x ∧ x < x0 + C2
  · rw [if_pos (by omega), if_pos h]
  · rw [if_neg (by omega), if_neg h]
theorem lsF_minus {g : Grid} {b : Nat} (hg : GOK g b) (hb : b ≤ 1000) {dx dy : Int} (hd : 0 ≤ dx) (y x : Nat) : lsF g.R g.C g.f dx dy y x = (g.minus (dx, dy)).f y x := by
  have hA : ((dnN dy : Nat) : Int) = down dy := by unfold dnN down; split <;> omega
  have hB : ((upN dy : Nat) : Int) = down dy + dy := by unfold upN down; split <;> omega
  have hX : ((dx.toNat : Nat) : Int) = dx := by omega
  generalize dnN dy = A at hA
  have e1 : addF (fun _ _ => 0) g.f 1 A 0 g.C g.R 0 y x = g.at ((y : Int) - A) x := by
    rw [addF_val]
    by_cases h : A ≤ y ∧ y < A + g.R ∧ 0 ≤ x ∧ x < 0 + g.C
    · rw [if_pos h, at_in (by omega)]
      have := gok_at hg (y := y - A) (x := x - 0) (by omega) (by omega)
      rw [show ((y : Int) - A).toNat = y - A by omega, show ((x : Int)).toNat = x - 0 by omega]
      generalize g.f (y - A) (x - 0) = q at this
      rw [Int.one_mul, wrap_small (z := q) (by omega), Int.zero_add, wrap_small (z := q) (by omega)]
    · rw [if_neg h, at_out (by omega)]
  show addF (addF (fun _ _ => 0) g.f 1 (dnN dy) 0 g.C g.R 0) g.f (-1) (upN dy) dx.toNat g.C g.R 0 y x = g.at ((y : Int) - down dy) x - g.at ((y : Int) - down dy - dy) ((x : Int) - dx)
  have e2 : dnN dy = A := by unfold dnN; unfold down at hA; split at hA <;> omega
  rw [e2, addF_val, e1, hA]
  have hs := hg ((y : Int) - down dy) x
  generalize g.at ((y : Int) - down dy) x = P at hs
  generalize upN dy = B at hB
  generalize dx.toNat = X at hX
  by_cases h : B ≤ y ∧ y < B + g.R ∧ X ≤ x ∧ x < X + g.C
  · rw [if_pos h, at_in (y := (y : Int) - down dy - dy) (by omega)]
    have := gok_at hg (y := y - B) (x := x - X) (by omega) (by omega)
    rw [show ((y : Int) - down dy - dy).toNat = y - B by omega, show ((x : Int) - dx).toNat = x - X by omega]
    generalize g.f (y - B) (x - X) = q at this
    rw [wrap_small (z := -1 * q) (by omega), wrap_small (z := P + -1 * q) (by omega)]
    omega
  · rw [if_neg h, at_out (y := (y : Int) - down dy - dy) (by omega), Int.sub_zero]

/-- The ghost as it is built. -/
def ghG (l : List (Int × Int)) : Grid := Grid.ghost l ⟨1, 1, fun _ _ => 1⟩
theorem ghG_snoc (l : List (Int × Int)) (d : Int × Int) : ghG (l ++ [d]) = (ghG l).minus d := by simp [ghG, Grid.ghost]
theorem ghG_ok : ∀ (n : Nat) (l : List (Int × Int)), l.length = n → (∀ d ∈ l, 0 ≤ d.1) → GOK (ghG l) (2 ^ n)
  | 0, l, h, _ => by
    have : l = [] := List.eq_nil_of_length_eq_zero h
    subst this
    have e : ∀ (g : Grid), g = ⟨1, 1, fun _ _ => 1⟩ → GOK g (2 ^ 0) := fun g hg y x => by
      subst hg
      show (box 1 1 (fun _ _ => 1) y x).natAbs ≤ 1
      unfold box
      split
      · show (1 : Int).natAbs ≤ 1; decide
      · decide
    exact e _ rfl
  | n + 1, l, h, hd => by
    have hne : l ≠ [] := by intro e; rw [e] at h; simp at h
    obtain ⟨l', d, rfl⟩ : ∃ l' d, l = l' ++ [d] := ⟨l.dropLast, l.getLast hne, (List.dropLast_concat_getLast hne).symm⟩
    rw [ghG_snoc, Nat.pow_succ, Nat.mul_comm]
    exact gok_minus (ghG_ok n l' (by simpa using h) fun e he => hd e (List.mem_append_left _ he)) (hd d (by simp))
theorem ghG_size (l : List (Int × Int)) (hd : ∀ d ∈ l, 0 ≤ d.1) : ((ghG l).R : Int) = 1 + upI l ∧ ((ghG l).C : Int) = 1 + overI l := by
  have := ghost_size l ⟨1, 1, fun _ _ => 1⟩ hd
  exact ⟨this.1, this.2⟩
def bgB (l : List (Int × Int)) : Bool := dirsB l && sizeOk (1 + upI l) (1 + overI l)
def bgM (l : List (Int × Int)) : List (List Int) := if bgB l = true then mkM (ghG l).R (ghG l).C (ghG l).f else []
end Go.Proofs.Ytjnnoabaepmcnaa
/-
  AddGhost of the program.
-/
namespace Go.Proofs.Ytjnnoabaepmcnaa
open Go.RowKit
set_option maxRecDepth 100000

/-- The image to which a grid is added. -/
def aghF (m g : List (List Int)) (y x : Int) : Nat → Nat → Int := addF (elM m) (elM g) 1 y.toNat x.toNat (widthM g) g.length 0
def aghS (m g : List (List Int)) (y x : Int) : List (List Int) := mkM m.length (widthM m) (aghF m g y x)
def aghB (m g : List (List Int)) (y x : Int) : Bool := okB m && gridB g && holdsB m.length (widthM m) g.length (widthM g) y x && okB (aghS m g y x)
def aghM (m g : List (List Int)) (y x : Int) : List (List Int) := if aghB m g y x = true then aghS m g y x else []
theorem gridOf_any (v : Value) (m : List (List Int)) (w : World) (hin : InMat w v m) :
    Calls Try.prog 39 #[v] w fun e w' => ∃ (R C : Int) (a : Option Addr) (n c : Nat), e = .returned (.tuple #[gridV R C (.slice a n c), .bool (gridB m)]) ∧ Below w.heap.size w w' := by
  cases h : gridB m with
  | false => exact (gridOf_no v m w hin h).mono fun e w' ⟨he, hb⟩ => ⟨0, 0, none, 0, 0, he, hb⟩
  | true =>
    obtain ⟨hm, hR, hC⟩ := gridB_mk h
    have h1 : InMat w v (mkM m.length (widthM m) (elM m)) := by rw [← hm]; exact hin
    refine (gridOf_yes v _ _ _ w h1 hR hC).mono fun e w' ⟨u, he, ho, hb⟩ => ?_
    obtain ⟨a, n, c, rfl⟩ := ownMat_slice ho
    exact ⟨_, _, a, n, c, he, hb⟩
theorem elM_mk {R C : Nat} {f : Nat → Nat → Int} {y x : Nat} (hy : y < R) (hx : x < C) : elM (mkM R C f) y x = f y x := by rw [elM, List.getD_eq_getElem?_getD, List.getD_eq_getElem?_getD, List.getElem?_eq_getElem (show y < (mkM R C f).length by rw [mkM_len]; exact hy), Option.getD_some, mkM_at, List.getElem?_eq_getElem (by rw [rowF_len]; exact hx), Option.getD_some, rowF_at]
theorem okB_elM {m : List (List Int)} (h : okB m = true) : Img m.length (widthM m) (elM m) := by
  obtain ⟨R, C, f, rfl, hI⟩ := ok_img h
  have h1 := hI.r1; have h2 := hI.r2; have h3 := hI.c1; have h4 := hI.c2
  have hw := width_mkM (C := C) (f := f) (show 0 < R by omega)
  rw [hw, mkM_len]
  refine ⟨h1, h2, h3, h4, fun y x hy hx => ?_⟩
  rw [elM_mk hy hx]
  exact hI.cell y x hy hx
theorem out_below {w w' : World} {lo hi R C : Nat} {q : Value} {G : Nat → Nat → Int} (h : OutMat w lo hi q R C G) (hb : Below w.heap.size w w') : OutMat w' lo hi q R C G := by
  obtain ⟨g, o, c, rfl, ha, hg, hrow⟩ := h
  have hs := hb.size
  refine ⟨g, o, c, rfl, ha, by omega, fun y hy => ?_⟩
  obtain ⟨g', o', c', h1, h2, h3, h4⟩ := hrow y hy
  exact ⟨g', o', c', below_cell hb hg h1, h2, by omega, fun x hx => below_cell hb h3 (h4 x hx)⟩
theorem okB_grid {m : List (List Int)} (h : okB m = true) : gridB m = true := by
  obtain ⟨R, C, f, rfl, hI⟩ := ok_img h
  have h1 := hI.r1; have h2 := hI.r2; have h3 := hI.c1; have h4 := hI.c2
  have hw := width_mkM (C := C) (f := f) (show 0 < R by omega)
  unfold gridB
  rw [hw, mkM_len, decide_eq_true (show R ≠ 0 by omega), sizeOk, decide_eq_true (show (1 : Int) ≤ R ∧ (R : Int) ≤ 5 by omega), decide_eq_true (show (1 : Int) ≤ C ∧ (C : Int) ≤ 5 by omega)]
  rw [anyRow_no fun r hr => by
    simp only [mkM, List.mem_map] at hr
    obtain ⟨y, -, rfl⟩ := hr
    rw [rowF_len]; simp]
  rfl
set_option maxHeartbeats 4000000 in
theorem implAgh_no (v vg : Value) (m g : List (List Int)) (y x : Int) (w : World) (hin : InMat w v m) (hg : InMat w vg g) (h : okB m = false) :
    Calls Try.prog 25 #[v, vg, .int .i64 y, .int .i64 x] w (MatRes2 [] false w) := by
  have HGB : Hid (∀ (w : World) (R C : Int) (a : Option Addr) (n c : Nat), Below w.heap.size w (w.alloc (.cells #[.int .i64 R, .int .i64 C, .slice a n c] 68))) := hide fun w _ _ _ _ _ => (Below.refl _ _).alloc (Nat.le_refl _) _
  have HI := hide hin; have HG := hide hg; have H := hide h
  have HC1 := hide (gridOf_any v m w hin)
  have HC2 := hide fun (w' : World) (hb : Below w.heap.size w w') => gridOf_any vg g w' (inMat_below hg hb)
  have HK := hide fun (w' : World) (hb : Below w.heap.size w w') => implImageOk_any v m w' (inMat_below hin hb)
  obtain ⟨bm, hbm⟩ : ∃ bm, bm = gridB m := ⟨_, rfl⟩
  obtain ⟨bg, hbg⟩ : ∃ bg, bg = gridB g := ⟨_, rfl⟩
  rw [← hbm] at HC1
  rw [← hbg] at HC2
  rw [h] at HK
  clear hin hg h hbm hbg
  go_enter Try.func25, Try.ntmps25
  go_wp2_with (first | ((with_reducible refine HC1.out.mono ?_); rintro e w1 ⟨R, C, xa, xn, xc, rfl, hb⟩; dsimp only [gridV]; have B1 := hide (hb.trans ((HGB.out w1 R C xa xn xc).mono hb.size)); clear hb) | ((with_reducible refine (HC2.out _ B1.out).mono ?_); rintro e w2 ⟨R2, C2, ya, yn, yc, rfl, hb⟩; dsimp only [gridV]; have B2 := hide (B1.out.trans ((hb.trans ((HGB.out w2 R2 C2 ya yn yc).mono hb.size)).mono B1.out.size)); clear hb) | ((with_reducible refine (HK.out _ B2.out).mono ?_); rintro e w3 ⟨rfl, rfl⟩))
  go_ret2
  exact ⟨_, rfl, ownMat_nil _ _ _, B2.out⟩
set_option maxHeartbeats 4000000 in
theorem implAgh_grid (v vg : Value) (g : List (List Int)) (R C : Nat) (F : Nat → Nat → Int) (y x : Int) (w : World) (hin : InMat w v (mkM R C F)) (hI : Img R C F) (hg : InMat w vg g) (h : gridB g = false) :
    Calls Try.prog 25 #[v, vg, .int .i64 y, .int .i64 x] w (MatRes2 [] false w) := by
  have HGB : Hid (∀ (w : World) (R C : Int) (a : Option Addr) (n c : Nat), Below w.heap.size w (w.alloc (.cells #[.int .i64 R, .int .i64 C, .slice a n c] 68)) ∧ GridAt (w.alloc (.cells #[.int .i64 R, .int .i64 C, .slice a n c] 68)) w.heap.size R C (.slice a n c)) := hide fun w _ _ _ _ _ => ⟨(Below.refl _ _).alloc (Nat.le_refl _) _, heap_alloc_new w _⟩
  have HC1 := hide (gridOf_yes v R C F w hin ⟨hI.r1, hI.r2⟩ ⟨hI.c1, hI.c2⟩)
  have HC2 := hide fun (w' : World) (hb : Below w.heap.size w w') => gridOf_no vg g w' (inMat_below hg hb) h
  have HK := hide fun (w' : World) (hb : Below w.heap.size w w') => implImageOk_any v _ w' (inMat_below hin hb)
  rw [img_ok hI] at HK
  clear hin hg h hI
  go_enter Try.func25, Try.ntmps25
  go_wp2_with (first | ((with_reducible refine HC1.out.mono ?_); rintro e w1 ⟨p, rfl, ho, hb⟩; obtain ⟨xa, xn, xc, rfl⟩ := ownMat_slice ho; dsimp only [gridV]; have O1 := hide (ownMat_below ho (HGB.out w1 R C xa xn xc).1); have P1 := hide (HGB.out w1 R C xa xn xc).2; have B1 := hide (hb.trans ((HGB.out w1 R C xa xn xc).1.mono hb.size)); have S1 := hide (show w1.heap.size ≤ (w1.alloc (.cells #[.int .i64 R, .int .i64 C, .slice xa xn xc] 68)).heap.size from (HGB.out w1 R C xa xn xc).1.size); clear hb ho) | ((with_reducible refine (HC2.out _ B1.out).mono ?_); rintro e w2 ⟨rfl, hb⟩; dsimp only [gridV]; have B2 := hide (B1.out.trans ((hb.trans ((HGB.out w2 0 0 none 0 0).1.mono hb.size)).mono B1.out.size)); clear hb) | ((with_reducible refine (HK.out _ B2.out).mono ?_); rintro e w3 ⟨rfl, rfl⟩))
  go_ret2
  exact ⟨_, rfl, ownMat_nil _ _ _, B2.out⟩
set_option maxHeartbeats 4000000 in
theorem implAgh_out (v vg : Value) (R C R2 C2 : Nat) (F G : Nat → Nat → Int) (y x : Int) (w : World) (hin : InMat w v (mkM R C F)) (hI : Img R C F) (hg : InMat w vg (mkM R2 C2 G)) (hR2 : 1 ≤ R2 ∧ R2 ≤ 5) (hC2 : 1 ≤ C2 ∧ C2 ≤ 5) (h : holdsB R C R2 C2 y x = false) :
    Calls Try.prog 25 #[v, vg, .int .i64 y, .int .i64 x] w (MatRes2 [] false w) := by
  have HGB : Hid (∀ (w : World) (R C : Int) (a : Option Addr) (n c : Nat), Below w.heap.size w (w.alloc (.cells #[.int .i64 R, .int .i64 C, .slice a n c] 68)) ∧ GridAt (w.alloc (.cells #[.int .i64 R, .int .i64 C, .slice a n c] 68)) w.heap.size R C (.slice a n c)) := hide fun w _ _ _ _ _ => ⟨(Below.refl _ _).alloc (Nat.le_refl _) _, heap_alloc_new w _⟩
  have HC1 := hide (gridOf_yes v R C F w hin ⟨hI.r1, hI.r2⟩ ⟨hI.c1, hI.c2⟩)
  have HC2 := hide fun (w' : World) (hb : Below w.heap.size w w') => gridOf_yes vg R2 C2 G w' (inMat_below hg hb) hR2 hC2
  have HK := hide fun (w' : World) (hb : Below w.heap.size w w') => implImageOk_any v _ w' (inMat_below hin hb)
  rw [img_ok hI] at HK
  have r1 := hI.r1; have r2 := hI.r2; have c1 := hI.c1; have c2 := hI.c2
  obtain ⟨r3, r4⟩ := hR2
  obtain ⟨c3, c4⟩ := hC2
  have H := hide h
  clear hin hg h hI
  go_enter Try.func25, Try.ntmps25
  go_wp2_with (first | ((with_reducible refine HC1.out.mono ?_); rintro e w1 ⟨p, rfl, ho, hb⟩; obtain ⟨xa, xn, xc, rfl⟩ := ownMat_slice ho; dsimp only [gridV]; have O1 := hide (ownMat_below ho (HGB.out w1 R C xa xn xc).1); have P1 := hide (HGB.out w1 R C xa xn xc).2; have B1 := hide (hb.trans ((HGB.out w1 R C xa xn xc).1.mono hb.size)); have S1 := hide (show w1.heap.size ≤ (w1.alloc (.cells #[.int .i64 R, .int .i64 C, .slice xa xn xc] 68)).heap.size from (HGB.out w1 R C xa xn xc).1.size); clear hb ho) | ((with_reducible refine (HC2.out _ B1.out).mono ?_); rintro e w2 ⟨q, rfl, ho, hb⟩; obtain ⟨ya, yn, yc, rfl⟩ := ownMat_slice ho; dsimp only [gridV]; have Q2 := hide (outMat_own (lo := w.heap.size) (ownMat_below ho (HGB.out w2 R2 C2 ya yn yc).1) S1.out (by omega) (by omega)); have hB2 := hb.trans ((HGB.out w2 R2 C2 ya yn yc).1.mono hb.size); have O2 := hide (ownMat_below O1.out hB2); have P2 := hide (gridAt_below P1.out hB2); have G2 := hide (HGB.out w2 R2 C2 ya yn yc).2; have B2 := hide (B1.out.trans (hB2.mono B1.out.size)); have S2 := hide (Nat.le_trans S1.out hB2.size); have S3 := hide (Nat.le_trans S1.out hb.size); obtain ⟨p0, p1, p2⟩ := gridAt_cells P2.out; obtain ⟨g0, g1, g2⟩ := gridAt_cells G2.out; clear hb ho hB2) | ((with_reducible refine (HK.out _ B2.out).mono ?_); rintro e w3 ⟨rfl, rfl⟩) | ((with_reducible refine (holds_any R C R2 C2 y x _ (by omega) (by omega) (by omega) (by omega)).mono ?_); rw [H.out]; rintro e w4 ⟨rfl, hb⟩; have B4 := hide (B2.out.trans (hb.mono B2.out.size)); clear hb))
  go_ret2
  exact ⟨_, rfl, ownMat_nil _ _ _, B4.out⟩
set_option maxHeartbeats 8000000 in
theorem implAgh_in (v vg : Value) (R C R2 C2 y0 x0 : Nat) (F G : Nat → Nat → Int) (b : Bool) (w : World) (hin : InMat w v (mkM R C F)) (hI : Img R C F) (hg : InMat w vg (mkM R2 C2 G)) (hR2 : 1 ≤ R2 ∧ R2 ≤ 5) (hC2 : 1 ≤ C2 ∧ C2 ≤ 5) (hy : y0 + R2 ≤ R) (hx : x0 + C2 ≤ C) (hb : okB (mkM R C (addF F G 1 y0 x0 C2 R2 0)) = b) :
    Calls Try.prog 25 #[v, vg, .int .i64 y0, .int .i64 x0] w (MatRes2 (if b = true then mkM R C (addF F G 1 y0 x0 C2 R2 0) else []) b w) := by
  have hld : holdsB R C R2 C2 y0 x0 = true := by
    unfold holdsB
    rw [decide_eq_true (by omega), decide_eq_true (by omega), decide_eq_true (by omega), decide_eq_true (by omega)]; rfl
  have HGB : Hid (∀ (w : World) (R C : Int) (a : Option Addr) (n c : Nat), Below w.heap.size w (w.alloc (.cells #[.int .i64 R, .int .i64 C, .slice a n c] 68)) ∧ GridAt (w.alloc (.cells #[.int .i64 R, .int .i64 C, .slice a n c] 68)) w.heap.size R C (.slice a n c)) := hide fun w _ _ _ _ _ => ⟨(Below.refl _ _).alloc (Nat.le_refl _) _, heap_alloc_new w _⟩
  have HC1 := hide (gridOf_yes v R C F w hin ⟨hI.r1, hI.r2⟩ ⟨hI.c1, hI.c2⟩)
  have HC2 := hide fun (w' : World) (hb : Below w.heap.size w w') => gridOf_yes vg R2 C2 G w' (inMat_below hg hb) hR2 hC2
  have HK := hide fun (w' : World) (hb : Below w.heap.size w w') => implImageOk_any v _ w' (inMat_below hin hb)
  rw [img_ok hI] at HK
  have r1 := hI.r1; have r2 := hI.r2; have c1 := hI.c1; have c2 := hI.c2
  obtain ⟨r3, r4⟩ := hR2
  obtain ⟨c3, c4⟩ := hC2
  have H := hide hld
  clear hin hg hI hld
  cases b with
  | false =>
    have HBB := hide hb
    clear hb
    go_enter Try.func25, Try.ntmps25
    go_wp2_with (first | ((with_reducible refine HC1.out.mono ?_); rintro e w1 ⟨p, rfl, ho, hb⟩; obtain ⟨xa, xn, xc, rfl⟩ := ownMat_slice ho; dsimp only [gridV]; have O1 := hide (ownMat_below ho (HGB.out w1 R C xa xn xc).1); have P1 := hide (HGB.out w1 R C xa xn xc).2; have B1 := hide (hb.trans ((HGB.out w1 R C xa xn xc).1.mono hb.size)); have S1 := hide (show w1.heap.size ≤ (w1.alloc (.cells #[.int .i64 R, .int .i64 C, .slice xa xn xc] 68)).heap.size from (HGB.out w1 R C xa xn xc).1.size); clear hb ho) | ((with_reducible refine (HC2.out _ B1.out).mono ?_); rintro e w2 ⟨q, rfl, ho, hb⟩; obtain ⟨ya, yn, yc, rfl⟩ := ownMat_slice ho; dsimp only [gridV]; have Q2 := hide (outMat_own (lo := w.heap.size) (ownMat_below ho (HGB.out w2 R2 C2 ya yn yc).1) S1.out (by omega) (by omega)); have hB2 := hb.trans ((HGB.out w2 R2 C2 ya yn yc).1.mono hb.size); have O2 := hide (ownMat_below O1.out hB2); have P2 := hide (gridAt_below P1.out hB2); have G2 := hide (HGB.out w2 R2 C2 ya yn yc).2; have B2 := hide (B1.out.trans (hB2.mono B1.out.size)); have S2 := hide (Nat.le_trans S1.out hB2.size); have S3 := hide (Nat.le_trans S1.out hb.size); obtain ⟨p0, p1, p2⟩ := gridAt_cells P2.out; obtain ⟨g0, g1, g2⟩ := gridAt_cells G2.out; clear hb ho hB2) | ((with_reducible refine (HK.out _ B2.out).mono ?_); rintro e w3 ⟨rfl, rfl⟩) | ((with_reducible refine (holds_any R C R2 C2 y0 x0 _ (by omega) (by omega) (by omega) (by omega)).mono ?_); rw [H.out]; rintro e w4 ⟨rfl, hb⟩; have B4 := hide (B2.out.trans (hb.mono B2.out.size)); have O4 := hide (ownMat_below O2.out hb); have P4 := hide (gridAt_below P2.out hb); have G4 := hide (gridAt_below G2.out hb); have Q4 := hide (out_below Q2.out hb); have S4 := hide (Nat.le_trans S2.out hb.size); clear p0 p1 p2 g0 g1 g2; obtain ⟨p0, p1, p2⟩ := gridAt_cells P4.out; obtain ⟨g0, g1, g2⟩ := gridAt_cells G4.out; clear hb) | ((with_reducible refine (add_any _ _ R C R2 C2 y0 x0 F G 1 w.heap.size w1.heap.size w4 O4.out Q4.out S4.out hy hx (by omega) (by omega) (by omega) (by omega)).mono ?_); rintro e w5 ⟨rfl, ho, hw⟩; have O5 := hide ho; have P5 := hide (gridAt_within P4.out hw (.inr (Nat.le_refl _))); have B5 := hide (B4.out.trans (below_within hw (Nat.le_refl _) B4.out.size)); have I5 := hide (implImageOk_any _ _ w5 (inMat_own ho)); have S5 := hide (Nat.le_trans S4.out hw.size); clear p0 p1 p2 g0 g1 g2 ho hw O4 P4 G4 Q4; obtain ⟨p0, p1, p2⟩ := gridAt_cells P5.out) | ((with_reducible refine I5.out.mono ?_); rw [HBB.out]; rintro e w6 ⟨rfl, rfl⟩))
    go_ret2
    exact ⟨_, rfl, ownMat_nil _ _ _, B5.out⟩
  | true =>
    have HBB := hide hb
    clear hb
    go_enter Try.func25, Try.ntmps25
    go_wp2_with (first | ((with_reducible refine HC1.out.mono ?_); rintro e w1 ⟨p, rfl, ho, hb⟩; obtain ⟨xa, xn, xc, rfl⟩ := ownMat_slice ho; dsimp only [gridV]; have O1 := hide (ownMat_below ho (HGB.out w1 R C xa xn xc).1); have P1 := hide (HGB.out w1 R C xa xn xc).2; have B1 := hide (hb.trans ((HGB.out w1 R C xa xn xc).1.mono hb.size)); have S1 := hide (show w1.heap.size ≤ (w1.alloc (.cells #[.int .i64 R, .int .i64 C, .slice xa xn xc] 68)).heap.size from (HGB.out w1 R C xa xn xc).1.size); clear hb ho) | ((with_reducible refine (HC2.out _ B1.out).mono ?_); rintro e w2 ⟨q, rfl, ho, hb⟩; obtain ⟨ya, yn, yc, rfl⟩ := ownMat_slice ho; dsimp only [gridV]; have Q2 := hide (outMat_own (lo := w.heap.size) (ownMat_below ho (HGB.out w2 R2 C2 ya yn yc).1) S1.out (by omega) (by omega)); have hB2 := hb.trans ((HGB.out w2 R2 C2 ya yn yc).1.mono hb.size); have O2 := hide (ownMat_below O1.out hB2); have P2 := hide (gridAt_below P1.out hB2); have G2 := hide (HGB.out w2 R2 C2 ya yn yc).2; have B2 := hide (B1.out.trans (hB2.mono B1.out.size)); have S2 := hide (Nat.le_trans S1.out hB2.size); have S3 := hide (Nat.le_trans S1.out hb.size); obtain ⟨p0, p1, p2⟩ := gridAt_cells P2.out; obtain ⟨g0, g1, g2⟩ := gridAt_cells G2.out; clear hb ho hB2) | ((with_reducible refine (HK.out _ B2.out).mono ?_); rintro e w3 ⟨rfl, rfl⟩) | ((with_reducible refine (holds_any R C R2 C2 y0 x0 _ (by omega) (by omega) (by omega) (by omega)).mono ?_); rw [H.out]; rintro e w4 ⟨rfl, hb⟩; have B4 := hide (B2.out.trans (hb.mono B2.out.size)); have O4 := hide (ownMat_below O2.out hb); have P4 := hide (gridAt_below P2.out hb); have G4 := hide (gridAt_below G2.out hb); have Q4 := hide (out_below Q2.out hb); have S4 := hide (Nat.le_trans S2.out hb.size); clear p0 p1 p2 g0 g1 g2; obtain ⟨p0, p1, p2⟩ := gridAt_cells P4.out; obtain ⟨g0, g1, g2⟩ := gridAt_cells G4.out; clear hb) | ((with_reducible refine (add_any _ _ R C R2 C2 y0 x0 F G 1 w.heap.size w1.heap.size w4 O4.out Q4.out S4.out hy hx (by omega) (by omega) (by omega) (by omega)).mono ?_); rintro e w5 ⟨rfl, ho, hw⟩; have O5 := hide ho; have P5 := hide (gridAt_within P4.out hw (.inr (Nat.le_refl _))); have B5 := hide (B4.out.trans (below_within hw (Nat.le_refl _) B4.out.size)); have I5 := hide (implImageOk_any _ _ w5 (inMat_own ho)); have S5 := hide (Nat.le_trans S4.out hw.size); clear p0 p1 p2 g0 g1 g2 ho hw O4 P4 G4 Q4; obtain ⟨p0, p1, p2⟩ := gridAt_cells P5.out) | ((with_reducible refine I5.out.mono ?_); rw [HBB.out]; rintro e w6 ⟨rfl, rfl⟩))
    go_ret2
    exact ⟨_, rfl, ownMat_mono O5.out (Nat.le_refl _) S5.out, B5.out⟩
theorem implAddGhost_any (v vg : Value) (m g : List (List Int)) (y x : Int) (w : World) (hin : InMat w v m) (hg : InMat w vg g) :
    Calls Try.prog 25 #[v, vg, .int .i64 y, .int .i64 x] w (MatRes2 (aghM m g y x) (aghB m g y x) w) := by
  cases h1 : okB m with
  | false =>
    have e : aghB m g y x = false := by rw [aghB, h1]; rfl
    rw [aghM, e]
    exact implAgh_no v vg m g y x w hin hg h1
  | true =>
    obtain ⟨hm, hR, hC⟩ := gridB_mk (okB_grid h1)
    have hin1 : InMat w v (mkM m.length (widthM m) (elM m)) := by rw [← hm]; exact hin
    have hI : Img m.length (widthM m) (elM m) := okB_elM h1
    cases h2 : gridB g with
    | false =>
      have e : aghB m g y x = false := by rw [aghB, h1, h2]; rfl
      rw [aghM, e]
      exact implAgh_grid v vg g _ _ _ y x w hin1 hI hg h2
    | true =>
      obtain ⟨hgm, hR2, hC2⟩ := gridB_mk h2
      have hg1 : InMat w vg (mkM g.length (widthM g) (elM g)) := by rw [← hgm]; exact hg
      cases h3 : holdsB m.length (widthM m) g.length (widthM g) y x with
      | false =>
        have e : aghB m g y x = false := by rw [aghB, h1, h2, h3]; rfl
        rw [aghM, e]
        exact implAgh_out v vg _ _ _ _ _ _ y x w hin1 hI hg1 hR2 hC2 h3
      | true =>
        have e : aghB m g y x = okB (aghS m g y x) := by rw [aghB, h1, h2, h3]; rfl
        rw [aghM, e]
        simp only [holdsB, Bool.and_eq_true, decide_eq_true_eq] at h3
        have hy : ((y.toNat : Nat) : Int) = y := by omega
        have hx : ((x.toNat : Nat) : Int) = x := by omega
        have := implAgh_in v vg _ _ _ _ y.toNat x.toNat _ _ _ w hin1 hI hg1 hR2 hC2 (by omega) (by omega) rfl
        rw [hy, hx] at this
        exact this
end Go.Proofs.Ytjnnoabaepmcnaa
/-
  PURE: the difference of two images with the same sums.
-/
namespace Go.Proofs.Ytjnnoabaepmcnaa
open Go.RowKit Go.Katz

/-- What must be added to f to have g. -/
def subF (f g : Nat → Nat → Int) (y x : Nat) : Int := g y x - f y x
def twoD : List (Int × Int) := [(1, 0), (0, 1)]
theorem elL_sub (C : Nat) (f g : Nat → Nat → Int) (d : Int × Int) (n : Int) (i : Nat) : elL C (subF f g) d n i = elL C g d n i - elL C f d n i := by
  unfold elL subF; split <;> simp
theorem sumF_sub (u v : Nat → Int) : ∀ n, sumF (fun i => u i - v i) n = sumF u n - sumF v n
  | 0 => rfl
  | n + 1 => by rw [sumF, sumF, sumF, sumF_sub u v n]; omega
theorem elL_cnt {R C : Nat} {f : Nat → Nat → Int} (hI : Img R C f) (d : Int × Int) (n : Int) : sumF (elL C f d n) (C * R) = (cnt (onL C f d n) (C * R) : Nat) := sumF_cnt fun i hi => by
  have hC := hI.c1
  have h1 : i / C < R := (Nat.div_lt_iff_lt_mul (by omega)).2 (by rw [Nat.mul_comm]; exact hi)
  have h2 : i % C < C := Nat.mod_lt _ (by omega)
  unfold elL onL
  rcases hI.cell _ _ h1 h2 with e | e <;> rw [e] <;> by_cases h : lnum d.1 d.2 C (i / C : Nat) (i % C : Nat) = n <;> simp
theorem sub_lines {R C : Nat} {f g : Nat → Nat → Int} (hI : Img R C f) (hJ : Img R C g) (hs : SameF R C f g) (d : Int × Int) (hd : d ∈ twoD) (n : Int) : sumF (elL C (subF f g) d n) (C * R) = 0 := by
  have e1 : sumF (elL C (subF f g) d n) (C * R) = sumF (fun i => elL C g d n i - elL C f d n i) (C * R) := sumF_congr fun i _ => elL_sub C f g d n i
  rw [e1, sumF_sub, elL_cnt hI, elL_cnt hJ]
  simp only [twoD, List.mem_cons, List.not_mem_nil, or_false] at hd
  rcases hd with rfl | rfl
  · rw [cnt_rows, cnt_rows]
    by_cases h : 0 ≤ n ∧ n < R
    · rw [if_pos h, if_pos h, hs.1 n.toNat (by omega)]; omega
    · rw [if_neg h, if_neg h]; omega
  · rw [cnt_cols, cnt_cols]
    by_cases h : 0 ≤ n ∧ n < C
    · rw [if_pos h, if_pos h, hs.2 (C - 1 - n.toNat) (by omega)]; omega
    · rw [if_neg h, if_neg h]; omega
theorem sub_small {R C : Nat} {f g : Nat → Nat → Int} (hI : Img R C f) (hJ : Img R C g) {y x : Nat} (hy : y < R) (hx : x < C) : -1 ≤ subF f g y x ∧ subF f g y x ≤ 1 := by
  unfold subF
  rcases hI.cell y x hy hx with e | e <;> rcases hJ.cell y x hy hx with e2 | e2 <;> rw [e, e2] <;> omega
theorem rowF_all {C : Nat} {f : Nat → Int} {p : Int → Bool} : (rowF C f).all p = true ↔ ∀ x, x < C → p (f x) = true := by
  simp [rowF, List.all_eq_true]
theorem sub_grid {R C : Nat} {f g : Nat → Nat → Int} (hI : Img R C f) (hJ : Img R C g) : gridOkB (mkM R C (subF f g)) = true := by
  have h1 := hI.r1; have h2 := hI.r2; have h3 := hI.c1; have h4 := hI.c2
  have hw := width_mkM (C := C) (f := subF f g) (show 0 < R by omega)
  unfold gridOkB gridB
  rw [hw, mkM_len, decide_eq_true (show R ≠ 0 by omega), sizeOk, decide_eq_true (show (1 : Int) ≤ R ∧ (R : Int) ≤ 5 by omega), decide_eq_true (show (1 : Int) ≤ C ∧ (C : Int) ≤ 5 by omega)]
  rw [anyRow_no fun r hr => by
    simp only [mkM, List.mem_map] at hr
    obtain ⟨y, -, rfl⟩ := hr
    rw [rowF_len]; simp]
  simp only [Bool.and_self, Bool.not_false, Bool.true_and]
  rw [List.all_eq_true]
  intro r hr
  simp only [mkM, List.mem_map, List.mem_range] at hr
  obtain ⟨y, hy, rfl⟩ := hr
  unfold within
  rw [rowF_all]
  intro x hx
  have := sub_small hI hJ hy hx
  exact decide_eq_true (by omega)
theorem sub_gsL {R C : Nat} {f g : Nat → Nat → Int} (hI : Img R C f) (hJ : Img R C g) (hs : SameF R C f g) (d : Int × Int) (hd : d ∈ twoD) : within (gsL (mkM R C (subF f g)) d.1 d.2) 0 = true := by
  have h1 := hI.r1; have h3 := hI.c1
  have hw := width_mkM (C := C) (f := subF f g) (show 0 < R by omega)
  unfold gsL
  split
  · rw [hw, mkM_len]
    unfold lineRowE within
    rw [rowF_all]
    intro i _
    have e : sumF (elL C (elM (mkM R C (subF f g))) (d.1, d.2) i) (R * C) = sumF (elL C (subF f g) d i) (C * R) := by
      rw [Nat.mul_comm]
      refine sumF_congr fun j hj => ?_
      have h1 : j / C < R := (Nat.div_lt_iff_lt_mul (by omega)).2 (by rw [Nat.mul_comm]; exact hj)
      have h2 : j % C < C := Nat.mod_lt _ (by omega)
      unfold elL
      rw [elM_mk h1 h2]
    rw [e, sub_lines hI hJ hs d hd]
    decide
  · rfl
theorem sub_ghost {R C : Nat} {f g : Nat → Nat → Int} (hI : Img R C f) (hJ : Img R C g) (hs : SameF R C f g) : ghostB (mkM R C (subF f g)) twoD = !(mkM R C f == mkM R C g) := by
  have hd : dirsB twoD = true := by decide
  unfold ghostB
  rw [hd, sub_grid hI hJ]
  have hl : (twoD.all fun d => within (gsL (mkM R C (subF f g)) d.1 d.2) 0) = true := by
    rw [List.all_eq_true]; exact fun d hd => sub_gsL hI hJ hs d hd
  rw [hl, Bool.and_true, Bool.true_and, Bool.true_and]
  by_cases h : ∀ y x, y < R → x < C → f y x = g y x
  · have e : mkM R C f = mkM R C g := mkM_congr h
    rw [e, beq_self_eq_true, Bool.not_true, List.any_eq_false]
    intro r hr
    simp only [mkM, List.mem_map, List.mem_range] at hr
    obtain ⟨y, hy, rfl⟩ := hr
    have : within (rowF C (subF f g y)) 0 = true := by
      unfold within
      rw [rowF_all]
      intro x hx
      have := h y x hy hx
      unfold subF
      exact decide_eq_true (by omega)
    simp [this]
  · have hne : (mkM R C f == mkM R C g) = false := by
      rw [beq_eq_false_iff_ne]
      intro e
      apply h
      intro y x hy hx
      rw [← elM_mk (f := f) hy hx, e, elM_mk hy hx]
    rw [hne, Bool.not_false, List.any_eq_true]
    have h : ∃ y x, y < R ∧ x < C ∧ f y x ≠ g y x := Classical.byContradiction fun hn => h fun y x hy hx => Classical.byContradiction fun hc => hn ⟨y, x, hy, hx, hc⟩
    obtain ⟨y, x, hy, hx, hc⟩ := h
    refine ⟨rowF C (subF f g y), List.mem_map.2 ⟨y, List.mem_range.2 hy, rfl⟩, ?_⟩
    have : within (rowF C (subF f g y)) 0 = false := by
      cases hb : within (rowF C (subF f g y)) 0 with
      | false => rfl
      | true =>
        unfold within at hb
        rw [rowF_all] at hb
        have := of_decide_eq_true (hb x hx)
        unfold subF at this
        omega
    rw [this]; rfl
theorem sub_add {R C : Nat} {f g : Nat → Nat → Int} (hI : Img R C f) (hJ : Img R C g) : aghM (mkM R C f) (mkM R C (subF f g)) 0 0 = mkM R C g ∧ aghB (mkM R C f) (mkM R C (subF f g)) 0 0 = true := by
  have h1 := hI.r1; have h2 := hI.r2; have h3 := hI.c1; have h4 := hI.c2
  have hw := width_mkM (C := C) (f := subF f g) (show 0 < R by omega)
  have hwf := width_mkM (C := C) (f := f) (show 0 < R by omega)
  have hS : aghS (mkM R C f) (mkM R C (subF f g)) 0 0 = mkM R C g := by
    unfold aghS aghF
    rw [hw, hwf, mkM_len, mkM_len]
    refine mkM_congr fun y x hy hx => ?_
    rw [addF_val, if_pos (by omega)]
    simp only [Int.toNat_zero, Nat.sub_zero]
    rw [elM_mk hy hx, elM_mk hy hx]
    have := sub_small hI hJ hy hx
    rw [Int.one_mul, wrap_small (z := subF f g y x) (by omega)]
    have hf := hI.cell y x hy hx
    rw [wrap_small (by omega)]
    unfold subF; omega
  have hB : aghB (mkM R C f) (mkM R C (subF f g)) 0 0 = true := by
    have hg := sub_grid hI hJ
    unfold gridOkB at hg
    rw [Bool.and_eq_true] at hg
    have hh : holdsB (mkM R C f).length (widthM (mkM R C f)) (mkM R C (subF f g)).length (widthM (mkM R C (subF f g))) 0 0 = true := by
      rw [hw, hwf, mkM_len, mkM_len]; unfold holdsB
      simp only [Bool.and_eq_true, decide_eq_true_eq]
      omega
    rw [aghB, img_ok hI, hg.1, hh, hS, img_ok hJ]; rfl
  exact ⟨by rw [aghM, hB, if_pos rfl, hS], hB⟩
theorem bg_two : bgM twoD = [[1, -1], [-1, 1]] ∧ bgB twoD = true := by decide +kernel
end Go.Proofs.Ytjnnoabaepmcnaa
/-
  Contracts of the library, at this translation: laid by the shelf, in plain declarations.
-/
namespace Go.Proofs
open Go.Shelf Go.RowKit Go.Lib
def Try.laysNm215_ren : Go.Shelf.Ren := ⟨fun | 15 => 75 | n => n, fun | 22 => 30 | 3 => 3 | 4 => 4 | n => n, fun | n => n⟩
theorem Try.laysNm215 : Go.Proofs.Lays2.n15 Try.prog Try.laysNm215_ren := {
  mixed := by kernel_rfl
  f15 := Try.func75.trans (congrArg some (by kernel_rfl))
  t3 := Try.underlying3
  a3 := Try.isAgg3
  z3 := Try.sizeOf3
  v3 := Try.zeroValue3
  t4 := Try.underlying4
  a4 := Try.isAgg4
  z4 := Try.sizeOf4
  v4 := Try.zeroValue4
  t22 := Try.underlying30
  a22 := Try.isAgg30
  z22 := Try.sizeOf30
  v22 := Try.zeroValue30
  i3 := by kernel_rfl }
theorem Try.slices_Clone_int (b off n c : Nat) (zs : List Int) (w : World) (hz : n ≤ zs.length) (hbig : n * 8 ≤ 140737488355328) (hc : ∀ j, j < zs.length → w.cell? ⟨b, off + j, none⟩ = some (.int .i64 (zs.getD j 0))) :
    Calls Try.prog 75 #[.slice (some ⟨b, off, none⟩) n c] w fun e w' => ∃ v', e = .returned v' ∧ w'.ownsRow w.heap.size 3 1 v' n ((zs.take n).map (Value.int .i64)) ∧ v' ≠ .slice none 0 0 ∧ Below w.heap.size w w' := Any.slices_Clone_int Try.laysNm215 b off n c zs w hz hbig hc
theorem Try.slices_Clone_int_nil (n c : Nat) (w : World) :
    Calls Try.prog 75 #[.slice none n c] w fun e w' => e = .returned (.slice none 0 0) ∧ w' = w := Any.slices_Clone_int_nil Try.laysNm215 n c w
theorem Try.slices_Clone_int_zero (a : Addr) (c : Nat) (w : World) :
    Calls Try.prog 75 #[.slice (some a) 0 c] w fun e w' => ∃ v', e = .returned v' ∧ w'.ownsRow w.heap.size 3 1 v' 0 [] ∧ v' ≠ .slice none 0 0 ∧ Below w.heap.size w w' := Any.slices_Clone_int_zero Try.laysNm215 a c w
end Go.Proofs
