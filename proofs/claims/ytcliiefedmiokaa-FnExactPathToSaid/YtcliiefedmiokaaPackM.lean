/-
  Texts of this claim, one behind the other: Path, SwH, Rev, SameB, PTo, Fnd, PToS, SpecP.
-/
import Derived.Test.YtcliiefedmiokaaPackL
import Derived.Test.YtcliiefedmiokaaPackK
import Derived.Test.YtcliiefedmiokaaPackA
import Derived.Test.YtcliiefedmiokaaPackD
import Derived.RegionTactic
import Derived.BigRegion
import Derived.Deep.LoopGhost
import Derived.Test.YtcliiefedmiokaaPackJ
import Derived.Test.YtcliiefedmiokaaPackG
import Derived.Test.YtcliiefedmiokaaPackI
/-
  pathTo of the program, walked.
-/
namespace Go.Proofs.Ytcliiefedmiokaa
open Go.RowKit
set_option maxRecDepth 100000

/-- slices.Reverse at switches: what it leaves. -/
@[reducible] def RevAt : Prop := ∀ (v : Value) (l : List Sw) (lo : Nat) (w : World), OwnSws w lo v l → l.length ≤ 65536 →
  Calls Try.prog 117 #[v] w fun e w' => e = .returned (.tuple #[]) ∧ OwnSws w' lo v l.reverse ∧ w.grownBy w' v.ownBlock
theorem eqGuard_sw (s u : Sw) (x y : Operand) (w : World) : (eqGuard .neq 45 x y (swV s) (swV u)).run Try.prog w = .ok () w := by
  simp [eqGuard, swV, Result.andThen]
theorem wpList_lookupX {R C : Nat} {m : List (List Int)} {L : List (List (List Int))} {V : List (List Sw)} {k K i : Nat} {ops : Array Oper} {rest : List Oper} {o : Oper} {a : Act} {Q : Exit → Act → World → Prop} {W : World} {b : Nat} {z : List (List Int)} {s : Sw} (hm : Node R C m) (hb : Bfs m L V k K) (h : ImgMap W b (ksOf R C L V)) (hi : i < L.length) (hz : z = L.getD i []) (hs : s = lastS (V.getD i []))
    (d : Tmp) (_hd : o.dst = some d) (hgd : o.guard = none) (y x : Operand) (ho : o.op = .lookup 82 y x false) (hy : a.eval y = .map (some b)) (hx : a.eval x = .agg (vec 25 (imgC R C z)))
    (hK : wpList Try.prog ops Q rest (a.put o.dst (swV s)) W) : wpList Try.prog ops Q (o :: rest) a W := by
  subst hz; subst hs
  exact wpList_lookupAt hm hb h hi d _hd hgd y x ho hy hx hK
/-- What stands at the loop: image i, its way still to go, the switches so far. -/
def PtSt (w : World) (R C b : Nat) (L : List (List (List Int))) (V : List (List Sw)) (P : List Sw) (i gw : Nat) (v : Value) (w' : World) : Prop :=
  ∃ path, path ++ (V.getD i []).reverse = P.reverse ∧ path.length + (V.getD i []).length = P.length ∧ SwAt w' gw (lastS (V.getD i [])) ∧ w.heap.size + 1 ≤ gw ∧ v.ownBlock ≠ some gw ∧ Blk w' w.heap.size 78 25 (imgC R C (L.getD i [])) ∧ OwnSws w' (w.heap.size + 1) v path ∧ ImgMap w' b (ksOf R C L V) ∧ Below w.heap.size w w'
set_option maxHeartbeats 4000000 in
theorem pathTo_any (hrev : RevAt) {R C : Nat} {m : List (List Int)} {L : List (List (List Int))} {V : List (List Sw)} {k0 K i0 b : Nat} (w : World) (hm : Node R C m) (hR : R ≤ 4) (hC : C ≤ 4) (hb : Bfs m L V k0 K) (hi : i0 < L.length) (hmap : ImgMap w b (ksOf R C L V)) :
    Calls Try.prog 76 #[.map (some b), .agg (vec 25 (imgC R C (L.getD i0 [])))] w (SwsRes (V.getD i0 []) w) := by
  have HM := hide hm; have HBF := hide hb; have HREV := hide hrev
  have HPL : Hid ((V.getD i0 []).length ≤ 65536) := hide (by have := tree_len hb i0 i0 (Nat.le_refl _) hi; have := bfs_size hm hR hC hb; omega)
  have HI0 := hide hi
  have HBL := imgMap_lt hmap
  obtain ⟨x0, hx0⟩ : ∃ x, x = L.getD i0 [] := ⟨_, rfl⟩
  have HX0 := hide hx0
  obtain ⟨q0, hq0⟩ : ∃ s, s = lastS (V.getD i0 []) := ⟨_, rfl⟩
  have HQ0 := hide hq0
  rw [← hx0]
  have al := (Below.refl w.heap.size w).alloc (Nat.le_refl _) (.cells (vec 25 (imgC R C x0)) 78)
  have hp : Blk _ w.heap.size 78 25 (imgC R C x0) := heap_alloc_new w (.cells (vec 25 (imgC R C x0)) 78)
  have HMA := hide (imgMap_below hmap al)
  have hsa : (w.alloc (.cells (vec 25 (imgC R C x0)) 78)).heap.size = w.heap.size + 1 := by simp
  obtain ⟨w1, hw1⟩ : ∃ w1, w1 = w.alloc (.cells (vec 25 (imgC R C x0)) 78) := ⟨_, rfl⟩
  have HW1 := hide hw1
  have HAL := hide al
  obtain ⟨P, hP⟩ : ∃ P, P = V.getD i0 [] := ⟨_, rfl⟩
  have HP := hide hP
  rw [← hP] at HPL ⊢
  clear hm hb hi hmap hrev hR hC hP hx0 hq0 hw1 al
  go_enter Try.func76, Try.ntmps76
  go_wp2_with (first | (with_reducible refine wpList_loadVec hp 8 rfl rfl _ rfl rfl Try.underlying78 Try.sizeImg ?_) | (with_reducible refine wpList_lookupX HM.out HBF.out HMA.out HI0.out HX0.out HQ0.out 9 rfl rfl (.tmp 7) (.tmp 8) rfl rfl rfl ?_) | ((with_reducible refine wpList_allocSw 6 rfl rfl rfl ?_); intro w2 h2 b2 s2) | ((refine wpList_storeSw h2 q0 rfl (.tmp 6) (.tmp 9) rfl rfl rfl ?_); intro w3 h3 g3 s3))
  rw [hsa] at h2 h3 b2 g3 s2
  have b3 := b2.trans (grown_below g3 (fun k hk => by cases hk; exact Nat.le_refl _) (by omega))
  have b4 := HAL.out.trans (b3.mono (Nat.le_succ _))
  have HST : Hid (PtSt w R C b L V P i0 (w.heap.size + 1) (.slice none 0 0) w3) := hide ⟨[], by rw [← HP.out]; rfl, by rw [← HP.out]; simp, by rw [← HQ0.out]; exact h3, Nat.le_refl _, by simp [Value.ownBlock], by rw [← HX0.out]; exact blk_below hp (by rw [hsa]; exact b3), ownSws_nil _ _, imgMap_below HMA.out (by rw [hsa]; exact b3), b4⟩
  have HSA := hide hsa
  clear h2 h3 b2 g3 s2 s3 b3 b4 hp hsa HAL HMA HW1
  go_frame
  go_loopg [5, 6] P.length (fun g v u w' => ∃ i gw, (V.getD i []).length = g ∧ i < L.length ∧ u = .pointer (some ⟨gw, 0, none⟩) ∧ PtSt w R C b L V P i gw v w')
  case atStart => exact ⟨i0, w.heap.size + 1, by rw [← HP.out], HI0.out, by rw [HSA.out], HST.out⟩
  case round =>
    clear HST HI0 HX0 HQ0
    obtain ⟨i, gw, hlen, hi, rfl, hst⟩ := hrel
    have HI := hide hi; have HST := hide hst
    obtain ⟨path, hp1, hp2, hp3, hp4, hp5, hp6, hp7, hp8, hp9⟩ := hst
    have HP1 := hide hp1; have HO := hide hp7
    cases gk with
    | zero =>
      have hnil : V.getD i [] = [] := List.eq_nil_of_length_eq_zero hlen
      have HS := hide hp3
      rw [hnil] at HS HP1
      have hneq : ∀ w, (binOp .neq 45 (swV zeroSw) (.agg #[.int .i64 0, .int .i64 0, .int .i64 0, .int .i64 0])).run Try.prog w = .ok (.bool false) w := run_neqSw zero_wf zero_wf false (by simp)
      have heg : ∀ w, (eqGuard .neq 45 (.tmp 10) (.tmp 11) (swV zeroSw) (.agg #[.int .i64 0, .int .i64 0, .int .i64 0, .int .i64 0])).run Try.prog w = .ok () w := eqGuard_sw zeroSw zeroSw _ _
      unfold lastS at HS
      rw [List.getLastD_nil] at HS
      have HPE : Hid (path = P.reverse) := hide (by simpa using HP1.out)
      have HPR : Hid (path.length ≤ 65536) := hide (by have := HPL.out; omega)
      have HBW := hide hp9
      clear hlen hi hp1 hp2 hp3 hp4 hp5 hp6 hp7 hp8 hp9 hnil HST
      go_wp2_with (first | (with_reducible refine wpList_loadSw HS.out 10 rfl rfl _ rfl rfl ?_) | ((with_reducible refine (HREV.out _ path (w.heap.size + 1) _ HO.out HPR.out).mono ?_); rintro e w9 ⟨rfl, ho9, g9⟩))
      go_ret
      exact ⟨_, rfl, by rw [show P = path.reverse by rw [HPE.out, List.reverse_reverse]]; exact ownSws_base ho9 (Nat.le_succ _), HBW.out.trans (grown_below g9 (fun k hk => Nat.le_trans (Nat.le_succ _) (HO.out.lt k hk).1) HBW.out.size)⟩
    | succ g =>
      obtain ⟨j, s, hj, he, hjl, hsb, hfl⟩ := tree_back HM.out HBF.out hi hlen
      have HJ := hide hj; have HJL := hide hjl
      have HNX := hide (bfs_node HM.out HBF.out hi)
      have HNY := hide (bfs_node HM.out HBF.out hj)
      rw [he, lastS_snoc] at hp3
      have HPE : Hid ((path ++ [s]) ++ (V.getD j []).reverse = P.reverse) := hide (by rw [← hp1, he]; simp)
      have HPN : Hid ((path ++ [s]).length + (V.getD j []).length = P.length) := hide (by rw [← hp2, he]; simp; omega)
      have HPR : Hid (path.length < 4000000) := hide (by have := HPL.out; omega)
      obtain ⟨x, hx⟩ : ∃ x, x = L.getD i [] := ⟨_, rfl⟩
      obtain ⟨y, hy⟩ : ∃ y, y = L.getD j [] := ⟨_, rfl⟩
      obtain ⟨s2, hs2⟩ : ∃ s2, s2 = lastS (V.getD j []) := ⟨_, rfl⟩
      have HY := hide hy; have HS2 := hide hs2
      rw [← hx] at HNX hsb hfl hp6
      rw [← hy] at HNY hfl
      have HSB := hide hsb; have HFL := hide hfl
      obtain ⟨hw1, hw2⟩ := swB_wf HNX.out hsb
      have hneq : ∀ w, (binOp .neq 45 (swV s) (.agg #[.int .i64 0, .int .i64 0, .int .i64 0, .int .i64 0])).run Try.prog w = .ok (.bool true) w := run_neqSw hw1 zero_wf true (by simpa using hw2)
      have heg : ∀ w, (eqGuard .neq 45 (.tmp 10) (.tmp 11) (swV s) (.agg #[.int .i64 0, .int .i64 0, .int .i64 0, .int .i64 0])).run Try.prog w = .ok () w := eqGuard_sw s zeroSw _ _
      have HS := hide hp3; have HG := hide hp4; have HNE := hide hp5; have HX := hide hp6; have HMP := hide hp8; have HB := hide hp9
      have HGL := hide (swAt_lt hp3)
      have HZ : Hid (w.heap.size + 1 ≤ wr.heap.size) := hide (by have := swAt_lt hp3; omega)
      clear hlen hi hp1 hp2 hp3 hp4 hp5 hp6 hp7 hp8 hp9 hj he hjl hsb hfl hx hy hs2 hw1 hw2 HST
      go_wp2_with (first | (with_reducible refine wpList_loadSw HS.out 10 rfl rfl _ rfl rfl ?_) | (with_reducible refine wpList_loadSw HS.out 17 rfl rfl _ rfl rfl ?_) | (with_reducible refine wpList_buildOneA (swA s) _ 18 rfl rfl (.tmp 17) rfl rfl Try.underlying40 Try.infoSw (by decide) (by decide) rfl ?_) | (at_builtin; refine wpList_pushA HO.out (swA s) _ rfl _ _ rfl Try.underlying40 Try.infoSw rfl (by decide) (by decide) rfl rfl rfl (swA_one s) HPR.out HZ.out ?_; intro g1 cap wa hown ba ga ata lta; have A1 := hide (swAt_grown HS.out ga HNE.out); have A2 : Hid (Blk wa w.heap.size 78 25 (imgC R C x)) := hide (by have := HX.out; unfold Blk at this ⊢; rw [ba.block w.heap.size (Nat.lt_succ_self _)]; exact this); have A3 := hide (imgMap_heap HMP.out (ba.block b (by omega))); have A4 := hide hown; have A5 := hide (HB.out.trans (ba.mono (Nat.le_succ _))); have A6 : Hid (g1 ≠ gw) := hide (ata.elim (fun e e2 => HNE.out (by rw [e, e2])) (fun e => by have := HGL.out; omega)); clear hown ba ga ata lta) | (with_reducible refine wpList_loadVec A2.out 20 rfl rfl _ rfl rfl Try.underlying78 Try.sizeImg ?_) | (with_reducible refine wpList_loadSw A1.out 21 rfl rfl _ rfl rfl ?_) | ((with_reducible refine (imgC_flip _ HNX.out HSB.out).mono ?_); rw [HFL.out]; rintro e w10 ⟨rfl, hb⟩; have B1 := hide (swAt_below A1.out hb); have B2 := hide (blk_below A2.out hb); have B3 := hide (imgMap_below A3.out hb); have B4 := hide (ownA_below A4.out hb); have B5 := hide (A5.out.trans (hb.mono A5.out.size)); clear hb A1 A2 A3 A4 A5) | ((with_reducible refine wpList_storeVec B2.out rfl (.tmp 3) (.tmp 22) rfl rfl rfl Try.sizeImg ?_); intro wb hk gb sb; have C1 := hide (swAt_grown B1.out gb (by intro e; have := Option.some.inj e; have := HG.out; omega)); have C2 := hide hk; have C3 := hide (imgMap_grown B3.out gb (by intro e; have := Option.some.inj e; omega)); have C4 := hide (B4.out.kept gb (.inr (by intro e; have := (B4.out.lt _ e).1; omega))); have C5 := hide (B5.out.trans (grown_below gb (fun k hk => by cases hk; exact Nat.le_refl _) B5.out.size)); clear hk gb sb B1 B2 B3 B4 B5) | (with_reducible refine wpList_loadSw C1.out 23 rfl rfl _ rfl rfl ?_) | ((with_reducible refine wpList_allocSw 6 rfl rfl rfl ?_); intro wc hc bc sc) | ((with_reducible refine wpList_storeSw hc s rfl (.tmp 6) (.tmp 23) rfl rfl rfl ?_); intro wd hd gd sd; have bd := bc.trans (grown_below gd (fun k hk => by cases hk; exact Nat.le_refl _) bc.size); have D1 := hide hd; have D2 := hide (blk_below C2.out bd); have D3 := hide (imgMap_below C3.out bd); have D4 := hide (ownA_below C4.out bd); have D5 := hide (C5.out.trans (bd.mono C5.out.size)); have D6 : Hid (g1 < wb.heap.size) := hide (C4.out.lt g1 rfl).2; have D7 : Hid (w.heap.size + 1 ≤ wb.heap.size) := hide (by have := (C4.out.lt g1 rfl); omega); clear hc bc sc hd gd sd bd) | (with_reducible refine wpList_loadVec D2.out 14 rfl rfl _ rfl rfl Try.underlying78 Try.sizeImg ?_) | (with_reducible refine wpList_lookupX HM.out HBF.out D3.out HJ.out HY.out HS2.out 15 rfl rfl (.tmp 13) (.tmp 14) rfl rfl rfl ?_) | ((with_reducible refine wpList_storeSw D1.out s2 rfl (.tmp 6) (.tmp 15) rfl rfl rfl ?_); intro we he ge se))
      have E1 := hide he
      have E2 := hide (blk_grown D2.out ge (by intro e; have := Option.some.inj e; have := D7.out; omega))
      have E3 := hide (imgMap_grown D3.out ge (by intro e; have := Option.some.inj e; have := D7.out; omega))
      have E4 := hide (D4.out.kept ge (.inr (by intro e; have h1 : g1 = wb.heap.size := Option.some.inj e; have := D6.out; omega)))
      have E5 := hide (D5.out.trans (grown_below ge (fun k hk => by have := Option.some.inj hk; have := D7.out; omega) D5.out.size))
      clear he ge se D1 D2 D3 D4 D5
      go_frame
      go_roundg g
      case measure => exact Nat.lt_succ_self g
      case rel =>
        refine ⟨j, wb.heap.size, HJL.out, HJ.out, rfl, path ++ [s], HPE.out, HPN.out, by rw [← HS2.out]; exact E1.out, D7.out, ?_, by rw [← HY.out]; exact E2.out, ?_, E3.out, E5.out⟩
        · intro e
          have h1 : g1 = wb.heap.size := Option.some.inj e
          have := D6.out; omega
        · unfold OwnSws
          rw [cellsS_snoc, List.length_append]
          exact E4.out
end Go.Proofs.Ytcliiefedmiokaa
/-
  The exact laws' helpers at switches: toSwitch, toSwitchS, szSwitchS, markSwitchS, heldSwitchS.
-/
namespace Go.Proofs.Ytcliiefedmiokaa
open Go.RowKit

def set4 (xs : List Value) (k : Nat) (s : Sw) : List Value := (((xs.set k (.int .i64 s.y1)).set (k + 1) (.int .i64 s.y2)).set (k + 2) (.int .i64 s.x1)).set (k + 3) (.int .i64 s.x2)
theorem set4_len (xs : List Value) (k : Nat) (s : Sw) : (set4 xs k s).length = xs.length := by simp [set4]
theorem set4_fill {l : List Sw} {xs : List Value} {k : Nat} (h : xs.length = l.length * 4) (hk : k < l.length) : set4 (cellsS (l.take k) ++ xs.drop (k * 4)) (k * 4) l[k] = cellsS (l.take (k + 1)) ++ xs.drop ((k + 1) * 4) := by
  have hl : (cellsS (l.take k)).length = k * 4 := by rw [cellsS_len, List.length_take]; omega
  obtain ⟨a, b, c, d, r, hr⟩ : ∃ a b c d r, xs.drop (k * 4) = a :: b :: c :: d :: r := by
    have : 4 ≤ (xs.drop (k * 4)).length := by rw [List.length_drop]; omega
    match hx : xs.drop (k * 4), this with
    | a :: b :: c :: d :: r, _ => exact ⟨a, b, c, d, r, rfl⟩
  have hd : xs.drop ((k + 1) * 4) = r := by
    rw [show (k + 1) * 4 = k * 4 + 4 by omega, ← List.drop_drop, hr]; rfl
  rw [hd, hr, List.take_succ_eq_append_getElem hk, cellsS_snoc]
  unfold set4
  rw [List.set_append_right _ _ (by omega), List.set_append_right _ _ (by omega), List.set_append_right _ _ (by omega), List.set_append_right _ _ (by omega), hl]
  rw [show k * 4 - k * 4 = 0 by omega, show k * 4 + 1 - k * 4 = 1 by omega, show k * 4 + 2 - k * 4 = 2 by omega, show k * 4 + 3 - k * 4 = 3 by omega]
  simp [swA]
/-- A switch is stored in a slice of the call's own. -/
theorem exec_storeSwOwn {ρ : Operand → Value} {o : Oper} {w : World} {x y : Operand} {base e g n c i : Nat} {xs : List Value} {s : Sw} (ho : o.op = .store 45 x y) (hx : ρ x = .pointer (some ⟨g, i * 4, none⟩)) (hy : ρ y = swV s)
    (h : w.ownsRow base e 4 (.slice (some ⟨g, 0, none⟩) n c) n xs) (hi : i < n) : ∃ w', (execOp ρ o).run Try.prog w = .ok .skip w' ∧ w'.ownsRow base e 4 (.slice (some ⟨g, 0, none⟩) n c) n (set4 xs (i * 4) s) ∧ w.grownBy w' (some g) := by
  have hl := h.1
  have hc : ∀ j, j < n * 4 → ∃ u, w.cell? ⟨g, j, none⟩ = some u := fun j hj => ⟨xs[j], by rw [h.cellAt j hj, List.getElem?_eq_getElem (by omega)]⟩
  obtain ⟨u0, h0⟩ := hc (i * 4) (by omega); obtain ⟨u1, h1⟩ := hc (i * 4 + 1) (by omega); obtain ⟨u2, h2⟩ := hc (i * 4 + 2) (by omega); obtain ⟨u3, h3⟩ := hc (i * 4 + 3) (by omega)
  have f0 := h.frozenAt (i * 4); have f1 := h.frozenAt (i * 4 + 1); have f2 := h.frozenAt (i * 4 + 2); have f3 := h.frozenAt (i * 4 + 3)
  obtain ⟨a1, b1⟩ := h.stored (i * 4) (.int .i64 s.y1)
  obtain ⟨a2, b2⟩ := a1.stored (i * 4 + 1) (.int .i64 s.y2)
  obtain ⟨a3, b3⟩ := a2.stored (i * 4 + 2) (.int .i64 s.x1)
  obtain ⟨a4, b4⟩ := a3.stored (i * 4 + 3) (.int .i64 s.x2)
  refine ⟨_, ?_, a4, grown_trans (grown_trans (grown_trans b1 b2) b3) b4⟩
  unfold execOp
  simp only [ho, hx, hy, swV, swA]
  go_simp
theorem wpList_storeSwOwn {ops : Array Oper} {rest : List Oper} {o : Oper} {a : Act} {Q : Exit → Act → World → Prop} {W : World} {base e g n c i : Nat} {xs : List Value} {s : Sw} (h : W.ownsRow base e 4 (.slice (some ⟨g, 0, none⟩) n c) n xs) (hi : i < n)
    (hgd : o.guard = none) (x y : Operand) (ho : o.op = .store 45 x y) (hx : a.eval x = .pointer (some ⟨g, i * 4, none⟩)) (hy : a.eval y = swV s)
    (hK : ∀ w', w'.ownsRow base e 4 (.slice (some ⟨g, 0, none⟩) n c) n (set4 xs (i * 4) s) → W.grownBy w' (some g) → wpList Try.prog ops Q rest (a.put o.dst undef) w') : wpList Try.prog ops Q (o :: rest) a W := by
  refine wpList_plain hgd fun K hk => ?_
  obtain ⟨w', h1, h2, h3⟩ := exec_storeSwOwn (ρ := a.eval) ho hx hy h hi
  unfold Oper.wp
  rw [h1]
  exact hk _ _ (hK w' h2 h3)

def SizeS (n left : Nat) (w : World) (e : Ending) (w' : World) : Prop := ∃ r : Int, e = .returned (.int .i64 r) ∧ ((r = -1) ∨ (n ≤ left ∧ r = (left - n : Nat))) ∧ w = w'
/-- The cells are marked one after the other. -/
theorem mark_cell (q j m : Nat) (xs : List Value) (hl : xs.length = m) (hj : j < m) : (ints (markR j q) ++ xs.drop j).set j (.int .i64 ((q + j : Nat) : Int)) = ints (markR (j + 1) q) ++ xs.drop (j + 1) := markR_set m q j xs hl hj
set_option maxRecDepth 100000 in
set_option maxHeartbeats 2000000 in
theorem markSwitchS_any (n q : Nat) (v : Value) (xs : List Value) (base : Nat) (w : World) (hn : n ≤ 1100000) (hq : q ≤ 2000000) (ho : w.ownsRow base 45 4 v n xs) :
    Calls Try.prog 39 #[v, .int .i64 q] w fun e w' => e = .returned (.int .i64 ((q + n * 4 : Nat) : Int)) ∧ w'.ownsRow base 45 4 v n (ints (markR (n * 4) q)) ∧ w.grownBy w' v.ownBlock := by
  have HXL := hide ho.1
  by_cases h0 : n = 0
  · subst h0
    obtain ⟨a, c, rfl⟩ := ownA_slice ho
    have HO : Hid (w.ownsRow base 45 4 (.slice a 0 c) 0 (ints (markR (0 * 4) q))) := hide (by
      have hx : xs = [] := List.eq_nil_of_length_eq_zero (by rw [HXL.out])
      rw [hx] at ho; exact ho)
    clear ho HXL
    go_enter Try.func39, Try.ntmps39
    go_wp2
    go_loop [1, 5] (fun s i => i = .int .i64 0 ∧ s = .int .i64 q) (fun _ _ => 0)
    case atStart => exact ⟨rfl, rfl⟩
    case round =>
      obtain ⟨rfl, rfl⟩ := hrel
      go_wp2
      go_ret
      exact ⟨rfl, HO.out, grown_of_below (Below.refl _ _) _⟩
  · obtain ⟨g, c, rfl, -⟩ := ownA_some ho (by omega)
    have HO : Hid (w.ownsRow base 45 4 (.slice (some ⟨g, 0, none⟩) n c) n (ints (markR (0 * 4) q) ++ xs.drop (0 * 4))) := hide (by simpa [markR, ints] using ho)
    clear ho h0
    go_enter Try.func39, Try.ntmps39
    go_wp2
    go_loopw [1, 5] (fun u i w' => ∃ k : Nat, k ≤ n ∧ i = .int .i64 k ∧ u = .int .i64 ((q + k * 4 : Nat) : Int) ∧ w'.ownsRow base 45 4 (.slice (some ⟨g, 0, none⟩) n c) n (ints (markR (k * 4) q) ++ xs.drop (k * 4)) ∧ w.grownBy w' (some g)) (fun _ i _ => n - (intOf i).toNat)
    case atStart => exact ⟨0, Nat.zero_le _, rfl, by simp, HO.out, grown_of_below (Below.refl _ _) _⟩
    case round =>
      clear HO
      obtain ⟨k, hk, rfl, rfl, ho, hg⟩ := hrel
      have HO := hide ho; have HG := hide hg
      by_cases hlt : k < n
      · have hltI : (k : Int) < n := by omega
        obtain ⟨p, hp⟩ : ∃ p, p = q + k * 4 := ⟨_, rfl⟩
        have hpb : p ≤ 10000000 := by omega
        have hlx := HXL.out
        obtain ⟨u0, h0⟩ : ∃ u, wr.cell? ⟨g, k * 4, none⟩ = some u := ⟨_, by rw [ho.cellAt _ (by omega), List.getElem?_eq_getElem (by have := ho.1; omega)]⟩
        obtain ⟨u1, h1⟩ : ∃ u, wr.cell? ⟨g, k * 4 + 1, none⟩ = some u := ⟨_, by rw [ho.cellAt _ (by omega), List.getElem?_eq_getElem (by have := ho.1; omega)]⟩
        obtain ⟨u2, h2⟩ : ∃ u, wr.cell? ⟨g, k * 4 + 2, none⟩ = some u := ⟨_, by rw [ho.cellAt _ (by omega), List.getElem?_eq_getElem (by have := ho.1; omega)]⟩
        obtain ⟨u3, h3⟩ : ∃ u, wr.cell? ⟨g, k * 4 + 3, none⟩ = some u := ⟨_, by rw [ho.cellAt _ (by omega), List.getElem?_eq_getElem (by have := ho.1; omega)]⟩
        have f0 := ho.frozenAt (k * 4); have f1 := ho.frozenAt (k * 4 + 1); have f2 := ho.frozenAt (k * 4 + 2); have f3 := ho.frozenAt (k * 4 + 3)
        obtain ⟨a1, b1⟩ := ho.stored (k * 4) (.int .i64 (p : Int))
        obtain ⟨a2, b2⟩ := a1.stored (k * 4 + 1) (.int .i64 ((p : Int) + 1))
        obtain ⟨a3, b3⟩ := a2.stored (k * 4 + 2) (.int .i64 ((p : Int) + 1 + 1))
        obtain ⟨a4, b4⟩ := a3.stored (k * 4 + 3) (.int .i64 ((p : Int) + 1 + 1 + 1))
        have HA := hide a4
        have HGG := hide (grown_trans hg (grown_trans (grown_trans (grown_trans b1 b2) b3) b4))
        have HE : Hid (((((ints (markR (k * 4) q) ++ xs.drop (k * 4)).set (k * 4) (.int .i64 (p : Int))).set (k * 4 + 1) (.int .i64 ((p : Int) + 1))).set (k * 4 + 2) (.int .i64 ((p : Int) + 1 + 1))).set (k * 4 + 3) (.int .i64 ((p : Int) + 1 + 1 + 1)) = ints (markR ((k + 1) * 4) q) ++ xs.drop ((k + 1) * 4)) := hide (by
          have e0 := mark_cell q (k * 4) (n * 4) xs hlx (by omega)
          have e1 := mark_cell q (k * 4 + 1) (n * 4) xs hlx (by omega)
          have e2 := mark_cell q (k * 4 + 2) (n * 4) xs hlx (by omega)
          have e3 := mark_cell q (k * 4 + 3) (n * 4) xs hlx (by omega)
          rw [show (p : Int) = ((q + k * 4 : Nat) : Int) by rw [hp], show ((q + k * 4 : Nat) : Int) + 1 = ((q + (k * 4 + 1) : Nat) : Int) by omega, show ((q + (k * 4 + 1) : Nat) : Int) + 1 = ((q + (k * 4 + 2) : Nat) : Int) by omega, show ((q + (k * 4 + 2) : Nat) : Int) + 1 = ((q + (k * 4 + 3) : Nat) : Int) by omega]
          rw [e0, e1, e2, e3, show (k + 1) * 4 = k * 4 + 3 + 1 by omega])
        have HP := hide hp
        rw [← hp]
        clear ho hg a1 a2 a3 a4 b1 b2 b3 b4 hp hlx
        go_wp2
        go_roundw
        case rel => exact ⟨k + 1, by omega, by go_num, by rw [HP.out]; go_num, by rw [← HE.out]; exact HA.out, HGG.out⟩
        case measure => simp [intOf]; omega
      · obtain rfl : k = n := by omega
        have HE : Hid (ints (markR (k * 4) q) ++ xs.drop (k * 4) = ints (markR (k * 4) q)) := hide (by rw [List.drop_eq_nil_of_le (by rw [HXL.out]; exact Nat.le_refl _), List.append_nil])
        go_wp2
        go_ret
        exact ⟨rfl, by rw [← HE.out]; exact HO.out, HG.out⟩
/-- A slice of n elements of four cells, each one greater than the one before. -/
def HeldC (w : World) (v : Value) (n q : Nat) : Prop := ∃ a c, v = .slice a n c ∧ n ≤ maxLen ∧ (n = 0 ∨ ∃ g o, a = some ⟨g, o, none⟩ ∧ g < w.heap.size ∧ ∀ j, j < n * 4 → w.cell? ⟨g, o + j, none⟩ = some (.int .i64 ((q + j : Nat) : Int)))
theorem heldC_below {w w' : World} {v : Value} {n q : Nat} (h : HeldC w v n q) (hb : Below w.heap.size w w') : HeldC w' v n q := by
  obtain ⟨a, c, hv, hm, hp⟩ := h
  refine ⟨a, c, hv, hm, ?_⟩
  rcases hp with h0 | ⟨g, o, ha, hg, hc⟩
  · exact .inl h0
  · exact .inr ⟨g, o, ha, Nat.lt_of_lt_of_le hg hb.size, fun j hj => below_cell hb hg (hc j hj)⟩
theorem heldC_own {w : World} {base e n q : Nat} {v : Value} (h : w.ownsRow base e 4 v n (ints (markR (n * 4) q))) : HeldC w v n q := by
  rcases h.2 with ⟨rfl, h0⟩ | ⟨g, cap, cur, rfl, hbg, hg, hc, hm, _⟩
  · exact ⟨none, 0, by rw [h0], by omega, .inl h0⟩
  · refine ⟨_, _, rfl, by omega, .inr ⟨g, 0, rfl, (Array.getElem?_eq_some_iff.1 hg).1, fun j hj => ?_⟩⟩
    rw [Nat.zero_add, h.cellAt j hj, ints_at _ j (by rw [markR_len]; exact hj), markR_at]
set_option maxRecDepth 100000 in
set_option maxHeartbeats 2000000 in
theorem heldSwitchS_any (n q : Nat) (v : Value) (w : World) (hn : n ≤ 1100000) (hq : q ≤ 2000000) (hv : HeldC w v n q) :
    Calls Try.prog 40 #[v, .int .i64 q] w fun e w' => e = .returned (.int .i64 ((q + n * 4 : Nat) : Int)) ∧ w = w' := by
  obtain ⟨a, c, rfl, hm, hp⟩ := hv
  unfold maxLen at hm
  have HP := hide hp
  clear hp
  go_enter Try.func40, Try.ntmps40
  go_wp2
  go_loop [1, 5] (fun u i => ∃ k : Nat, k ≤ n ∧ i = .int .i64 k ∧ u = .int .i64 ((q + k * 4 : Nat) : Int)) (fun _ i => n - (intOf i).toNat)
  case atStart => exact ⟨0, Nat.zero_le _, rfl, by simp⟩
  case round =>
    obtain ⟨k, hk, rfl, rfl⟩ := hrel
    by_cases hlt : k < n
    · have hltI : (k : Int) < n := by omega
      obtain ⟨g, o, rfl, hg, hcl⟩ := HP.out.resolve_left (by omega)
      obtain ⟨p, hp⟩ : ∃ p, p = q + k * 4 := ⟨_, rfl⟩
      have hpb : p ≤ 10000000 := by omega
      have h0 : w.cell? ⟨g, o + k * 4, none⟩ = some (.int .i64 (p : Int)) := by rw [hcl (k * 4) (by omega), hp]
      have h1 : w.cell? ⟨g, o + k * 4 + 1, none⟩ = some (.int .i64 ((p : Int) + 1)) := by rw [Nat.add_assoc, hcl (k * 4 + 1) (by omega), hp]; congr 2
      have h2 : w.cell? ⟨g, o + k * 4 + 2, none⟩ = some (.int .i64 ((p : Int) + 1 + 1)) := by rw [Nat.add_assoc, hcl (k * 4 + 2) (by omega), hp]; congr 2
      have h3 : w.cell? ⟨g, o + k * 4 + 3, none⟩ = some (.int .i64 ((p : Int) + 1 + 1 + 1)) := by rw [Nat.add_assoc, hcl (k * 4 + 3) (by omega), hp]; congr 2
      have HPP := hide hp
      rw [← hp]
      clear hp hcl
      go_wp2
      go_round
      case rel => exact ⟨k + 1, by omega, by go_num, by rw [HPP.out]; go_num⟩
      case measure => simp [intOf]; omega
    · obtain rfl : k = n := by omega
      go_wp2
      go_ret
      exact ⟨rfl, rfl⟩
end Go.Proofs.Ytcliiefedmiokaa
/-
  slices.Reverse at switches.
-/
namespace Go.Proofs.Ytcliiefedmiokaa
open Go.RowKit
set_option maxRecDepth 100000

theorem grown_drewR {w w' : World} {row : Option Nat} (h : w.grownBy w' row) : w.grownBy w'.drew row := ⟨h.os, h.tape, h.output, h.size, h.block⟩
/-- Turned round from both ends, k places in. -/
def revF (l : List Sw) (k : Nat) : List Sw := (List.range l.length).map fun t => if t < k ∨ l.length ≤ t + k then l.getD (l.length - 1 - t) zeroSw else l.getD t zeroSw
theorem revF_len (l : List Sw) (k : Nat) : (revF l k).length = l.length := by simp [revF]
theorem revF_at (l : List Sw) (k t : Nat) (h : t < (revF l k).length) : (revF l k)[t] = if t < k ∨ l.length ≤ t + k then l.getD (l.length - 1 - t) zeroSw else l.getD t zeroSw := by simp [revF]
theorem revF_zero (l : List Sw) : revF l 0 = l := by
  refine List.ext_getElem (revF_len l 0) fun t h1 h2 => ?_
  rw [revF_at, if_neg (by omega), List.getD_eq_getElem?_getD, List.getElem?_eq_getElem h2]; rfl
theorem revF_end {l : List Sw} {k : Nat} (h : l.length ≤ 2 * k + 1) : revF l k = l.reverse := by
  refine List.ext_getElem (by rw [revF_len]; simp) fun t h1 h2 => ?_
  have ht : t < l.length := by simpa using h2
  rw [revF_at, List.getElem_reverse]
  by_cases e : t < k ∨ l.length ≤ t + k
  · rw [if_pos e, List.getD_eq_getElem?_getD, List.getElem?_eq_getElem (by omega)]; rfl
  · rw [if_neg e, List.getD_eq_getElem?_getD, List.getElem?_eq_getElem (by omega), Option.getD_some]
    congr 1; omega
theorem revF_step {l : List Sw} {k q : Nat} (h : k + q + 1 = l.length) (hkq : k < q) : ((revF l k).set k (l.getD q zeroSw)).set q (l.getD k zeroSw) = revF l (k + 1) := by
  refine List.ext_getElem (by simp [revF_len]) fun t h1 h2 => ?_
  have ht : t < l.length := by rw [revF_len] at h2; exact h2
  rw [List.getElem_set, List.getElem_set, revF_at, revF_at]
  by_cases e1 : q = t
  · subst e1
    rw [if_pos rfl, if_pos (by omega), show l.length - 1 - q = k by omega]
  · rw [if_neg e1]
    by_cases e2 : k = t
    · subst e2
      rw [if_pos rfl, if_pos (by omega), show l.length - 1 - k = q by omega]
    · rw [if_neg e2]
      by_cases e : t < k ∨ l.length ≤ t + k
      · rw [if_pos e, if_pos (by omega)]
      · rw [if_neg e, if_neg (by omega)]
theorem cellsS_set : ∀ (l : List Sw) (k : Nat) (s : Sw), k < l.length → cellsS (l.set k s) = set4 (cellsS l) (k * 4) s
  | [], k, s, h => by simp at h
  | x :: l, 0, s, _ => by simp [cellsS, set4]
  | x :: l, k + 1, s, h => by
    have ih := cellsS_set l k s (by simpa using h)
    have e1 : ∀ l : List Sw, cellsS (x :: l) = .int .i64 x.y1 :: .int .i64 x.y2 :: .int .i64 x.x1 :: .int .i64 x.x2 :: cellsS l := fun l => by simp [cellsS]
    rw [List.set_cons_succ, e1, ih, e1]
    unfold set4
    rw [show (k + 1) * 4 = k * 4 + 1 + 1 + 1 + 1 by omega, show k * 4 + 1 + 1 + 1 + 1 + 1 = (k * 4 + 1) + 1 + 1 + 1 + 1 by omega, show k * 4 + 1 + 1 + 1 + 1 + 2 = (k * 4 + 2) + 1 + 1 + 1 + 1 by omega, show k * 4 + 1 + 1 + 1 + 1 + 3 = (k * 4 + 3) + 1 + 1 + 1 + 1 by omega]
    simp only [List.set_cons_succ]
theorem revF_q (l : List Sw) {k q : Nat} (h : k + q + 1 = l.length) (hkq : k < q) : (revF l k).getD k zeroSw = l.getD k zeroSw ∧ (revF l k).getD q zeroSw = l.getD q zeroSw := by
  have h1 : k < (revF l k).length := by rw [revF_len]; omega
  have h2 : q < (revF l k).length := by rw [revF_len]; omega
  rw [List.getD_eq_getElem?_getD, List.getD_eq_getElem?_getD (l := revF l k), List.getElem?_eq_getElem h1, List.getElem?_eq_getElem h2, Option.getD_some, Option.getD_some, revF_at, revF_at, if_neg (by omega), if_neg (by omega)]
  exact ⟨rfl, rfl⟩
set_option maxHeartbeats 4000000 in
theorem reverse_any : RevAt := by
  intro v l lo w h hl
  have HL := hide hl
  obtain ⟨al, c, rfl⟩ := ownA_slice h
  have HO := hide h
  have HGR := hide (⟨rfl, rfl, rfl, Nat.le_refl _, fun _ _ _ => rfl⟩ : w.grownBy w (Value.slice al l.length c).ownBlock)
  obtain ⟨n, hn⟩ : ∃ n, n = l.length := ⟨_, rfl⟩
  have HN := hide hn
  rw [← hn] at hl HGR ⊢
  rw [← hn] at HO
  clear h hn
  go_enter Try.func117, Try.ntmps117
  go_wp2
  have HWR : Hid (IntKind.i64.wrap ((n : Int) - 1) = (n : Int) - 1) := hide (IntWalk.i64_in _ (by omega))
  go_loopg [2, 3] n (fun g i j w' => ∃ k : Nat, k + g = n ∧ 2 * k ≤ n + 1 ∧ i = .int .i64 k ∧ j = .int .i64 ((n : Int) - 1 - k) ∧ OwnSws w' lo (.slice al n c) (revF l k) ∧ w.grownBy w' (Value.slice al n c).ownBlock)
  case atStart => exact ⟨0, by omega, by omega, rfl, by go_num, by rw [revF_zero]; exact HO.out, HGR.out⟩
  case round =>
    clear HO HGR
    obtain ⟨k, hkg, hk2, rfl, rfl, ho, hg⟩ := hrel
    have HO := hide ho; have HG := hide hg
    by_cases hlt : 2 * k + 1 < n
    · obtain ⟨g, rfl⟩ : ∃ g, gk = g + 1 := ⟨gk - 1, by omega⟩
      obtain ⟨q, hq⟩ : ∃ q, k + q + 1 = n := ⟨n - 1 - k, by omega⟩
      have hqI : (n : Int) - 1 - k = q := by omega
      have hkq : (k : Int) < q := by omega
      have hkn : k < n := by omega
      have hqn : q < n := by omega
      have hknI : (k : Int) < n := by omega
      have hqnI : (q : Int) < n := by omega
      have hlk : k < (revF l k).length := by rw [revF_len, ← HN.out]; omega
      have hlq : q < (revF l k).length := by rw [revF_len, ← HN.out]; omega
      obtain ⟨gv, c2, e, -⟩ := ownA_some ho (by rw [revF_len, ← HN.out]; omega)
      obtain rfl : al = some ⟨gv, 0, none⟩ := by injection e
      have HRL : Hid ((revF l k).length = n) := hide (by rw [revF_len, ← HN.out])
      clear e
      obtain ⟨r1, r2⟩ := revF_q l (k := k) (q := q) (by rw [← HN.out]; exact hq) (by omega)
      have hsk := sws_cell ho k hlk
      have hsq := sws_cell ho q hlq
      rw [r1] at hsk; rw [r2] at hsq
      obtain ⟨s, hs⟩ : ∃ s, s = l.getD k zeroSw := ⟨_, rfl⟩
      obtain ⟨u, hu⟩ : ∃ u, u = l.getD q zeroSw := ⟨_, rfl⟩
      have HS := hide hs; have HU := hide hu
      rw [← hs] at hsk; rw [← hu] at hsq
      obtain ⟨c0, c1, c2', c3⟩ := hsk
      obtain ⟨d0, d1, d2, d3⟩ := hsq
      have hor : wr.ownsRow lo 45 4 (.slice (some ⟨gv, 0, none⟩) n c) n (cellsS (revF l k)) := by have := ho; unfold OwnSws at this; rw [HRL.out] at this; exact this
      have HOR := hide hor
      have hfr : ∀ i, wr.frozen? ⟨gv, i, none⟩ = false := fun i => hor.frozenAt i
      rw [hqI]
      clear hs hu ho hor hg r1 r2 hlk hlq c2
      go_wp2
      go_region
      obtain ⟨a1, b1⟩ := HOR.out.stored (k * 4) (.int .i64 u.y1)
      obtain ⟨a2, b2⟩ := a1.stored (k * 4 + 1) (.int .i64 u.y2)
      obtain ⟨a3, b3⟩ := a2.stored (k * 4 + 2) (.int .i64 u.x1)
      obtain ⟨a4, b4⟩ := a3.stored (k * 4 + 3) (.int .i64 u.x2)
      obtain ⟨a5, b5⟩ := a4.stored (q * 4) (.int .i64 s.y1)
      obtain ⟨a6, b6⟩ := a5.stored (q * 4 + 1) (.int .i64 s.y2)
      obtain ⟨a7, b7⟩ := a6.stored (q * 4 + 2) (.int .i64 s.x1)
      obtain ⟨a8, b8⟩ := a7.stored (q * 4 + 3) (.int .i64 s.x2)
      have HW : ((((((((wr.setCell ⟨gv, k * 4, none⟩ (.int .i64 u.y1)).setCell ⟨gv, k * 4 + 1, none⟩ (.int .i64 u.y2)).setCell ⟨gv, k * 4 + 2, none⟩ (.int .i64 u.x1)).setCell ⟨gv, k * 4 + 3, none⟩ (.int .i64 u.x2)).setCell ⟨gv, q * 4, none⟩ (.int .i64 s.y1)).setCell ⟨gv, q * 4 + 1, none⟩ (.int .i64 s.y2)).setCell ⟨gv, q * 4 + 2, none⟩ (.int .i64 s.x1)).setCell ⟨gv, q * 4 + 3, none⟩ (.int .i64 s.x2)).drew.ownsRow lo 45 4 (.slice (some ⟨gv, 0, none⟩) n c) n (set4 (set4 (cellsS (revF l k)) (k * 4) u) (q * 4) s) := ownA_below a8 (below_drew (Below.refl _ _))
      have HGW : wr.grownBy ((((((((wr.setCell ⟨gv, k * 4, none⟩ (.int .i64 u.y1)).setCell ⟨gv, k * 4 + 1, none⟩ (.int .i64 u.y2)).setCell ⟨gv, k * 4 + 2, none⟩ (.int .i64 u.x1)).setCell ⟨gv, k * 4 + 3, none⟩ (.int .i64 u.x2)).setCell ⟨gv, q * 4, none⟩ (.int .i64 s.y1)).setCell ⟨gv, q * 4 + 1, none⟩ (.int .i64 s.y2)).setCell ⟨gv, q * 4 + 2, none⟩ (.int .i64 s.x1)).setCell ⟨gv, q * 4 + 3, none⟩ (.int .i64 s.x2)).drew (some gv) := grown_drewR (grown_trans (grown_trans (grown_trans (grown_trans (grown_trans (grown_trans (grown_trans b1 b2) b3) b4) b5) b6) b7) b8)
      clear a1 a2 a3 a4 a5 a6 a7 a8 b1 b2 b3 b4 b5 b6 b7 b8
      generalize ((((((((wr.setCell ⟨gv, k * 4, none⟩ (.int .i64 u.y1)).setCell ⟨gv, k * 4 + 1, none⟩ (.int .i64 u.y2)).setCell ⟨gv, k * 4 + 2, none⟩ (.int .i64 u.x1)).setCell ⟨gv, k * 4 + 3, none⟩ (.int .i64 u.x2)).setCell ⟨gv, q * 4, none⟩ (.int .i64 s.y1)).setCell ⟨gv, q * 4 + 1, none⟩ (.int .i64 s.y2)).setCell ⟨gv, q * 4 + 2, none⟩ (.int .i64 s.x1)).setCell ⟨gv, q * 4 + 3, none⟩ (.int .i64 s.x2)).drew = w9 at HW HGW ⊢
      have E1 : Hid (OwnSws w9 lo (.slice (some ⟨gv, 0, none⟩) n c) (revF l (k + 1))) := hide (by
        unfold OwnSws
        rw [← revF_step (l := l) (k := k) (q := q) (by rw [← HN.out]; exact hq) (by omega), cellsS_set _ _ _ (by rw [List.length_set, revF_len, ← HN.out]; exact hqn), cellsS_set _ _ _ (by rw [revF_len, ← HN.out]; exact hkn), ← HS.out, ← HU.out, List.length_set, List.length_set, revF_len, ← HN.out]
        exact HW)
      have E2 := hide (grown_trans HG.out HGW)
      clear HW HGW
      go_wp2
      go_roundg g
      case measure => exact Nat.lt_succ_self g
      case rel => exact ⟨k + 1, by omega, by omega, by go_num, by go_num, E1.out, E2.out⟩
    · have hle : ¬ ((k : Int) < (n : Int) - 1 - k) := by omega
      have HE := hide (revF_end (l := l) (k := k) (by rw [← HN.out]; omega))
      clear ho hg
      go_wp2
      go_end0
      exact ⟨rfl, by rw [← HE.out]; exact HO.out, HG.out⟩
end Go.Proofs.Ytcliiefedmiokaa
/-
  Whether two lists of lists are images with the same sums.
-/
namespace Go.Proofs.Ytcliiefedmiokaa
open Go.RowKit

def sameB (m l : List (List Int)) : Bool := okB m && okB l && (decide (m.length = l.length) && decide (widthM m = widthM l) && sameL m.length (widthM m) (cellM m) (cellM l))
theorem rs_congr {C : Nat} {f g : Nat → Nat → Int} {y : Nat} (h : ∀ x, x < C → f y x = g y x) : rs C f y = rs C g y := cnt_congr fun x hx => by rw [h x hx]
theorem rowsL_congr {R C : Nat} {f g : Nat → Nat → Int} (h : ∀ y x, y < R → x < C → f y x = g y x) : rowsL R C f = rowsL R C g := rowF_congr fun y hy => by rw [rs_congr fun x hx => h y x hy hx]
theorem sameL_congr {R C : Nat} {f g f' g' : Nat → Nat → Int} (h : ∀ y x, y < R → x < C → f y x = f' y x) (h2 : ∀ y x, y < R → x < C → g y x = g' y x) : sameL R C f g = sameL R C f' g' := by
  unfold sameL
  rw [rowsL_congr h, rowsL_congr h2, rowsL_congr (f := trM f) (g := trM f') fun y x hy hx => h x y hx hy, rowsL_congr (f := trM g) (g := trM g') fun y x hy hx => h2 x y hx hy]
theorem width_mk {R C : Nat} {f : Nat → Nat → Int} (h : Img R C f) : widthM (mkM R C f) = C := by
  have := h.r1
  unfold widthM mkM
  obtain ⟨n, rfl⟩ : ∃ n, R = n + 1 := ⟨R - 1, by omega⟩
  simp [List.range_succ_eq_map, rowF]
theorem sameB_mk {R C R' C' : Nat} {f g : Nat → Nat → Int} (h : Img R C f) (h' : Img R' C' g) : sameB (mkM R C f) (mkM R' C' g) = if R = R' ∧ C = C' then sameL R C f g else false := by
  unfold sameB
  rw [img_ok h, img_ok h', width_mk h, width_mk h', mkM_len, mkM_len]
  by_cases e1 : R = R'
  · by_cases e2 : C = C'
    · subst e1; subst e2
      rw [if_pos ⟨rfl, rfl⟩, sameL_congr (fun y x hy hx => cell_mk R C f hy hx) (fun y x hy hx => cell_mk R C g hy hx)]
      simp
    · rw [if_neg fun e => e2 e.2]; simp [e2]
  · rw [if_neg fun e => e1 e.1]; simp [e1]
theorem rowF_inj {n : Nat} {f g : Nat → Int} (h : rowF n f = rowF n g) : ∀ i, i < n → f i = g i := fun i hi => by
  have h1 : (rowF n f)[i]? = (rowF n g)[i]? := by rw [h]
  simpa [rowF, hi] using h1
theorem sameB_yes {m l : List (List Int)} (h : sameB m l = true) : ∃ R C f g, m = mkM R C f ∧ l = mkM R C g ∧ Img R C f ∧ Img R C g ∧ SameF R C f g := by
  have h0 := h
  unfold sameB at h0
  simp only [Bool.and_eq_true] at h0
  obtain ⟨R, C, f, rfl, hI⟩ := ok_img h0.1.1
  obtain ⟨R', C', g, rfl, hJ⟩ := ok_img h0.1.2
  rw [sameB_mk hI hJ] at h
  by_cases e : R = R' ∧ C = C'
  · obtain ⟨rfl, rfl⟩ := e
    rw [if_pos ⟨rfl, rfl⟩] at h
    unfold sameL at h
    simp only [Bool.and_eq_true, beq_iff_eq] at h
    refine ⟨R, C, f, g, rfl, rfl, hI, hJ, fun y hy => ?_, fun x hx => ?_⟩
    · have := rowF_inj h.1 y hy; omega
    · have := rowF_inj h.2 x hx
      show rs R (trM f) x = rs R (trM g) x
      omega
  · rw [if_neg e] at h; cases h
theorem implSameB_any (v u : Value) (m l : List (List Int)) (w : World) (hin : InMat w v m) (hin2 : InMat w u l) :
    Calls Try.prog 27 #[v, u] w fun e w' => e = .returned (.bool (sameB m l)) ∧ Below w.heap.size w w' := by
  cases h : okB m && okB l with
  | false =>
    have := implSameSums_no v u m l w hin hin2 h
    unfold sameB
    rw [h, Bool.false_and]; exact this
  | true =>
    simp only [Bool.and_eq_true] at h
    obtain ⟨R, C, f, rfl, hI⟩ := ok_img h.1
    obtain ⟨R', C', g, rfl, hJ⟩ := ok_img h.2
    rw [sameB_mk hI hJ]
    exact implSameSums_any v u R C R' C' f g w hin hin2 hI hJ
theorem specSameB_any (v u : Value) (m l : List (List Int)) (w : World) (hin : InMat w v m) (hin2 : InMat w u l) :
    Calls Try.prog 26 #[v, u] w fun e w' => e = .returned (.bool (sameB m l)) ∧ Below w.heap.size w w' := by
  cases h : okB m && okB l with
  | false =>
    have := specSameSums_neg v u w (specDistanceOf_no v u m l w hin hin2 h)
    unfold sameB
    rw [h, Bool.false_and]; exact this
  | true =>
    simp only [Bool.and_eq_true] at h
    obtain ⟨R, C, f, rfl, hI⟩ := ok_img h.1
    obtain ⟨R', C', g, rfl, hJ⟩ := ok_img h.2
    rw [sameB_mk hI hJ]
    exact specSameSums_any v u R C R' C' f g w hin hin2 hI hJ
end Go.Proofs.Ytcliiefedmiokaa
/-
  PathTo of the program.
-/
namespace Go.Proofs.Ytcliiefedmiokaa
open Go.RowKit
set_option maxRecDepth 100000

def pathB (m l : List (List Int)) : Bool := sameB m l && (decide (m.length ≤ 4) && decide (widthM m ≤ 4))
/-- What PathTo answers. -/
def PathRes (m l : List (List Int)) (w : World) (e : Ending) (w' : World) : Prop :=
  ∃ v P, e = .returned (.tuple #[v, .bool (pathB m l)]) ∧ OwnSws w' w.heap.size v P ∧ Below w.heap.size w w' ∧ (pathB m l = true → Best m l P) ∧ (pathB m l = false → P = [])
theorem pathRes_no {m l : List (List Int)} {w w' : World} (h : pathB m l = false) (hb : Below w.heap.size w w') : PathRes m l w (.returned (.tuple #[.slice none 0 0, .bool false])) w' :=
  ⟨_, [], by rw [h], ownSws_nil _ _, hb, fun e => (by rw [h] at e; cases e), fun _ => rfl⟩
/-- The map of a search that has found t. -/
def mapF (R C : Nat) (m t : List (List Int)) : FactP := fun u w2 => ∃ b L V k K i, u = .map (some b) ∧ Bfs m L V k K ∧ i < L.length ∧ L.getD i [] = t ∧ ImgMap w2 b (ksOf R C L V)
theorem stable_mapF (R C : Nat) (m t : List (List Int)) : StableP (mapF R C m t) := fun _ _ _ hb h => by
  obtain ⟨b, L, V, k, K, i, h1, h2, h3, h4, h5⟩ := h
  exact ⟨b, L, V, k, K, i, h1, h2, h3, h4, imgMap_below h5 hb⟩
/-- A way to t that is the best one. -/
def wayF (base : Nat) (m t : List (List Int)) : FactP := fun u w2 => ∃ P, OwnSws w2 base u P ∧ Best m t P
theorem stable_wayF (base : Nat) (m t : List (List Int)) : StableP (wayF base m t) := fun _ _ _ hb h => ⟨h.choose, ownSws_below h.choose_spec.1 hb, h.choose_spec.2⟩
theorem way_map {R C : Nat} {m t : List (List Int)} (hm : Node R C m) (hR : R ≤ 4) (hC : C ≤ 4) (base : Nat) (u : Value) (w : World) (hbase : base ≤ w.heap.size) (h : mapF R C m t u w) :
    Calls Try.prog 76 #[u, .agg (vec 25 (imgC R C t))] w fun e w' => ∃ r, e = .returned r ∧ Below w.heap.size w w' ∧ wayF base m t r w' := by
  obtain ⟨b, L, V, k, K, i, rfl, h2, h3, rfl, h5⟩ := h
  refine (pathTo_any reverse_any w hm hR hC h2 h3 h5).mono ?_
  rintro e w' ⟨v, rfl, ho, hb⟩
  exact ⟨v, rfl, hb, V.getD i [], ownSws_base ho hbase, h2.best i h3⟩
theorem map_search {R C : Nat} {m t : List (List Int)} {q0 : List Sw} (w : World) (hm : Node R C m) (ht : Node R C t) (hR : R ≤ 4) (hC : C ≤ 4) (hq : goM m q0 = some t) :
    Calls Try.prog 75 #[.agg (vec 25 (imgC R C m)), .agg (vec 25 (imgC R C t))] w fun e w' => ∃ r, e = .returned r ∧ Below w.heap.size w w' ∧ mapF R C m t r w' := by
  refine (searched_any R C m t q0 w hm ht hR hC hq).mono ?_
  rintro e w' ⟨rfl, L, V, a, K, h1, h2, h3, h4, -⟩
  obtain ⟨i, hi, e⟩ := mem_getD [] h2
  exact ⟨_, rfl, h4, w.heap.size + 2, L, V, a, K, i, rfl, h1, hi, e, h3⟩
set_option maxHeartbeats 2000000 in
theorem implPathTo_any (v u : Value) (m l : List (List Int)) (w : World) (hin : InMat w v m) (hin2 : InMat w u l) :
    Calls Try.prog 29 #[v, u] w (PathRes m l w) := by
  have HSS := hide (fun w hin hin2 => implSameB_any v u m l w hin hin2)
  have HI := hide hin; have HI2 := hide hin2
  cases hs : sameB m l with
  | false =>
    have HF := hide (show pathB m l = false by unfold pathB; rw [hs]; rfl)
    have HS := hide hs
    clear hs hin hin2 HSS
    go_enter Try.func29, Try.ntmps29
    go_wp2_with ((with_reducible refine (implSameB_any v u m l _ HI.out HI2.out).mono ?_); rw [HS.out]; rintro e w1 ⟨rfl, hb⟩)
    go_ret2
    exact pathRes_no HF.out hb
  | true =>
    obtain ⟨R, C, f, g, rfl, rfl, hI, hJ, hsf⟩ := sameB_yes hs
    have HS := hide hs
    have hR := hI.r2; have hC := hI.c2; have hR1 := hI.r1; have hC1 := hI.c1
    have HP : Hid (pathB (mkM R C f) (mkM R C g) = (decide (R ≤ 4) && decide (C ≤ 4))) := hide (by unfold pathB; rw [hs, mkM_len, width_mk hI, Bool.true_and])
    obtain ⟨g0, o0, c0, rfl, hg0, hcell⟩ := inMat_img hin (by omega) (by omega)
    obtain ⟨g2, o2, k2, q2, hg2, -⟩ := hcell 0 (by omega)
    rw [Nat.add_zero] at q2
    have HIMG := hide hI; have HJMG := hide hJ; have HSF := hide hsf
    have hRI : (0 : Int) < R := by omega
    obtain ⟨q0, hq0, -⟩ := joined _ f g (Nat.le_refl _) hI hJ hsf
    have HQ0 := hide hq0
    clear hs hin hin2 hcell HSS hsf hq0
    by_cases h4 : R ≤ 4
    · by_cases h5 : C ≤ 4
      · have HF := hide (show pathB (mkM R C f) (mkM R C g) = true by rw [HP.out]; simp [h4, h5])
        have h4I : ¬ ((4 : Int) < R) := by omega
        have h5I : ¬ ((4 : Int) < C) := by omega
        have HMS := hide (fun w2 => map_search (q0 := q0) w2 ⟨f, rfl, hI⟩ ⟨g, rfl, hJ⟩ h4 h5 HQ0.out)
        have HWM := hide (fun u w2 hb h => way_map (t := mkM R C g) ⟨f, rfl, hI⟩ h4 h5 w.heap.size u w2 hb h)
        rw [imgC_mk, imgC_mk] at HMS
        rw [imgC_mk] at HWM
        have QC := fun w1 (hb : Below w.heap.size w w1) => below_cell hb hg0 q2
        clear h4 h5 hI hJ
        go_enter Try.func29, Try.ntmps29
        go_wp2_with (first | ((with_reducible refine (implSameB_any _ u _ _ _ HI.out HI2.out).mono ?_); rw [HS.out]; rintro e w1 ⟨rfl, hb⟩; have qc := QC _ hb; clear QC; have B1 := hide hb; have I1 := hide (inMat_below HI.out hb); have J1 := hide (inMat_below HI2.out hb); clear hb) | ((with_reducible refine (imageOf_yes _ R C f _ I1.out HIMG.out).mono ?_); rintro e w2 ⟨rfl, hb⟩; have B2 := hide (B1.out.trans (hb.mono B1.out.size)); have J2 := hide (inMat_below J1.out hb); clear hb I1 J1 B1 qc) | ((with_reducible refine wpList_allocVec 25 6 rfl rfl rfl Try.zeroImg ?_); intro w3 k3 b3 s3) | ((with_reducible refine wpList_storeVec k3 rfl (.tmp 6) (.tmp 29) rfl rfl rfl Try.sizeImg ?_); intro w4 k4 g4 s4; have bb := b3.trans (grown_below g4 (fun k hk => by cases hk; exact Nat.le_refl _) b3.size); have B3 := hide (B2.out.trans (bb.mono B2.out.size)); have J3 := hide (inMat_below J2.out bb); have K3 := hide k4; clear k3 b3 s3 k4 g4 s4 bb B2 J2) | ((with_reducible refine (imageOf_yes u R C g _ J3.out HJMG.out).mono ?_); rintro e w5 ⟨rfl, hb⟩; have B5 := hide (B3.out.trans (hb.mono B3.out.size)); have K5 := hide (blk_below K3.out hb); clear hb J3 B3 K3) | ((with_reducible refine wpList_allocVec 25 8 rfl rfl rfl Try.zeroImg ?_); intro w6 k6 b6 s6) | ((with_reducible refine wpList_storeVec k6 rfl (.tmp 8) (.tmp 34) rfl rfl rfl Try.sizeImg ?_); intro w7 k7 g7 s7; have bb := b6.trans (grown_below g7 (fun k hk => by cases hk; exact Nat.le_refl _) b6.size); have B7 := hide (B5.out.trans (bb.mono B5.out.size)); have K7 := hide (blk_below K5.out bb); have N7 := hide k7; clear k6 b6 s6 k7 g7 s7 bb B5 K5))
        obtain ⟨fs, hfs⟩ : ∃ fs : List FactP, fs = [isV (.agg (vec 25 (imgF R C f))), isV (.agg (vec 25 (imgF R C g))), mapF R C (mkM R C f) (mkM R C g), isV (.agg (vec 25 (imgF R C g))), wayF w.heap.size (mkM R C f) (mkM R C g), wayF w.heap.size (mkM R C f) (mkM R C g)] := ⟨_, rfl⟩
        have hst : ∀ f ∈ fs, StableP f := by
          rw [hfs]; intro f hf
          simp only [List.mem_cons, List.not_mem_nil, or_false] at hf
          rcases hf with rfl | rfl | rfl | rfl | rfl | rfl <;> first | exact stable_v _ | exact stable_mapF _ _ _ _ | exact stable_wayF _ _ _
        subst hfs
        refine wp_region_tail (S := fun w2 => Below w7.heap.size w7 w2) [isV (.agg (vec 25 (imgF R C f))), isV (.agg (vec 25 (imgF R C g))), mapF R C (mkM R C f) (mkM R C g), isV (.agg (vec 25 (imgF R C g))), wayF w.heap.size (mkM R C f) (mkM R C g), wayF w.heap.size (mkM R C f) (mkM R C g)] [(6, .pointer (some ⟨w2.heap.size, 0, none⟩)), (8, .pointer (some ⟨w5.heap.size, 0, none⟩))] _ _ 6 (by kernel_rfl) rfl rfl (by kernel_rfl) (by kernel_rfl) rfl (by kernel_rfl) ?base (below_drew (Below.refl _ _)) ?ob rfl ?fin
        case base =>
          intro t v ht
          simp only [List.lookup_cons, List.lookup_nil] at ht
          repeat' split at ht
          all_goals first | (cases ht; done) | (obtain rfl := Option.some.inj ht; rename_i hh; obtain rfl := eq_of_beq hh; rfl)
        case ob =>
          exact ⟨obt_one (.agg (vec 25 (imgF R C f))) rfl rfl (srt_b 6 rfl) (fun ρ w2 hS hx => exec_loadVec rfl hx (blk_below K7.out hS) Try.underlying78 Try.sizeImg),
            obt_one (.agg (vec 25 (imgF R C g))) rfl rfl (srt_b 8 rfl) (fun ρ w2 hS hx => exec_loadVec rfl hx (blk_below N7.out hS) Try.underlying78 Try.sizeImg),
            obt_call hst [.agg (vec 25 (imgF R C f)), .agg (vec 25 (imgF R C g))] rfl Try.func75 (by kernel_rfl) (by kernel_rfl) rfl ⟨(srt_j 0 rfl (by kernel_rfl) rfl), (srt_j 1 rfl (by kernel_rfl) rfl), trivial⟩ (fun w2 hS => (HMS.out w2).mono fun e w3 ⟨r, q1, q2, q3⟩ => ⟨r, q1, hS.trans (q2.mono hS.size), q2, q3⟩),
            obt_one (.agg (vec 25 (imgF R C g))) rfl rfl (srt_b 8 rfl) (fun ρ w2 hS hx => exec_loadVec rfl hx (blk_below N7.out hS) Try.underlying78 Try.sizeImg),
            obt_call_l hst 2 rfl Try.func76 (by kernel_rfl) (by kernel_rfl) rfl rfl (by kernel_rfl) (srt_j 3 rfl (by kernel_rfl) rfl) (fun v w2 hS hv => (HWM.out v w2 (Nat.le_trans B7.out.size hS.size) hv).mono fun e w3 ⟨r, q1, q2, q3⟩ => ⟨r, q1, hS.trans (q2.mono hS.size), q2, q3⟩),
            obt_from 4 rfl rfl (by kernel_rfl) (fun ρ w2 u hS hx hf => ⟨u, (by unfold execOp; simp only [hx]; rfl), hf⟩),
            trivial⟩
        case fin =>
          intro a' w' h1 h2 h3 hS h4 K hK
          refine tail_assign (v := .bool true) rfl rfl ?_ K hK
          obtain ⟨P, hP1, hP2⟩ := h4 5 4 rfl (by decide)
          go_wp2
          refine bodyPost_ret (results_tmp2 rfl _ _ _) ?_ ⟨a'.tmps.getD 4 undef, P, ?_, hP1, B7.out.trans (hS.mono B7.out.size), fun _ => hP2, fun e => (by rw [HF.out] at e; cases e)⟩
          · rfl
          · rw [HF.out]; simp [Array.getD_eq_getD_getElem?, h1]
      · have HF := hide (show pathB (mkM R C f) (mkM R C g) = false by rw [HP.out]; simp [h5])
        have h4I : ¬ ((4 : Int) < R) := by omega
        have h5I : (4 : Int) < C := by omega
        have QC := fun w1 (hb : Below w.heap.size w w1) => below_cell hb hg0 q2
        clear h4 h5 hI hJ
        go_enter Try.func29, Try.ntmps29
        go_wp2_with ((with_reducible refine (implSameB_any _ u _ _ _ HI.out HI2.out).mono ?_); rw [HS.out]; rintro e w1 ⟨rfl, hb⟩; have qc := QC _ hb; clear QC)
        go_ret2
        exact pathRes_no HF.out hb
    · have HF := hide (show pathB (mkM R C f) (mkM R C g) = false by rw [HP.out]; simp [h4])
      have h4I : (4 : Int) < R := by omega
      clear h4 hI hJ
      go_enter Try.func29, Try.ntmps29
      go_wp2_with ((with_reducible refine (implSameB_any _ u _ _ _ HI.out HI2.out).mono ?_); rw [HS.out]; rintro e w1 ⟨rfl, hb⟩)
      go_ret2
      exact pathRes_no HF.out hb

/-- What NextTo answers. -/
def NextRes (m l : List (List Int)) (w : World) (e : Ending) (w' : World) : Prop :=
  ∃ P : List Sw, e = .returned (.tuple #[swV (P.headD zeroSw), .bool (!P.isEmpty)]) ∧ Below w.heap.size w w' ∧ (pathB m l = true → Best m l P) ∧ (pathB m l = false → P = [])
theorem results_next {tmps : Array Value} {g : Nat} {s : Sw} {ok : Value} {w : World} (h4 : tmps.getD 4 undef = .pointer (some ⟨g, 0, none⟩)) (h5 : tmps.getD 5 undef = ok) (hs : SwAt w g s) :
    (results Try.f31 tmps).run Try.prog w = .ok (.tuple #[swV s, ok]) w := by
  have hl := run_loadVar_row (P := Try.prog) w g 45 45 (swA s) (0, 0) _ hs Try.underlying45 rfl Try.sizeSw
  rw [Array.getD_eq_getD_getElem?] at h4 h5
  simp [results, h4, h5, asAddr, hl, swV, Result.andThen]
set_option maxHeartbeats 2000000 in
theorem implNextTo_any (v u : Value) (m l : List (List Int)) (w : World) (hin : InMat w v m) (hin2 : InMat w u l) :
    Calls Try.prog 31 #[v, u] w (NextRes m l w) := by
  have HI := hide hin; have HI2 := hide hin2
  clear hin hin2
  go_enter Try.func31, Try.ntmps31
  go_wp2_with ((with_reducible refine wpList_allocSw 4 rfl rfl rfl ?_); intro w1 h1 b1 s1)
  refine (implPathTo_any v u m l _ (inMat_below HI.out b1) (inMat_below HI2.out b1)).mono ?_
  rintro e w2 ⟨pv, P, rfl, ho, hb, hy, hn⟩
  have HS := hide (swAt_below h1 hb); have HB := hide (b1.trans (hb.mono b1.size)); have HO := hide ho; have HY := hide hy; have HN := hide hn
  have HLO : Hid (w.heap.size < w1.heap.size) := hide (by omega)
  obtain ⟨pa, pc, rfl⟩ := ownA_slice ho
  clear hb hy hn h1 b1 s1
  cases P with
  | nil =>
    clear ho
    go_wp2_with (refine wpList_storeSw HS.out zeroSw rfl (.tmp 4) (.tmp 17) rfl rfl rfl ?_; intro w3 h3 g3 s3)
    have HB3 := hide (HB.out.trans (grown_below g3 (fun k hk => by cases hk; exact Nat.le_refl _) HB.out.size))
    refine bodyPost_ret (results_next rfl rfl h3) rfl ⟨[], rfl, HB3.out, HY.out, fun _ => rfl⟩
  | cons s P =>
    obtain ⟨gp, pc2, e, hg1, -⟩ := ownA_some ho (Nat.succ_pos _)
    obtain rfl : pa = some ⟨gp, 0, none⟩ := by injection e
    have hc := ownSws_cells ho 0 (Nat.succ_pos _)
    have hlen : ((s :: P).length : Int) = (P.length : Int) + 1 := by simp
    have HG : Hid (w1.heap.size ≤ gp) := hide hg1
    simp only [List.getElem_cons_zero, Nat.zero_mul] at hc
    clear ho e hg1
    go_wp2_with (first | (with_reducible refine wpList_loadSwC hc 20 rfl rfl _ rfl rfl ?_) | ((with_reducible refine wpList_storeSw HS.out s rfl (.tmp 4) (.tmp 20) rfl rfl rfl ?_); intro w3 h3 g3 s3))
    have HB3 := hide (HB.out.trans (grown_below g3 (fun k hk => by cases hk; exact Nat.le_refl _) HB.out.size))
    refine bodyPost_ret (results_next rfl rfl h3) rfl ⟨s :: P, rfl, HB3.out, HY.out, HN.out⟩
end Go.Proofs.Ytcliiefedmiokaa
/-
  l06Find and l06Small of the model.
-/
namespace Go.Proofs.Ytcliiefedmiokaa
open Go.RowKit
set_option maxRecDepth 100000

/-- A list of lists of lists that reads. -/
def InImgs (w : World) (v : Value) (L : List (List (List Int))) : Prop :=
  ∃ a c, v = .slice a L.length c ∧ L.length ≤ maxLen ∧ (L.length = 0 ∨ ∃ g o, a = some ⟨g, o, none⟩ ∧ g < w.heap.size ∧ ∀ i, (h : i < L.length) → ∃ u, w.cell? ⟨g, o + i, none⟩ = some u ∧ InMat w u L[i])
theorem inImgs_below {w w' : World} {v : Value} {L : List (List (List Int))} (h : InImgs w v L) (hb : Below w.heap.size w w') : InImgs w' v L := by
  obtain ⟨a, c, hv, hm, hp⟩ := h
  refine ⟨a, c, hv, hm, ?_⟩
  rcases hp with h0 | ⟨g, o, ha, hg, hc⟩
  · exact .inl h0
  · refine .inr ⟨g, o, ha, Nat.lt_of_lt_of_le hg hb.size, fun i hi => ?_⟩
    obtain ⟨u, h1, h2⟩ := hc i hi
    exact ⟨u, below_cell hb hg h1, inMat_below h2 hb⟩
/-- What l06Find answers. -/
def FindRes (L : List (List (List Int))) (m : List (List Int)) (w : World) (e : Ending) (w' : World) : Prop :=
  ∃ r : Int, e = .returned (.int .i64 r) ∧ Below w.heap.size w w' ∧ ((r = -1 ∧ m ∉ L) ∨ ∃ k : Nat, r = k ∧ ∃ h : k < L.length, L[k] = m)
set_option maxHeartbeats 1000000 in
theorem l06Find_any (v u : Value) (L : List (List (List Int))) (m : List (List Int)) (w : World) (hin : InImgs w v L) (hin2 : InMat w u m) :
    Calls Try.prog 83 #[v, u] w (FindRes L m w) := by
  obtain ⟨a, c, rfl, hmax, hp⟩ := hin
  unfold maxLen at hmax
  have HI2 := hide hin2; have HP := hide hp
  obtain ⟨n, hn⟩ : ∃ n, n = L.length := ⟨_, rfl⟩
  have HN := hide hn
  rw [← hn] at hmax ⊢
  clear hin2 hp hn
  go_enter Try.func83, Try.ntmps83
  go_wp2
  go_loopg [9] n (fun g i w' => ∃ k : Nat, k + g = n ∧ i = .int .i64 k ∧ (∀ t, (h : t < L.length) → t < k → L[t] ≠ m) ∧ Below w.heap.size w w')
  case atStart => exact ⟨0, by omega, rfl, fun t _ h => absurd h (Nat.not_lt_zero _), Below.refl _ _⟩
  case round =>
    obtain ⟨k, hkg, rfl, hall, hb⟩ := hrel
    have HALL := hide hall; have HB := hide hb
    clear hall hb
    cases gk with
    | zero =>
      obtain rfl : k = n := by omega
      have HNO : Hid (m ∉ L) := hide fun h => by
        obtain ⟨i, hi, e⟩ := List.getElem_of_mem h
        exact HALL.out i hi (by rw [HN.out]; exact hi) e
      go_wp2
      go_ret
      exact ⟨-1, rfl, HB.out, .inl ⟨rfl, HNO.out⟩⟩
    | succ g =>
      have hk : k < n := by omega
      have hkI : (k : Int) < n := by omega
      have hkL : k < L.length := by rw [← HN.out]; exact hk
      obtain ⟨ga, oa, rfl, hga, hc⟩ := HP.out.resolve_left (by omega)
      obtain ⟨ux, hx, hux⟩ := hc k hkL
      have hx2 := below_cell HB.out hga hx
      have HUX := hide (inMat_below hux HB.out); have HU := hide (inMat_below HI2.out HB.out)
      obtain ⟨x, hxx⟩ : ∃ x, x = L[k] := ⟨_, rfl⟩
      have HX := hide hxx
      rw [← hxx] at HUX
      clear hc hx hux hxx
      cases he : x == m with
      | true =>
        have HE := hide he
        go_wp2_with ((with_reducible refine (specSameImage_any ux u x m _ HUX.out HU.out).mono ?_); rw [HE.out]; rintro e w3 ⟨rfl, hb3⟩)
        go_ret
        exact ⟨k, rfl, HB.out.trans (hb3.mono HB.out.size), .inr ⟨k, rfl, hkL, by rw [← HX.out]; exact eq_of_beq HE.out⟩⟩
      | false =>
        have HE := hide he
        go_wp2_with ((with_reducible refine (specSameImage_any ux u x m _ HUX.out HU.out).mono ?_); rw [HE.out]; rintro e w3 ⟨rfl, hb3⟩)
        have HB3 := hide (HB.out.trans (hb3.mono HB.out.size))
        clear hb3
        go_roundg g
        case measure => exact Nat.lt_succ_self g
        case rel =>
          refine ⟨k + 1, by omega, by go_num, fun t h ht e => ?_, HB3.out⟩
          by_cases e2 : t = k
          · subst e2
            have := HE.out
            rw [HX.out, e, beq_self_eq_true] at this
            cases this
          · exact HALL.out t h (by omega) e
set_option maxHeartbeats 1000000 in
theorem l06Small_any (v : Value) (R C : Nat) (f : Nat → Nat → Int) (w : World) (hin : InMat w v (mkM R C f)) (hI : Img R C f) :
    Calls Try.prog 81 #[v] w fun e w' => e = .returned (.bool (decide (R ≤ 4) && decide (C ≤ 4))) ∧ Below w.heap.size w w' := by
  have hR := hI.r2; have hC := hI.c2; have hR1 := hI.r1; have hC1 := hI.c1
  obtain ⟨g0, o0, c0, rfl, hg0, hcell⟩ := inMat_img hin (by omega) (by omega)
  obtain ⟨g2, o2, k2, q2, hg2, -⟩ := hcell 0 (by omega)
  rw [Nat.add_zero] at q2
  have hRI : (0 : Int) < R := by omega
  clear hin hcell hI
  by_cases h4 : R ≤ 4
  · have h4I : (R : Int) ≤ 4 := by omega
    go_enter Try.func81, Try.ntmps81
    go_wp2
    go_ret
    exact ⟨ret_bool (by rw [Bool.eq_iff_iff]; simp; omega), Below.refl _ _⟩
  · have h4I : ¬ ((R : Int) ≤ 4) := by omega
    go_enter Try.func81, Try.ntmps81
    go_wp2
    go_ret
    exact ⟨ret_bool (by simp), Below.refl _ _⟩
end Go.Proofs.Ytcliiefedmiokaa
/-
  PathTo and NextTo of the model, out of what its search leaves.
-/
namespace Go.Proofs.Ytcliiefedmiokaa
open Go.RowKit
set_option maxRecDepth 100000

/-- Lists of switches of the call's own, one behind the other. -/
def OwnWays (w : World) (lo : Nat) (v : Value) (V : List (List Sw)) : Prop :=
  ∃ a c, v = .slice a V.length c ∧ (V.length = 0 ∨ ∃ g, a = some ⟨g, 0, none⟩ ∧ g < w.heap.size ∧ ∀ i, (h : i < V.length) → ∃ u, w.cell? ⟨g, i, none⟩ = some u ∧ OwnSws w lo u V[i])
theorem ownWays_below {w w' : World} {lo : Nat} {v : Value} {V : List (List Sw)} (h : OwnWays w lo v V) (hb : Below w.heap.size w w') : OwnWays w' lo v V := by
  obtain ⟨a, c, hv, hp⟩ := h
  refine ⟨a, c, hv, ?_⟩
  rcases hp with h0 | ⟨g, ha, hg, hc⟩
  · exact .inl h0
  · refine .inr ⟨g, ha, Nat.lt_of_lt_of_le hg hb.size, fun i hi => ?_⟩
    obtain ⟨u, h1, h2⟩ := hc i hi
    exact ⟨u, below_cell hb hg h1, ownSws_below h2 hb⟩
/-- What the model's search leaves. -/
def VisitRes (m : List (List Int)) (w : World) (e : Ending) (w' : World) : Prop :=
  ∃ vl vw L V K, e = .returned (.tuple #[vl, vw]) ∧ InImgs w' vl L ∧ OwnWays w' w.heap.size vw V ∧ Bfs m L V L.length K ∧ Below w.heap.size w w'
@[reducible] def VisitAt : Prop := ∀ (v : Value) (R C : Nat) (f : Nat → Nat → Int) (w : World), InMat w v (mkM R C f) → Img R C f → R ≤ 4 → C ≤ 4 → Calls Try.prog 82 #[v] w (VisitRes (mkM R C f) w)
set_option maxHeartbeats 2000000 in
theorem specPathTo_any (hv : VisitAt) (v u : Value) (m l : List (List Int)) (w : World) (hin : InMat w v m) (hin2 : InMat w u l) :
    Calls Try.prog 37 #[v, u] w (PathRes m l w) := by
  have HV := hide hv
  have HI := hide hin; have HI2 := hide hin2
  cases hs : sameB m l with
  | false =>
    have HF := hide (show pathB m l = false by unfold pathB; rw [hs]; rfl)
    have HS := hide hs
    clear hs hin hin2 hv HV
    go_enter Try.func37, Try.ntmps37
    go_wp2_with ((with_reducible refine (specSameB_any v u m l _ HI.out HI2.out).mono ?_); rw [HS.out]; rintro e w1 ⟨rfl, hb⟩)
    go_ret2
    exact pathRes_no HF.out hb
  | true =>
    obtain ⟨R, C, f, g, rfl, rfl, hI, hJ, hsf⟩ := sameB_yes hs
    have HS := hide hs
    have HP : Hid (pathB (mkM R C f) (mkM R C g) = (decide (R ≤ 4) && decide (C ≤ 4))) := hide (by unfold pathB; rw [hs, mkM_len, width_mk hI, Bool.true_and])
    have HIMG := hide hI
    obtain ⟨q0, hq0, -⟩ := joined _ f g (Nat.le_refl _) hI hJ hsf
    have HQ0 := hide hq0
    clear hs hin hin2 hsf hq0 hv hI hJ
    cases hsm : (decide (R ≤ 4) && decide (C ≤ 4)) with
    | false =>
      have HF := hide (show pathB (mkM R C f) (mkM R C g) = false by rw [HP.out, hsm])
      have HSM := hide hsm
      clear hsm
      go_enter Try.func37, Try.ntmps37
      go_wp2_with (first | ((with_reducible refine (specSameB_any v u _ _ _ HI.out HI2.out).mono ?_); rw [HS.out]; rintro e w1 ⟨rfl, hb⟩; have I1 := hide (inMat_below HI.out hb); have B1 := hide hb; clear hb) | ((with_reducible refine (l06Small_any v R C f _ I1.out HIMG.out).mono ?_); rw [HSM.out]; rintro e w2 ⟨rfl, hb⟩; have B2 := hide (B1.out.trans (hb.mono B1.out.size))))
      go_ret2
      exact pathRes_no HF.out B2.out
    | true =>
      have HF := hide (show pathB (mkM R C f) (mkM R C g) = true by rw [HP.out, hsm])
      have HSM := hide hsm
      simp only [Bool.and_eq_true, decide_eq_true_eq] at hsm
      have H4 := hide hsm
      clear hsm
      go_enter Try.func37, Try.ntmps37
      go_wp2_with (first | ((with_reducible refine (specSameB_any v u _ _ _ HI.out HI2.out).mono ?_); rw [HS.out]; rintro e w1 ⟨rfl, hb⟩; have I1 := hide (inMat_below HI.out hb); have J1 := hide (inMat_below HI2.out hb); have B1 := hide hb; clear hb) | ((with_reducible refine (l06Small_any v R C f _ I1.out HIMG.out).mono ?_); rw [HSM.out]; rintro e w2 ⟨rfl, hb⟩; have B2 := hide (B1.out.trans (hb.mono B1.out.size)); have I2 := hide (inMat_below I1.out hb); have J2 := hide (inMat_below J1.out hb); clear hb I1 J1 B1) | ((with_reducible refine (HV.out v R C f _ I2.out HIMG.out H4.out.1 H4.out.2).mono ?_); rintro e w3 ⟨vl, vw, L, V, K, rfl, hl, hw, hbf, hb⟩; have B3 := hide (B2.out.trans (hb.mono B2.out.size)); have J3 := hide (inMat_below J2.out hb); have L3 := hide hl; have W3 := hide hw; have HBF := hide hbf; have HB2 := hide B2.out.size; clear hb hl hw hbf I2 J2 B2))
      refine (l06Find_any vl u L (mkM R C g) _ L3.out J3.out).mono ?_
      rintro e w4 ⟨r, rfl, hb, hr⟩
      have hin := bfs_all HBF.out q0 HQ0.out
      rcases hr with ⟨rfl, hno⟩ | ⟨k, rfl, hk, hkl⟩
      · exact absurd hin hno
      · have hkV : k < V.length := by rw [HBF.out.len]; exact hk
        have B4 := hide (B3.out.trans (hb.mono B3.out.size))
        obtain ⟨a, c, rfl, hp⟩ := ownWays_below W3.out hb
        obtain ⟨gw, rfl, hgw, hc⟩ := hp.resolve_left (by omega)
        obtain ⟨x, hx, hox⟩ := hc k hkV
        have HOX := hide (ownSws_base hox HB2.out)
        have HBEST : Hid (Best (mkM R C f) (mkM R C g) V[k]) := hide (by
          have := HBF.out.best k hk
          rwa [show L.getD k [] = mkM R C g by rw [List.getD_eq_getElem?_getD, List.getElem?_eq_getElem hk]; exact hkl, show V.getD k [] = V[k] by rw [List.getD_eq_getElem?_getD, List.getElem?_eq_getElem hkV]; rfl] at this)
        obtain ⟨P, hP⟩ : ∃ P, P = V[k] := ⟨_, rfl⟩
        obtain ⟨N, hN⟩ : ∃ N, N = V.length := ⟨_, rfl⟩
        rw [← hP] at HOX HBEST
        rw [← hN]
        have hkN : k < N := by rw [hN]; exact hkV
        have hkI : (k : Int) < N := by omega
        clear hb hin hk hkl hkV hp hc hox hP hN HBF L3 W3 J3
        go_wp2
        go_ret2
        exact ⟨x, P, by rw [HF.out]; rfl, HOX.out, B4.out, fun _ => HBEST.out, fun e => by rw [HF.out] at e; cases e⟩
theorem results_nextS {tmps : Array Value} {g : Nat} {s : Sw} {ok : Value} {w : World} (h4 : tmps.getD 4 undef = .pointer (some ⟨g, 0, none⟩)) (h5 : tmps.getD 5 undef = ok) (hs : SwAt w g s) :
    (results Try.f35 tmps).run Try.prog w = .ok (.tuple #[swV s, ok]) w := by
  have hl := run_loadVar_row (P := Try.prog) w g 45 45 (swA s) (0, 0) _ hs Try.underlying45 rfl Try.sizeSw
  rw [Array.getD_eq_getD_getElem?] at h4 h5
  simp [results, h4, h5, asAddr, hl, swV, Result.andThen]
set_option maxHeartbeats 2000000 in
theorem specNextTo_any (hv : VisitAt) (v u : Value) (m l : List (List Int)) (w : World) (hin : InMat w v m) (hin2 : InMat w u l) :
    Calls Try.prog 35 #[v, u] w (NextRes m l w) := by
  have HI := hide hin; have HI2 := hide hin2
  clear hin hin2
  go_enter Try.func35, Try.ntmps35
  go_wp2_with ((with_reducible refine wpList_allocSw 4 rfl rfl rfl ?_); intro w1 h1 b1 s1)
  refine (specPathTo_any hv v u m l _ (inMat_below HI.out b1) (inMat_below HI2.out b1)).mono ?_
  rintro e w2 ⟨pv, P, rfl, ho, hb, hy, hn⟩
  have HS := hide (swAt_below h1 hb); have HB := hide (b1.trans (hb.mono b1.size)); have HY := hide hy; have HN := hide hn
  obtain ⟨pa, pc, rfl⟩ := ownA_slice ho
  clear hv hb hy hn h1 b1 s1
  have fin : ∀ w3 : World, w2.grownBy w3 (some w.heap.size) → Below w.heap.size w w3 := fun w3 g3 => HB.out.trans (grown_below g3 (fun k hk => by cases hk; exact Nat.le_refl _) HB.out.size)
  have FIN := hide fin
  clear fin
  cases hp : pathB m l with
  | false =>
    obtain rfl := HN.out hp
    have HP := hide hp
    clear hp ho
    go_wp2_with (refine wpList_storeSw HS.out zeroSw rfl (.tmp 4) (.tmp 21) rfl rfl rfl ?_; intro w3 h3 g3 s3)
    refine bodyPost_ret (results_nextS rfl rfl h3) rfl ⟨[], rfl, FIN.out w3 g3, fun e => (by rw [HP.out] at e; cases e), fun _ => rfl⟩
  | true =>
    have HBEST := hide (HY.out hp)
    have HP := hide hp
    clear hp
    cases P with
    | nil =>
      clear ho
      go_wp2_with (refine wpList_storeSw HS.out zeroSw rfl (.tmp 4) (.tmp 21) rfl rfl rfl ?_; intro w3 h3 g3 s3)
      refine bodyPost_ret (results_nextS rfl rfl h3) rfl ⟨[], rfl, FIN.out w3 g3, fun _ => HBEST.out, fun _ => rfl⟩
    | cons s P =>
      obtain ⟨gp, pc2, e, -⟩ := ownA_some ho (Nat.succ_pos _)
      obtain rfl : pa = some ⟨gp, 0, none⟩ := by injection e
      have hc := ownSws_cells ho 0 (Nat.succ_pos _)
      have hlen : ((s :: P).length : Int) = (P.length : Int) + 1 := by simp
      simp only [List.getElem_cons_zero, Nat.zero_mul] at hc
      clear ho e
      go_wp2_with (first | (with_reducible refine wpList_loadSwC hc 24 rfl rfl _ rfl rfl ?_) | ((with_reducible refine wpList_storeSw HS.out s rfl (.tmp 4) (.tmp 24) rfl rfl rfl ?_); intro w3 h3 g3 s3))
      refine bodyPost_ret (results_nextS rfl rfl h3) rfl ⟨s :: P, rfl, FIN.out w3 g3, fun _ => HBEST.out, HN.out⟩
end Go.Proofs.Ytcliiefedmiokaa
/-
  PutCell of the model.
-/
namespace Go.Proofs.Ytcliiefedmiokaa
open Go.RowKit

set_option maxRecDepth 100000 in
set_option maxHeartbeats 1000000 in
theorem l02Copy_any (v : Value) (R C : Nat) (f : Nat → Nat → Int) (w : World) (hin : InMat w v (mkM R C f)) (hI : Img R C f) :
    Calls Try.prog 70 #[v] w (MatRes (mkM R C f) w) := by
  have hR1 := hI.r1; have hC1 := hI.c1; have hR := hI.r2; have hC := hI.c2
  obtain ⟨g, o, c, rfl, hg, hcell⟩ := inMat_img hin (by omega) (by omega)
  have HC := hide hcell
  clear hin hI hcell
  go_enter Try.func70, Try.ntmps70
  go_wp2
  go_loopw [3, 9] (fun u i w' => ∃ (y : Nat) (v : Value), y ≤ R ∧ i = .int .i64 y ∧ v = u ∧ OwnMat w' w.heap.size w'.heap.size v (mkM y C f) ∧ Below w.heap.size w w') (fun _ i _ => R - (intOf i).toNat)
  case atStart => exact ⟨0, _, by omega, rfl, rfl, ⟨[], World.ownsRow_made (base := w.heap.size) w #[] 0 (Nat.le_refl _) (Nat.zero_le _) rfl, (fun k e => by simp [Value.ownBlock] at e; subst e; simp), (fun i h => absurd h (Nat.not_lt_zero _)), fun i j _ h => absurd h (Nat.not_lt_zero _)⟩, (Below.refl _ _).alloc (Nat.le_refl _) _⟩
  case round =>
    obtain ⟨y, v, hy, rfl, rfl, hown, hb⟩ := hrel
    have HO := hide hown; have HB := hide hb
    clear hown hb
    by_cases hlt : y < R
    · have hyI : (y : Int) < R := by omega
      have hsz := HB.out.size
      obtain ⟨g', o', c', hx, hg', hcc⟩ := HC.out y hlt
      have hx := below_cell HB.out hg hx
      have HCC : Hid (∀ j, (h : j < (rowF C (f y)).length) → (wr.alloc (.cells #[] 3)).cell? ⟨g', o' + j, none⟩ = some (.int .i64 (rowF C (f y))[j])) := hide (fun j h => by
        rw [rowF_at, below_cell (w := wr) ((Below.refl _ _).alloc (Nat.le_refl _) _) (by omega) (below_cell HB.out hg' (hcc j (by rw [rowF_len] at h; exact h)))])
      have HE : Hid ((wr.alloc (.cells #[] 3)).ownsRow wr.heap.size 3 1 (.slice (some ⟨wr.heap.size, 0, none⟩) 0 0) 0 []) := hide (World.ownsRow_made (base := wr.heap.size) wr #[] 0 (Nat.le_refl _) (Nat.zero_le _) rfl)
      have HLN := hide (rowF_len C (f y))
      have HB1 := hide (HB.out.alloc hsz (.cells #[] 3))
      have HW1 := hide (below_cell (w := wr) (w' := wr.alloc (.cells #[] 3)) ((Below.refl _ _).alloc (Nat.le_refl _) _) (show g < wr.heap.size by omega) hx)
      have HO1 := hide (ownMat_below HO.out ((Below.refl wr.heap.size wr).alloc (Nat.le_refl _) (.cells #[] 3)))
      have hs0 : (wr.alloc (.cells #[] 3)).heap.size = wr.heap.size + 1 := by simp
      have HS0 := hide hs0
      clear hcc hs0
      go_wp2_with (first | (refine wpList_appendRow 16 rfl HE.out (rowF C (f y)) g' o' c' (.int .i64 0) rfl _ _ rfl Try.underlying24 Try.infoInt rfl (by decide) rfl (by rw [HLN.out]; rfl) HCC.out (by rw [HLN.out]; omega) (by rw [HS0.out]; omega) ?_; intro u2 w2 hu2 hb2 hg2; rw [HLN.out, Nat.zero_add, List.nil_append] at hu2; obtain ⟨ua, uc, rfl⟩ := own_slice hu2; have HU := hide hu2; have O2 := hide (ownMat_within HO1.out (within_grown (lo := wr.heap.size) (hi := wr.heap.size + 1) hg2 fun k e => by simp [Value.ownBlock] at e; omega) (.inl (Nat.le_refl _))); have B2 := hide (HB1.out.trans (hb2.mono hsz)); have hs2 := hb2.size; rw [HS0.out] at hs2; clear hu2 hb2 hg2; obtain ⟨vs, hv, hvh, hvr, hva⟩ := O2.out; have hvl := mkM_len y C f; rw [hvl] at hv; have HV := hide hv; have HVR := hide hvr; have HVA := hide hva; clear hv hvh hvr hva hvl) | (at_builtin; refine wpList_push HV.out (.slice ua C uc) (.slice none 0 0) rfl _ _ rfl Try.underlying22 Try.infoInts rfl (by decide) rfl rfl rfl (by omega) (by omega) ?_; intro v' w6 hown1 hb1 hg1))
      go_roundw
      case rel =>
        have hs6 := hb1.size
        have hp := ownMat_push (r := rowF C (f y)) (hi' := w6.heap.size) HVR.out HVA.out (by rw [mkM_len]; exact HV.out) (by rw [HLN.out]; exact HU.out) hsz (by omega) (by omega) hg1 (by rw [mkM_len]; exact hown1) (fun k e => (hown1.lt k e).2)
        rw [← mkM_succ] at hp
        exact ⟨y + 1, _, by omega, by go_num, rfl, hp, B2.out.trans (hb1.mono (by omega))⟩
      case measure => simp [intOf]; omega
    · obtain rfl : y = R := by omega
      go_wp2
      go_ret
      exact ⟨_, rfl, HO.out, HB.out⟩

theorem cellOk_in (c : Int) : decide (0 ≤ c ∧ c ≤ 1) = cellOk c := by
  unfold cellOk
  by_cases h0 : c = 0
  · subst h0; rfl
  · by_cases h1 : c = 1
    · subst h1; rfl
    · rw [decide_eq_false (by omega)]; simp [h0, h1]
theorem mkM_put (R C : Nat) (f : Nat → Nat → Int) (y x : Nat) (c : Int) : (mkM R C fun a b => if a = y ∧ b = x then c else f a b) = mkM R C (putM f y x c) := rfl
end Go.Proofs.Ytcliiefedmiokaa
