/-
  Texts of this claim, one behind the other: Path, SwH, Rev, ColS, Eq, Same, Put, Dist, SpecD.
-/
import Derived.Test.YtpfaaglaeholbaaPackJ
import Derived.Test.YtpfaaglaeholbaaPackI
import Derived.Test.YtpfaaglaeholbaaPackA
import Derived.Test.YtpfaaglaeholbaaPackD
import Derived.RegionTactic
import Derived.BigRegion
import Derived.Deep.LoopGhost
import Derived.Test.YtpfaaglaeholbaaPackF
import Derived.Test.YtpfaaglaeholbaaPackH
import Derived.Test.YtpfaaglaeholbaaPackB
/-
  pathTo of the program, walked.
-/
namespace Go.Proofs.Ytpfaaglaeholbaa
open Go.RowKit
set_option maxRecDepth 100000

/-- slices.Reverse at switches: what it leaves. -/
@[reducible] def RevAt : Prop := ∀ (v : Value) (l : List Sw) (lo : Nat) (w : World), OwnSws w lo v l → l.length ≤ 65536 →
  Calls Try.prog 89 #[v] w fun e w' => e = .returned (.tuple #[]) ∧ OwnSws w' lo v l.reverse ∧ w.grownBy w' v.ownBlock
theorem eqGuard_sw (s u : Sw) (x y : Operand) (w : World) : (eqGuard .neq 32 x y (swV s) (swV u)).run Try.prog w = .ok () w := by
  simp [eqGuard, swV, Result.andThen]
theorem wpList_lookupX {R C : Nat} {m : List (List Int)} {L : List (List (List Int))} {V : List (List Sw)} {k K i : Nat} {ops : Array Oper} {rest : List Oper} {o : Oper} {a : Act} {Q : Exit → Act → World → Prop} {W : World} {b : Nat} {z : List (List Int)} {s : Sw} (hm : Node R C m) (hb : Bfs m L V k K) (h : ImgMap W b (ksOf R C L V)) (hi : i < L.length) (hz : z = L.getD i []) (hs : s = lastS (V.getD i []))
    (d : Tmp) (_hd : o.dst = some d) (hgd : o.guard = none) (y x : Operand) (ho : o.op = .lookup 69 y x false) (hy : a.eval y = .map (some b)) (hx : a.eval x = .agg (vec 25 (imgC R C z)))
    (hK : wpList Try.prog ops Q rest (a.put o.dst (swV s)) W) : wpList Try.prog ops Q (o :: rest) a W := by
  subst hz; subst hs
  exact wpList_lookupAt hm hb h hi d _hd hgd y x ho hy hx hK
/-- What stands at the loop: image i, its way still to go, the switches so far. -/
def PtSt (w : World) (R C b : Nat) (L : List (List (List Int))) (V : List (List Sw)) (P : List Sw) (i gw : Nat) (v : Value) (w' : World) : Prop :=
  ∃ path, path ++ (V.getD i []).reverse = P.reverse ∧ path.length + (V.getD i []).length = P.length ∧ SwAt w' gw (lastS (V.getD i [])) ∧ w.heap.size + 1 ≤ gw ∧ v.ownBlock ≠ some gw ∧ Blk w' w.heap.size 65 25 (imgC R C (L.getD i [])) ∧ OwnSws w' (w.heap.size + 1) v path ∧ ImgMap w' b (ksOf R C L V) ∧ Below w.heap.size w w'
set_option maxHeartbeats 4000000 in
theorem pathTo_any (hrev : RevAt) {R C : Nat} {m : List (List Int)} {L : List (List (List Int))} {V : List (List Sw)} {k0 K i0 b : Nat} (w : World) (hm : Node R C m) (hR : R ≤ 4) (hC : C ≤ 4) (hb : Bfs m L V k0 K) (hi : i0 < L.length) (hmap : ImgMap w b (ksOf R C L V)) :
    Calls Try.prog 51 #[.map (some b), .agg (vec 25 (imgC R C (L.getD i0 [])))] w (SwsRes (V.getD i0 []) w) := by
  have HM := hide hm; have HBF := hide hb; have HREV := hide hrev
  have HPL : Hid ((V.getD i0 []).length ≤ 65536) := hide (by have := tree_len hb i0 i0 (Nat.le_refl _) hi; have := bfs_size hm hR hC hb; omega)
  have HI0 := hide hi
  have HBL := imgMap_lt hmap
  obtain ⟨x0, hx0⟩ : ∃ x, x = L.getD i0 [] := ⟨_, rfl⟩
  have HX0 := hide hx0
  obtain ⟨q0, hq0⟩ : ∃ s, s = lastS (V.getD i0 []) := ⟨_, rfl⟩
  have HQ0 := hide hq0
  rw [← hx0]
  have al := (Below.refl w.heap.size w).alloc (Nat.le_refl _) (.cells (vec 25 (imgC R C x0)) 65)
  have hp : Blk _ w.heap.size 65 25 (imgC R C x0) := heap_alloc_new w (.cells (vec 25 (imgC R C x0)) 65)
  have HMA := hide (imgMap_below hmap al)
  have hsa : (w.alloc (.cells (vec 25 (imgC R C x0)) 65)).heap.size = w.heap.size + 1 := by simp
  obtain ⟨w1, hw1⟩ : ∃ w1, w1 = w.alloc (.cells (vec 25 (imgC R C x0)) 65) := ⟨_, rfl⟩
  have HW1 := hide hw1
  have HAL := hide al
  obtain ⟨P, hP⟩ : ∃ P, P = V.getD i0 [] := ⟨_, rfl⟩
  have HP := hide hP
  rw [← hP] at HPL ⊢
  clear hm hb hi hmap hrev hR hC hP hx0 hq0 hw1 al
  go_enter Try.func51, Try.ntmps51
  go_wp2_with (first | (with_reducible refine wpList_loadVec hp 8 rfl rfl _ rfl rfl Try.underlying65 Try.sizeImg ?_) | (with_reducible refine wpList_lookupX HM.out HBF.out HMA.out HI0.out HX0.out HQ0.out 9 rfl rfl (.tmp 7) (.tmp 8) rfl rfl rfl ?_) | ((with_reducible refine wpList_allocSw 6 rfl rfl rfl ?_); intro w2 h2 b2 s2) | ((refine wpList_storeSw h2 q0 rfl (.tmp 6) (.tmp 9) rfl rfl rfl ?_); intro w3 h3 g3 s3))
  rw [hsa] at h2 h3 b2 g3 s2
  have b3 := b2.trans (grown_below g3 (fun k hk => by cases hk; exact Nat.le_refl _) (by omega))
  have b4 := HAL.out.trans (b3.mono (Nat.le_succ _))
  have HST : Hid (PtSt w R C b L V P i0 (w.heap.size + 1) (.slice none 0 0) w3) := hide ⟨[], by rw [← HP.out]; rfl, by rw [← HP.out]; simp, by rw [← HQ0.out]; exact h3, Nat.le_refl _, by simp [Value.ownBlock], by rw [← HX0.out]; exact blk_below hp (by rw [hsa]; exact b3), ownSws_nil _ _, imgMap_below HMA.out (by rw [hsa]; exact b3), b4⟩
  have HSA := hide hsa
  clear h2 h3 b2 g3 s2 s3 b3 b4 hp hsa HAL HMA HW1
  go_frame
  go_loopg [5, 6] P.length (fun g v u w' => ∃ i gw, (V.getD i []).length = g ∧ i < L.length ∧ u = .pointer (some ⟨gw, 0, none⟩) ∧ PtSt w R C b L V P i gw v w')
  case atStart => exact ⟨i0, w.heap.size + 1, by rw [← HP.out], HI0.out, by rw [HSA.out], HST.out⟩
  case round =>
    clear HST HI0 HX0 HQ0
    obtain ⟨i, gw, hlen, hi, rfl, hst⟩ := hrel
    have HI := hide hi; have HST := hide hst
    obtain ⟨path, hp1, hp2, hp3, hp4, hp5, hp6, hp7, hp8, hp9⟩ := hst
    have HP1 := hide hp1; have HO := hide hp7
    cases gk with
    | zero =>
      have hnil : V.getD i [] = [] := List.eq_nil_of_length_eq_zero hlen
      have HS := hide hp3
      rw [hnil] at HS HP1
      have hneq : ∀ w, (binOp .neq 32 (swV zeroSw) (.agg #[.int .i64 0, .int .i64 0, .int .i64 0, .int .i64 0])).run Try.prog w = .ok (.bool false) w := run_neqSw zero_wf zero_wf false (by simp)
      have heg : ∀ w, (eqGuard .neq 32 (.tmp 10) (.tmp 11) (swV zeroSw) (.agg #[.int .i64 0, .int .i64 0, .int .i64 0, .int .i64 0])).run Try.prog w = .ok () w := eqGuard_sw zeroSw zeroSw _ _
      unfold lastS at HS
      rw [List.getLastD_nil] at HS
      have HPE : Hid (path = P.reverse) := hide (by simpa using HP1.out)
      have HPR : Hid (path.length ≤ 65536) := hide (by have := HPL.out; omega)
      have HBW := hide hp9
      clear hlen hi hp1 hp2 hp3 hp4 hp5 hp6 hp7 hp8 hp9 hnil HST
      go_wp2_with (first | (with_reducible refine wpList_loadSw HS.out 10 rfl rfl _ rfl rfl ?_) | ((with_reducible refine (HREV.out _ path (w.heap.size + 1) _ HO.out HPR.out).mono ?_); rintro e w9 ⟨rfl, ho9, g9⟩))
      go_ret
      exact ⟨_, rfl, by rw [show P = path.reverse by rw [HPE.out, List.reverse_reverse]]; exact ownSws_base ho9 (Nat.le_succ _), HBW.out.trans (grown_below g9 (fun k hk => Nat.le_trans (Nat.le_succ _) (HO.out.lt k hk).1) HBW.out.size)⟩
    | succ g =>
      obtain ⟨j, s, hj, he, hjl, hsb, hfl⟩ := tree_back HM.out HBF.out hi hlen
      have HJ := hide hj; have HJL := hide hjl
      have HNX := hide (bfs_node HM.out HBF.out hi)
      have HNY := hide (bfs_node HM.out HBF.out hj)
      rw [he, lastS_snoc] at hp3
      have HPE : Hid ((path ++ [s]) ++ (V.getD j []).reverse = P.reverse) := hide (by rw [← hp1, he]; simp)
      have HPN : Hid ((path ++ [s]).length + (V.getD j []).length = P.length) := hide (by rw [← hp2, he]; simp; omega)
      have HPR : Hid (path.length < 4000000) := hide (by have := HPL.out; omega)
      obtain ⟨x, hx⟩ : ∃ x, x = L.getD i [] := ⟨_, rfl⟩
      obtain ⟨y, hy⟩ : ∃ y, y = L.getD j [] := ⟨_, rfl⟩
      obtain ⟨s2, hs2⟩ : ∃ s2, s2 = lastS (V.getD j []) := ⟨_, rfl⟩
      have HY := hide hy; have HS2 := hide hs2
      rw [← hx] at HNX hsb hfl hp6
      rw [← hy] at HNY hfl
      have HSB := hide hsb; have HFL := hide hfl
      obtain ⟨hw1, hw2⟩ := swB_wf HNX.out hsb
      have hneq : ∀ w, (binOp .neq 32 (swV s) (.agg #[.int .i64 0, .int .i64 0, .int .i64 0, .int .i64 0])).run Try.prog w = .ok (.bool true) w := run_neqSw hw1 zero_wf true (by simpa using hw2)
      have heg : ∀ w, (eqGuard .neq 32 (.tmp 10) (.tmp 11) (swV s) (.agg #[.int .i64 0, .int .i64 0, .int .i64 0, .int .i64 0])).run Try.prog w = .ok () w := eqGuard_sw s zeroSw _ _
      have HS := hide hp3; have HG := hide hp4; have HNE := hide hp5; have HX := hide hp6; have HMP := hide hp8; have HB := hide hp9
      have HGL := hide (swAt_lt hp3)
      have HZ : Hid (w.heap.size + 1 ≤ wr.heap.size) := hide (by have := swAt_lt hp3; omega)
      clear hlen hi hp1 hp2 hp3 hp4 hp5 hp6 hp7 hp8 hp9 hj he hjl hsb hfl hx hy hs2 hw1 hw2 HST
      go_wp2_with (first | (with_reducible refine wpList_loadSw HS.out 10 rfl rfl _ rfl rfl ?_) | (with_reducible refine wpList_loadSw HS.out 17 rfl rfl _ rfl rfl ?_) | (with_reducible refine wpList_buildOneA (swA s) _ 18 rfl rfl (.tmp 17) rfl rfl Try.underlying26 Try.infoSw (by decide) (by decide) rfl ?_) | (at_builtin; refine wpList_pushA HO.out (swA s) _ rfl _ _ rfl Try.underlying26 Try.infoSw rfl (by decide) (by decide) rfl rfl rfl (swA_one s) HPR.out HZ.out ?_; intro g1 cap wa hown ba ga ata lta; have A1 := hide (swAt_grown HS.out ga HNE.out); have A2 : Hid (Blk wa w.heap.size 65 25 (imgC R C x)) := hide (by have := HX.out; unfold Blk at this ⊢; rw [ba.block w.heap.size (Nat.lt_succ_self _)]; exact this); have A3 := hide (imgMap_heap HMP.out (ba.block b (by omega))); have A4 := hide hown; have A5 := hide (HB.out.trans (ba.mono (Nat.le_succ _))); have A6 : Hid (g1 ≠ gw) := hide (ata.elim (fun e e2 => HNE.out (by rw [e, e2])) (fun e => by have := HGL.out; omega)); clear hown ba ga ata lta) | (with_reducible refine wpList_loadVec A2.out 20 rfl rfl _ rfl rfl Try.underlying65 Try.sizeImg ?_) | (with_reducible refine wpList_loadSw A1.out 21 rfl rfl _ rfl rfl ?_) | ((with_reducible refine (imgC_flip _ HNX.out HSB.out).mono ?_); rw [HFL.out]; rintro e w10 ⟨rfl, hb⟩; have B1 := hide (swAt_below A1.out hb); have B2 := hide (blk_below A2.out hb); have B3 := hide (imgMap_below A3.out hb); have B4 := hide (ownA_below A4.out hb); have B5 := hide (A5.out.trans (hb.mono A5.out.size)); clear hb A1 A2 A3 A4 A5) | ((with_reducible refine wpList_storeVec B2.out rfl (.tmp 3) (.tmp 22) rfl rfl rfl Try.sizeImg ?_); intro wb hk gb sb; have C1 := hide (swAt_grown B1.out gb (by intro e; have := Option.some.inj e; have := HG.out; omega)); have C2 := hide hk; have C3 := hide (imgMap_grown B3.out gb (by intro e; have := Option.some.inj e; omega)); have C4 := hide (B4.out.kept gb (.inr (by intro e; have := (B4.out.lt _ e).1; omega))); have C5 := hide (B5.out.trans (grown_below gb (fun k hk => by cases hk; exact Nat.le_refl _) B5.out.size)); clear hk gb sb B1 B2 B3 B4 B5) | (with_reducible refine wpList_loadSw C1.out 23 rfl rfl _ rfl rfl ?_) | ((with_reducible refine wpList_allocSw 6 rfl rfl rfl ?_); intro wc hc bc sc) | ((with_reducible refine wpList_storeSw hc s rfl (.tmp 6) (.tmp 23) rfl rfl rfl ?_); intro wd hd gd sd; have bd := bc.trans (grown_below gd (fun k hk => by cases hk; exact Nat.le_refl _) bc.size); have D1 := hide hd; have D2 := hide (blk_below C2.out bd); have D3 := hide (imgMap_below C3.out bd); have D4 := hide (ownA_below C4.out bd); have D5 := hide (C5.out.trans (bd.mono C5.out.size)); have D6 : Hid (g1 < wb.heap.size) := hide (C4.out.lt g1 rfl).2; have D7 : Hid (w.heap.size + 1 ≤ wb.heap.size) := hide (by have := (C4.out.lt g1 rfl); omega); clear hc bc sc hd gd sd bd) | (with_reducible refine wpList_loadVec D2.out 14 rfl rfl _ rfl rfl Try.underlying65 Try.sizeImg ?_) | (with_reducible refine wpList_lookupX HM.out HBF.out D3.out HJ.out HY.out HS2.out 15 rfl rfl (.tmp 13) (.tmp 14) rfl rfl rfl ?_) | ((with_reducible refine wpList_storeSw D1.out s2 rfl (.tmp 6) (.tmp 15) rfl rfl rfl ?_); intro we he ge se))
      have E1 := hide he
      have E2 := hide (blk_grown D2.out ge (by intro e; have := Option.some.inj e; have := D7.out; omega))
      have E3 := hide (imgMap_grown D3.out ge (by intro e; have := Option.some.inj e; have := D7.out; omega))
      have E4 := hide (D4.out.kept ge (.inr (by intro e; have h1 : g1 = wb.heap.size := Option.some.inj e; have := D6.out; omega)))
      have E5 := hide (D5.out.trans (grown_below ge (fun k hk => by have := Option.some.inj hk; have := D7.out; omega) D5.out.size))
      clear he ge se D1 D2 D3 D4 D5
      go_frame
      go_roundg g
      case measure => exact Nat.lt_succ_self g
      case rel =>
        refine ⟨j, wb.heap.size, HJL.out, HJ.out, rfl, path ++ [s], HPE.out, HPN.out, by rw [← HS2.out]; exact E1.out, D7.out, ?_, by rw [← HY.out]; exact E2.out, ?_, E3.out, E5.out⟩
        · intro e
          have h1 : g1 = wb.heap.size := Option.some.inj e
          have := D6.out; omega
        · unfold OwnSws
          rw [cellsS_snoc, List.length_append]
          exact E4.out
end Go.Proofs.Ytpfaaglaeholbaa
/-
  The exact laws' helpers at switches: toSwitch, toSwitchS, szSwitchS, markSwitchS, heldSwitchS.
-/
namespace Go.Proofs.Ytpfaaglaeholbaa
open Go.RowKit

def set4 (xs : List Value) (k : Nat) (s : Sw) : List Value := (((xs.set k (.int .i64 s.y1)).set (k + 1) (.int .i64 s.y2)).set (k + 2) (.int .i64 s.x1)).set (k + 3) (.int .i64 s.x2)
theorem set4_len (xs : List Value) (k : Nat) (s : Sw) : (set4 xs k s).length = xs.length := by simp [set4]
theorem set4_fill {l : List Sw} {xs : List Value} {k : Nat} (h : xs.length = l.length * 4) (hk : k < l.length) : set4 (cellsS (l.take k) ++ xs.drop (k * 4)) (k * 4) l[k] = cellsS (l.take (k + 1)) ++ xs.drop ((k + 1) * 4) := by
  have hl : (cellsS (l.take k)).length = k * 4 := by rw [cellsS_len, List.length_take]; omega
  obtain ⟨a, b, c, d, r, hr⟩ : ∃ a b c d r, xs.drop (k * 4) = a :: b :: c :: d :: r := by
    have : 4 ≤ (xs.drop (k * 4)).length := by rw [List.length_drop]; omega
    match hx : xs.drop (k * 4), this with
    | a :: b :: c :: d :: r, _ => exact ⟨a, b, c, d, r, rfl⟩
  have hd : xs.drop ((k + 1) * 4) = r := by
    rw [show (k + 1) * 4 = k * 4 + 4 by omega, ← List.drop_drop, hr]; rfl
  rw [hd, hr, List.take_succ_eq_append_getElem hk, cellsS_snoc]
  unfold set4
  rw [List.set_append_right _ _ (by omega), List.set_append_right _ _ (by omega), List.set_append_right _ _ (by omega), List.set_append_right _ _ (by omega), hl]
  rw [show k * 4 - k * 4 = 0 by omega, show k * 4 + 1 - k * 4 = 1 by omega, show k * 4 + 2 - k * 4 = 2 by omega, show k * 4 + 3 - k * 4 = 3 by omega]
  simp [swA]
/-- A switch is stored in a slice of the call's own. -/
theorem exec_storeSwOwn {ρ : Operand → Value} {o : Oper} {w : World} {x y : Operand} {base e g n c i : Nat} {xs : List Value} {s : Sw} (ho : o.op = .store 32 x y) (hx : ρ x = .pointer (some ⟨g, i * 4, none⟩)) (hy : ρ y = swV s)
    (h : w.ownsRow base e 4 (.slice (some ⟨g, 0, none⟩) n c) n xs) (hi : i < n) : ∃ w', (execOp ρ o).run Try.prog w = .ok .skip w' ∧ w'.ownsRow base e 4 (.slice (some ⟨g, 0, none⟩) n c) n (set4 xs (i * 4) s) ∧ w.grownBy w' (some g) := by
  have hl := h.1
  have hc : ∀ j, j < n * 4 → ∃ u, w.cell? ⟨g, j, none⟩ = some u := fun j hj => ⟨xs[j], by rw [h.cellAt j hj, List.getElem?_eq_getElem (by omega)]⟩
  obtain ⟨u0, h0⟩ := hc (i * 4) (by omega); obtain ⟨u1, h1⟩ := hc (i * 4 + 1) (by omega); obtain ⟨u2, h2⟩ := hc (i * 4 + 2) (by omega); obtain ⟨u3, h3⟩ := hc (i * 4 + 3) (by omega)
  have f0 := h.frozenAt (i * 4); have f1 := h.frozenAt (i * 4 + 1); have f2 := h.frozenAt (i * 4 + 2); have f3 := h.frozenAt (i * 4 + 3)
  obtain ⟨a1, b1⟩ := h.stored (i * 4) (.int .i64 s.y1)
  obtain ⟨a2, b2⟩ := a1.stored (i * 4 + 1) (.int .i64 s.y2)
  obtain ⟨a3, b3⟩ := a2.stored (i * 4 + 2) (.int .i64 s.x1)
  obtain ⟨a4, b4⟩ := a3.stored (i * 4 + 3) (.int .i64 s.x2)
  refine ⟨_, ?_, a4, grown_trans (grown_trans (grown_trans b1 b2) b3) b4⟩
  unfold execOp
  simp only [ho, hx, hy, swV, swA]
  go_simp
theorem wpList_storeSwOwn {ops : Array Oper} {rest : List Oper} {o : Oper} {a : Act} {Q : Exit → Act → World → Prop} {W : World} {base e g n c i : Nat} {xs : List Value} {s : Sw} (h : W.ownsRow base e 4 (.slice (some ⟨g, 0, none⟩) n c) n xs) (hi : i < n)
    (hgd : o.guard = none) (x y : Operand) (ho : o.op = .store 32 x y) (hx : a.eval x = .pointer (some ⟨g, i * 4, none⟩)) (hy : a.eval y = swV s)
    (hK : ∀ w', w'.ownsRow base e 4 (.slice (some ⟨g, 0, none⟩) n c) n (set4 xs (i * 4) s) → W.grownBy w' (some g) → wpList Try.prog ops Q rest (a.put o.dst undef) w') : wpList Try.prog ops Q (o :: rest) a W := by
  refine wpList_plain hgd fun K hk => ?_
  obtain ⟨w', h1, h2, h3⟩ := exec_storeSwOwn (ρ := a.eval) ho hx hy h hi
  unfold Oper.wp
  rw [h1]
  exact hk _ _ (hK w' h2 h3)

def SizeS (n left : Nat) (w : World) (e : Ending) (w' : World) : Prop := ∃ r : Int, e = .returned (.int .i64 r) ∧ ((r = -1) ∨ (n ≤ left ∧ r = (left - n : Nat))) ∧ w = w'
/-- The cells are marked one after the other. -/
theorem mark_cell (q j m : Nat) (xs : List Value) (hl : xs.length = m) (hj : j < m) : (ints (markR j q) ++ xs.drop j).set j (.int .i64 ((q + j : Nat) : Int)) = ints (markR (j + 1) q) ++ xs.drop (j + 1) := markR_set m q j xs hl hj
set_option maxRecDepth 100000 in
set_option maxHeartbeats 2000000 in
theorem markSwitchS_any (n q : Nat) (v : Value) (xs : List Value) (base : Nat) (w : World) (hn : n ≤ 1100000) (hq : q ≤ 2000000) (ho : w.ownsRow base 32 4 v n xs) :
    Calls Try.prog 26 #[v, .int .i64 q] w fun e w' => e = .returned (.int .i64 ((q + n * 4 : Nat) : Int)) ∧ w'.ownsRow base 32 4 v n (ints (markR (n * 4) q)) ∧ w.grownBy w' v.ownBlock := by
  have HXL := hide ho.1
  by_cases h0 : n = 0
  · subst h0
    obtain ⟨a, c, rfl⟩ := ownA_slice ho
    have HO : Hid (w.ownsRow base 32 4 (.slice a 0 c) 0 (ints (markR (0 * 4) q))) := hide (by
      have hx : xs = [] := List.eq_nil_of_length_eq_zero (by rw [HXL.out])
      rw [hx] at ho; exact ho)
    clear ho HXL
    go_enter Try.func26, Try.ntmps26
    go_wp2
    go_loop [1, 5] (fun s i => i = .int .i64 0 ∧ s = .int .i64 q) (fun _ _ => 0)
    case atStart => exact ⟨rfl, rfl⟩
    case round =>
      obtain ⟨rfl, rfl⟩ := hrel
      go_wp2
      go_ret
      exact ⟨rfl, HO.out, grown_of_below (Below.refl _ _) _⟩
  · obtain ⟨g, c, rfl, -⟩ := ownA_some ho (by omega)
    have HO : Hid (w.ownsRow base 32 4 (.slice (some ⟨g, 0, none⟩) n c) n (ints (markR (0 * 4) q) ++ xs.drop (0 * 4))) := hide (by simpa [markR, ints] using ho)
    clear ho h0
    go_enter Try.func26, Try.ntmps26
    go_wp2
    go_loopw [1, 5] (fun u i w' => ∃ k : Nat, k ≤ n ∧ i = .int .i64 k ∧ u = .int .i64 ((q + k * 4 : Nat) : Int) ∧ w'.ownsRow base 32 4 (.slice (some ⟨g, 0, none⟩) n c) n (ints (markR (k * 4) q) ++ xs.drop (k * 4)) ∧ w.grownBy w' (some g)) (fun _ i _ => n - (intOf i).toNat)
    case atStart => exact ⟨0, Nat.zero_le _, rfl, by simp, HO.out, grown_of_below (Below.refl _ _) _⟩
    case round =>
      clear HO
      obtain ⟨k, hk, rfl, rfl, ho, hg⟩ := hrel
      have HO := hide ho; have HG := hide hg
      by_cases hlt : k < n
      · have hltI : (k : Int) < n := by omega
        obtain ⟨p, hp⟩ : ∃ p, p = q + k * 4 := ⟨_, rfl⟩
        have hpb : p ≤ 10000000 := by omega
        have hlx := HXL.out
        obtain ⟨u0, h0⟩ : ∃ u, wr.cell? ⟨g, k * 4, none⟩ = some u := ⟨_, by rw [ho.cellAt _ (by omega), List.getElem?_eq_getElem (by have := ho.1; omega)]⟩
        obtain ⟨u1, h1⟩ : ∃ u, wr.cell? ⟨g, k * 4 + 1, none⟩ = some u := ⟨_, by rw [ho.cellAt _ (by omega), List.getElem?_eq_getElem (by have := ho.1; omega)]⟩
        obtain ⟨u2, h2⟩ : ∃ u, wr.cell? ⟨g, k * 4 + 2, none⟩ = some u := ⟨_, by rw [ho.cellAt _ (by omega), List.getElem?_eq_getElem (by have := ho.1; omega)]⟩
        obtain ⟨u3, h3⟩ : ∃ u, wr.cell? ⟨g, k * 4 + 3, none⟩ = some u := ⟨_, by rw [ho.cellAt _ (by omega), List.getElem?_eq_getElem (by have := ho.1; omega)]⟩
        have f0 := ho.frozenAt (k * 4); have f1 := ho.frozenAt (k * 4 + 1); have f2 := ho.frozenAt (k * 4 + 2); have f3 := ho.frozenAt (k * 4 + 3)
        obtain ⟨a1, b1⟩ := ho.stored (k * 4) (.int .i64 (p : Int))
        obtain ⟨a2, b2⟩ := a1.stored (k * 4 + 1) (.int .i64 ((p : Int) + 1))
        obtain ⟨a3, b3⟩ := a2.stored (k * 4 + 2) (.int .i64 ((p : Int) + 1 + 1))
        obtain ⟨a4, b4⟩ := a3.stored (k * 4 + 3) (.int .i64 ((p : Int) + 1 + 1 + 1))
        have HA := hide a4
        have HGG := hide (grown_trans hg (grown_trans (grown_trans (grown_trans b1 b2) b3) b4))
        have HE : Hid (((((ints (markR (k * 4) q) ++ xs.drop (k * 4)).set (k * 4) (.int .i64 (p : Int))).set (k * 4 + 1) (.int .i64 ((p : Int) + 1))).set (k * 4 + 2) (.int .i64 ((p : Int) + 1 + 1))).set (k * 4 + 3) (.int .i64 ((p : Int) + 1 + 1 + 1)) = ints (markR ((k + 1) * 4) q) ++ xs.drop ((k + 1) * 4)) := hide (by
          have e0 := mark_cell q (k * 4) (n * 4) xs hlx (by omega)
          have e1 := mark_cell q (k * 4 + 1) (n * 4) xs hlx (by omega)
          have e2 := mark_cell q (k * 4 + 2) (n * 4) xs hlx (by omega)
          have e3 := mark_cell q (k * 4 + 3) (n * 4) xs hlx (by omega)
          rw [show (p : Int) = ((q + k * 4 : Nat) : Int) by rw [hp], show ((q + k * 4 : Nat) : Int) + 1 = ((q + (k * 4 + 1) : Nat) : Int) by omega, show ((q + (k * 4 + 1) : Nat) : Int) + 1 = ((q + (k * 4 + 2) : Nat) : Int) by omega, show ((q + (k * 4 + 2) : Nat) : Int) + 1 = ((q + (k * 4 + 3) : Nat) : Int) by omega]
          rw [e0, e1, e2, e3, show (k + 1) * 4 = k * 4 + 3 + 1 by omega])
        have HP := hide hp
        rw [← hp]
        clear ho hg a1 a2 a3 a4 b1 b2 b3 b4 hp hlx
        go_wp2
        go_roundw
        case rel => exact ⟨k + 1, by omega, by go_num, by rw [HP.out]; go_num, by rw [← HE.out]; exact HA.out, HGG.out⟩
        case measure => simp [intOf]; omega
      · obtain rfl : k = n := by omega
        have HE : Hid (ints (markR (k * 4) q) ++ xs.drop (k * 4) = ints (markR (k * 4) q)) := hide (by rw [List.drop_eq_nil_of_le (by rw [HXL.out]; exact Nat.le_refl _), List.append_nil])
        go_wp2
        go_ret
        exact ⟨rfl, by rw [← HE.out]; exact HO.out, HG.out⟩
/-- A slice of n elements of four cells, each one greater than the one before. -/
def HeldC (w : World) (v : Value) (n q : Nat) : Prop := ∃ a c, v = .slice a n c ∧ n ≤ maxLen ∧ (n = 0 ∨ ∃ g o, a = some ⟨g, o, none⟩ ∧ g < w.heap.size ∧ ∀ j, j < n * 4 → w.cell? ⟨g, o + j, none⟩ = some (.int .i64 ((q + j : Nat) : Int)))
theorem heldC_below {w w' : World} {v : Value} {n q : Nat} (h : HeldC w v n q) (hb : Below w.heap.size w w') : HeldC w' v n q := by
  obtain ⟨a, c, hv, hm, hp⟩ := h
  refine ⟨a, c, hv, hm, ?_⟩
  rcases hp with h0 | ⟨g, o, ha, hg, hc⟩
  · exact .inl h0
  · exact .inr ⟨g, o, ha, Nat.lt_of_lt_of_le hg hb.size, fun j hj => below_cell hb hg (hc j hj)⟩
theorem heldC_own {w : World} {base e n q : Nat} {v : Value} (h : w.ownsRow base e 4 v n (ints (markR (n * 4) q))) : HeldC w v n q := by
  rcases h.2 with ⟨rfl, h0⟩ | ⟨g, cap, cur, rfl, hbg, hg, hc, hm, _⟩
  · exact ⟨none, 0, by rw [h0], by omega, .inl h0⟩
  · refine ⟨_, _, rfl, by omega, .inr ⟨g, 0, rfl, (Array.getElem?_eq_some_iff.1 hg).1, fun j hj => ?_⟩⟩
    rw [Nat.zero_add, h.cellAt j hj, ints_at _ j (by rw [markR_len]; exact hj), markR_at]
set_option maxRecDepth 100000 in
set_option maxHeartbeats 2000000 in
theorem heldSwitchS_any (n q : Nat) (v : Value) (w : World) (hn : n ≤ 1100000) (hq : q ≤ 2000000) (hv : HeldC w v n q) :
    Calls Try.prog 27 #[v, .int .i64 q] w fun e w' => e = .returned (.int .i64 ((q + n * 4 : Nat) : Int)) ∧ w = w' := by
  obtain ⟨a, c, rfl, hm, hp⟩ := hv
  unfold maxLen at hm
  have HP := hide hp
  clear hp
  go_enter Try.func27, Try.ntmps27
  go_wp2
  go_loop [1, 5] (fun u i => ∃ k : Nat, k ≤ n ∧ i = .int .i64 k ∧ u = .int .i64 ((q + k * 4 : Nat) : Int)) (fun _ i => n - (intOf i).toNat)
  case atStart => exact ⟨0, Nat.zero_le _, rfl, by simp⟩
  case round =>
    obtain ⟨k, hk, rfl, rfl⟩ := hrel
    by_cases hlt : k < n
    · have hltI : (k : Int) < n := by omega
      obtain ⟨g, o, rfl, hg, hcl⟩ := HP.out.resolve_left (by omega)
      obtain ⟨p, hp⟩ : ∃ p, p = q + k * 4 := ⟨_, rfl⟩
      have hpb : p ≤ 10000000 := by omega
      have h0 : w.cell? ⟨g, o + k * 4, none⟩ = some (.int .i64 (p : Int)) := by rw [hcl (k * 4) (by omega), hp]
      have h1 : w.cell? ⟨g, o + k * 4 + 1, none⟩ = some (.int .i64 ((p : Int) + 1)) := by rw [Nat.add_assoc, hcl (k * 4 + 1) (by omega), hp]; congr 2
      have h2 : w.cell? ⟨g, o + k * 4 + 2, none⟩ = some (.int .i64 ((p : Int) + 1 + 1)) := by rw [Nat.add_assoc, hcl (k * 4 + 2) (by omega), hp]; congr 2
      have h3 : w.cell? ⟨g, o + k * 4 + 3, none⟩ = some (.int .i64 ((p : Int) + 1 + 1 + 1)) := by rw [Nat.add_assoc, hcl (k * 4 + 3) (by omega), hp]; congr 2
      have HPP := hide hp
      rw [← hp]
      clear hp hcl
      go_wp2
      go_round
      case rel => exact ⟨k + 1, by omega, by go_num, by rw [HPP.out]; go_num⟩
      case measure => simp [intOf]; omega
    · obtain rfl : k = n := by omega
      go_wp2
      go_ret
      exact ⟨rfl, rfl⟩
end Go.Proofs.Ytpfaaglaeholbaa
/-
  slices.Reverse at switches.
-/
namespace Go.Proofs.Ytpfaaglaeholbaa
open Go.RowKit
set_option maxRecDepth 100000

theorem grown_drewR {w w' : World} {row : Option Nat} (h : w.grownBy w' row) : w.grownBy w'.drew row := ⟨h.os, h.tape, h.output, h.size, h.block⟩
/-- Turned round from both ends, k places in. -/
def revF (l : List Sw) (k : Nat) : List Sw := (List.range l.length).map fun t => if t < k ∨ l.length ≤ t + k then l.getD (l.length - 1 - t) zeroSw else l.getD t zeroSw
theorem revF_len (l : List Sw) (k : Nat) : (revF l k).length = l.length := by simp [revF]
theorem revF_at (l : List Sw) (k t : Nat) (h : t < (revF l k).length) : (revF l k)[t] = if t < k ∨ l.length ≤ t + k then l.getD (l.length - 1 - t) zeroSw else l.getD t zeroSw := by simp [revF]
theorem revF_zero (l : List Sw) : revF l 0 = l := by
  refine List.ext_getElem (revF_len l 0) fun t h1 h2 => ?_
  rw [revF_at, if_neg (by omega), List.getD_eq_getElem?_getD, List.getElem?_eq_getElem h2]; rfl
theorem revF_end {l : List Sw} {k : Nat} (h : l.length ≤ 2 * k + 1) : revF l k = l.reverse := by
  refine List.ext_getElem (by rw [revF_len]; simp) fun t h1 h2 => ?_
  have ht : t < l.length := by simpa using h2
  rw [revF_at, List.getElem_reverse]
  by_cases e : t < k ∨ l.length ≤ t + k
  · rw [if_pos e, List.getD_eq_getElem?_getD, List.getElem?_eq_getElem (by omega)]; rfl
  · rw [if_neg e, List.getD_eq_getElem?_getD, List.getElem?_eq_getElem (by omega), Option.getD_some]
    congr 1; omega
theorem revF_step {l : List Sw} {k q : Nat} (h : k + q + 1 = l.length) (hkq : k < q) : ((revF l k).set k (l.getD q zeroSw)).set q (l.getD k zeroSw) = revF l (k + 1) := by
  refine List.ext_getElem (by simp [revF_len]) fun t h1 h2 => ?_
  have ht : t < l.length := by rw [revF_len] at h2; exact h2
  rw [List.getElem_set, List.getElem_set, revF_at, revF_at]
  by_cases e1 : q = t
  · subst e1
    rw [if_pos rfl, if_pos (by omega), show l.length - 1 - q = k by omega]
  · rw [if_neg e1]
    by_cases e2 : k = t
    · subst e2
      rw [if_pos rfl, if_pos (by omega), show l.length - 1 - k = q by omega]
    · rw [if_neg e2]
      by_cases e : t < k ∨ l.length ≤ t + k
      · rw [if_pos e, if_pos (by omega)]
      · rw [if_neg e, if_neg (by omega)]
theorem cellsS_set : ∀ (l : List Sw) (k : Nat) (s : Sw), k < l.length → cellsS (l.set k s) = set4 (cellsS l) (k * 4) s
  | [], k, s, h => by simp at h
  | x :: l, 0, s, _ => by simp [cellsS, set4]
  | x :: l, k + 1, s, h => by
    have ih := cellsS_set l k s (by simpa using h)
    have e1 : ∀ l : List Sw, cellsS (x :: l) = .int .i64 x.y1 :: .int .i64 x.y2 :: .int .i64 x.x1 :: .int .i64 x.x2 :: cellsS l := fun l => by simp [cellsS]
    rw [List.set_cons_succ, e1, ih, e1]
    unfold set4
    rw [show (k + 1) * 4 = k * 4 + 1 + 1 + 1 + 1 by omega, show k * 4 + 1 + 1 + 1 + 1 + 1 = (k * 4 + 1) + 1 + 1 + 1 + 1 by omega, show k * 4 + 1 + 1 + 1 + 1 + 2 = (k * 4 + 2) + 1 + 1 + 1 + 1 by omega, show k * 4 + 1 + 1 + 1 + 1 + 3 = (k * 4 + 3) + 1 + 1 + 1 + 1 by omega]
    simp only [List.set_cons_succ]
theorem revF_q (l : List Sw) {k q : Nat} (h : k + q + 1 = l.length) (hkq : k < q) : (revF l k).getD k zeroSw = l.getD k zeroSw ∧ (revF l k).getD q zeroSw = l.getD q zeroSw := by
  have h1 : k < (revF l k).length := by rw [revF_len]; omega
  have h2 : q < (revF l k).length := by rw [revF_len]; omega
  rw [List.getD_eq_getElem?_getD, List.getD_eq_getElem?_getD (l := revF l k), List.getElem?_eq_getElem h1, List.getElem?_eq_getElem h2, Option.getD_some, Option.getD_some, revF_at, revF_at, if_neg (by omega), if_neg (by omega)]
  exact ⟨rfl, rfl⟩
set_option maxHeartbeats 4000000 in
theorem reverse_any : RevAt := by
  intro v l lo w h hl
  have HL := hide hl
  obtain ⟨al, c, rfl⟩ := ownA_slice h
  have HO := hide h
  have HGR := hide (⟨rfl, rfl, rfl, Nat.le_refl _, fun _ _ _ => rfl⟩ : w.grownBy w (Value.slice al l.length c).ownBlock)
  obtain ⟨n, hn⟩ : ∃ n, n = l.length := ⟨_, rfl⟩
  have HN := hide hn
  rw [← hn] at hl HGR ⊢
  rw [← hn] at HO
  clear h hn
  go_enter Try.func89, Try.ntmps89
  go_wp2
  have HWR : Hid (IntKind.i64.wrap ((n : Int) - 1) = (n : Int) - 1) := hide (IntWalk.i64_in _ (by omega))
  go_loopg [2, 3] n (fun g i j w' => ∃ k : Nat, k + g = n ∧ 2 * k ≤ n + 1 ∧ i = .int .i64 k ∧ j = .int .i64 ((n : Int) - 1 - k) ∧ OwnSws w' lo (.slice al n c) (revF l k) ∧ w.grownBy w' (Value.slice al n c).ownBlock)
  case atStart => exact ⟨0, by omega, by omega, rfl, by go_num, by rw [revF_zero]; exact HO.out, HGR.out⟩
  case round =>
    clear HO HGR
    obtain ⟨k, hkg, hk2, rfl, rfl, ho, hg⟩ := hrel
    have HO := hide ho; have HG := hide hg
    by_cases hlt : 2 * k + 1 < n
    · obtain ⟨g, rfl⟩ : ∃ g, gk = g + 1 := ⟨gk - 1, by omega⟩
      obtain ⟨q, hq⟩ : ∃ q, k + q + 1 = n := ⟨n - 1 - k, by omega⟩
      have hqI : (n : Int) - 1 - k = q := by omega
      have hkq : (k : Int) < q := by omega
      have hkn : k < n := by omega
      have hqn : q < n := by omega
      have hknI : (k : Int) < n := by omega
      have hqnI : (q : Int) < n := by omega
      have hlk : k < (revF l k).length := by rw [revF_len, ← HN.out]; omega
      have hlq : q < (revF l k).length := by rw [revF_len, ← HN.out]; omega
      obtain ⟨gv, c2, e, -⟩ := ownA_some ho (by rw [revF_len, ← HN.out]; omega)
      obtain rfl : al = some ⟨gv, 0, none⟩ := by injection e
      have HRL : Hid ((revF l k).length = n) := hide (by rw [revF_len, ← HN.out])
      clear e
      obtain ⟨r1, r2⟩ := revF_q l (k := k) (q := q) (by rw [← HN.out]; exact hq) (by omega)
      have hsk := sws_cell ho k hlk
      have hsq := sws_cell ho q hlq
      rw [r1] at hsk; rw [r2] at hsq
      obtain ⟨s, hs⟩ : ∃ s, s = l.getD k zeroSw := ⟨_, rfl⟩
      obtain ⟨u, hu⟩ : ∃ u, u = l.getD q zeroSw := ⟨_, rfl⟩
      have HS := hide hs; have HU := hide hu
      rw [← hs] at hsk; rw [← hu] at hsq
      obtain ⟨c0, c1, c2', c3⟩ := hsk
      obtain ⟨d0, d1, d2, d3⟩ := hsq
      have hor : wr.ownsRow lo 32 4 (.slice (some ⟨gv, 0, none⟩) n c) n (cellsS (revF l k)) := by have := ho; unfold OwnSws at this; rw [HRL.out] at this; exact this
      have HOR := hide hor
      have hfr : ∀ i, wr.frozen? ⟨gv, i, none⟩ = false := fun i => hor.frozenAt i
      rw [hqI]
      clear hs hu ho hor hg r1 r2 hlk hlq c2
      go_wp2
      go_region
      obtain ⟨a1, b1⟩ := HOR.out.stored (k * 4) (.int .i64 u.y1)
      obtain ⟨a2, b2⟩ := a1.stored (k * 4 + 1) (.int .i64 u.y2)
      obtain ⟨a3, b3⟩ := a2.stored (k * 4 + 2) (.int .i64 u.x1)
      obtain ⟨a4, b4⟩ := a3.stored (k * 4 + 3) (.int .i64 u.x2)
      obtain ⟨a5, b5⟩ := a4.stored (q * 4) (.int .i64 s.y1)
      obtain ⟨a6, b6⟩ := a5.stored (q * 4 + 1) (.int .i64 s.y2)
      obtain ⟨a7, b7⟩ := a6.stored (q * 4 + 2) (.int .i64 s.x1)
      obtain ⟨a8, b8⟩ := a7.stored (q * 4 + 3) (.int .i64 s.x2)
      have HW : ((((((((wr.setCell ⟨gv, k * 4, none⟩ (.int .i64 u.y1)).setCell ⟨gv, k * 4 + 1, none⟩ (.int .i64 u.y2)).setCell ⟨gv, k * 4 + 2, none⟩ (.int .i64 u.x1)).setCell ⟨gv, k * 4 + 3, none⟩ (.int .i64 u.x2)).setCell ⟨gv, q * 4, none⟩ (.int .i64 s.y1)).setCell ⟨gv, q * 4 + 1, none⟩ (.int .i64 s.y2)).setCell ⟨gv, q * 4 + 2, none⟩ (.int .i64 s.x1)).setCell ⟨gv, q * 4 + 3, none⟩ (.int .i64 s.x2)).drew.ownsRow lo 32 4 (.slice (some ⟨gv, 0, none⟩) n c) n (set4 (set4 (cellsS (revF l k)) (k * 4) u) (q * 4) s) := ownA_below a8 (below_drew (Below.refl _ _))
      have HGW : wr.grownBy ((((((((wr.setCell ⟨gv, k * 4, none⟩ (.int .i64 u.y1)).setCell ⟨gv, k * 4 + 1, none⟩ (.int .i64 u.y2)).setCell ⟨gv, k * 4 + 2, none⟩ (.int .i64 u.x1)).setCell ⟨gv, k * 4 + 3, none⟩ (.int .i64 u.x2)).setCell ⟨gv, q * 4, none⟩ (.int .i64 s.y1)).setCell ⟨gv, q * 4 + 1, none⟩ (.int .i64 s.y2)).setCell ⟨gv, q * 4 + 2, none⟩ (.int .i64 s.x1)).setCell ⟨gv, q * 4 + 3, none⟩ (.int .i64 s.x2)).drew (some gv) := grown_drewR (grown_trans (grown_trans (grown_trans (grown_trans (grown_trans (grown_trans (grown_trans b1 b2) b3) b4) b5) b6) b7) b8)
      clear a1 a2 a3 a4 a5 a6 a7 a8 b1 b2 b3 b4 b5 b6 b7 b8
      generalize ((((((((wr.setCell ⟨gv, k * 4, none⟩ (.int .i64 u.y1)).setCell ⟨gv, k * 4 + 1, none⟩ (.int .i64 u.y2)).setCell ⟨gv, k * 4 + 2, none⟩ (.int .i64 u.x1)).setCell ⟨gv, k * 4 + 3, none⟩ (.int .i64 u.x2)).setCell ⟨gv, q * 4, none⟩ (.int .i64 s.y1)).setCell ⟨gv, q * 4 + 1, none⟩ (.int .i64 s.y2)).setCell ⟨gv, q * 4 + 2, none⟩ (.int .i64 s.x1)).setCell ⟨gv, q * 4 + 3, none⟩ (.int .i64 s.x2)).drew = w9 at HW HGW ⊢
      have E1 : Hid (OwnSws w9 lo (.slice (some ⟨gv, 0, none⟩) n c) (revF l (k + 1))) := hide (by
        unfold OwnSws
        rw [← revF_step (l := l) (k := k) (q := q) (by rw [← HN.out]; exact hq) (by omega), cellsS_set _ _ _ (by rw [List.length_set, revF_len, ← HN.out]; exact hqn), cellsS_set _ _ _ (by rw [revF_len, ← HN.out]; exact hkn), ← HS.out, ← HU.out, List.length_set, List.length_set, revF_len, ← HN.out]
        exact HW)
      have E2 := hide (grown_trans HG.out HGW)
      clear HW HGW
      go_wp2
      go_roundg g
      case measure => exact Nat.lt_succ_self g
      case rel => exact ⟨k + 1, by omega, by omega, by go_num, by go_num, E1.out, E2.out⟩
    · have hle : ¬ ((k : Int) < (n : Int) - 1 - k) := by omega
      have HE := hide (revF_end (l := l) (k := k) (by rw [← HN.out]; omega))
      clear ho hg
      go_wp2
      go_end0
      exact ⟨rfl, by rw [← HE.out]; exact HO.out, HG.out⟩
end Go.Proofs.Ytpfaaglaeholbaa
/-
  ColSums of both.
-/
namespace Go.Proofs.Ytpfaaglaeholbaa
open Go.RowKit

theorem implColSums_no (v : Value) (m : List (List Int)) (w : World) (hin : InMat w v m) (h : okB m = false) :
    Calls Try.prog 82 #[v] w (IntsRes [] w) := by
  have HI := hide hin; have H := hide h
  clear hin h
  go_enter Try.func82, Try.ntmps82
  go_wp2_with fail
  refine (implTransposeOf_no v m _ HI.out H.out).mono ?_
  rintro e w1 ⟨u, rfl, ho, hb⟩
  have HM := hide (inMat_own ho); have HB := hide hb
  clear ho hb
  go_wp2_with fail
  refine (implRowSums_no u [] _ HM.out (by decide)).mono ?_
  rintro e w2 ⟨u2, rfl, ho, hb⟩
  have HO := hide (own_base ho HB.out.size); have HB2 := hide (HB.out.trans (hb.mono HB.out.size))
  clear ho hb
  go_wp2
  go_ret
  exact ⟨_, rfl, HO.out, HB2.out⟩
theorem implColSums_yes (v : Value) (R C : Nat) (f : Nat → Nat → Int) (w : World) (hin : InMat w v (mkM R C f)) (hI : Img R C f) :
    Calls Try.prog 82 #[v] w (IntsRes (rowsL C R (trM f)) w) := by
  have HI := hide hin; have H := hide hI
  clear hin hI
  go_enter Try.func82, Try.ntmps82
  go_wp2_with fail
  refine (implTransposeOf_yes v R C f _ HI.out H.out).mono ?_
  rintro e w1 ⟨u, rfl, ho, hb⟩
  have HM := hide (inMat_own ho); have HB := hide hb
  clear ho hb
  go_wp2_with fail
  refine (implRowSums_yes u C R (trM f) _ HM.out (img_tr H.out)).mono ?_
  rintro e w2 ⟨u2, rfl, ho, hb⟩
  have HO := hide (own_base ho HB.out.size); have HB2 := hide (HB.out.trans (hb.mono HB.out.size))
  clear ho hb
  go_wp2
  go_ret
  exact ⟨_, rfl, HO.out, HB2.out⟩

theorem specColSums_no (v : Value) (m : List (List Int)) (w : World) (hin : InMat w v m) (h : okB m = false) :
    Calls Try.prog 99 #[v] w (IntsRes [] w) := by
  have HI := hide hin; have H := hide h
  clear hin h
  go_enter Try.func99, Try.ntmps99
  go_wp2_with fail
  refine (specTransposeOf_no v m _ HI.out H.out).mono ?_
  rintro e w1 ⟨u, rfl, ho, hb⟩
  have HM := hide (inMat_own ho); have HB := hide hb
  clear ho hb
  go_wp2_with fail
  refine (specRowSums_no u [] _ HM.out (by decide)).mono ?_
  rintro e w2 ⟨u2, rfl, ho, hb⟩
  have HO := hide (own_base ho HB.out.size); have HB2 := hide (HB.out.trans (hb.mono HB.out.size))
  clear ho hb
  go_wp2
  go_ret
  exact ⟨_, rfl, HO.out, HB2.out⟩
theorem specColSums_yes (v : Value) (R C : Nat) (f : Nat → Nat → Int) (w : World) (hin : InMat w v (mkM R C f)) (hI : Img R C f) :
    Calls Try.prog 99 #[v] w (IntsRes (rowsL C R (trM f)) w) := by
  have HI := hide hin; have H := hide hI
  clear hin hI
  go_enter Try.func99, Try.ntmps99
  go_wp2_with fail
  refine (specTransposeOf_yes v R C f _ HI.out H.out).mono ?_
  rintro e w1 ⟨u, rfl, ho, hb⟩
  have HM := hide (inMat_own ho); have HB := hide hb
  clear ho hb
  go_wp2_with fail
  refine (specRowSums_yes u C R (trM f) _ HM.out (img_tr H.out)).mono ?_
  rintro e w2 ⟨u2, rfl, ho, hb⟩
  have HO := hide (own_base ho HB.out.size); have HB2 := hide (HB.out.trans (hb.mono HB.out.size))
  clear ho hb
  go_wp2
  go_ret
  exact ⟨_, rfl, HO.out, HB2.out⟩
end Go.Proofs.Ytpfaaglaeholbaa
/-
  Lists of integers held against one another: slices.Equal.
-/
namespace Go.Proofs.Ytpfaaglaeholbaa
open Go.RowKit

theorem sameRow_no {r s : List Int} (h : r.length ≠ s.length) : (r == s) = false := by
  rw [beq_eq_false_iff_ne]; intro e; exact h (by rw [e])
theorem sameRow_no2 {r s : List Int} (k : Nat) (hr : k < r.length) (hs : k < s.length) (h : r[k] ≠ s[k]) : (r == s) = false := by
  rw [beq_eq_false_iff_ne]; intro e; subst e; exact h rfl
theorem sameRow_yes {r s : List Int} (h : r.length = s.length) (h2 : ∀ k, (hr : k < r.length) → (hs : k < s.length) → r[k] = s[k]) : (r == s) = true := by
  rw [beq_iff_eq]; exact List.ext_getElem h h2
theorem sameMat_no {r s : List (List Int)} (h : r.length ≠ s.length) : (r == s) = false := by
  rw [beq_eq_false_iff_ne]; intro e; exact h (by rw [e])
theorem sameMat_no2 {r s : List (List Int)} (k : Nat) (hr : k < r.length) (hs : k < s.length) (h : (r[k] == s[k]) = false) : (r == s) = false := by
  rw [beq_eq_false_iff_ne] at h ⊢; intro e; subst e; exact h rfl
theorem sameMat_yes {r s : List (List Int)} (h : r.length = s.length) (h2 : ∀ k, (hr : k < r.length) → (hs : k < s.length) → (r[k] == s[k]) = true) : (r == s) = true := by
  rw [beq_iff_eq]; exact List.ext_getElem h fun k h1 h2' => by simpa using h2 k h1 h2'

set_option maxHeartbeats 1000000 in
theorem l02Same_any (va vb : Value) (r s : List Int) (w : World) (ha : InRow w va r) (hb : InRow w vb s) :
    Calls Try.prog 97 #[va, vb] w fun e w' => e = .returned (.bool (r == s)) ∧ w = w' := by
  obtain ⟨a, ca, rfl, hma, hpa⟩ := ha
  obtain ⟨b, cb, rfl, hmb, hpb⟩ := hb
  unfold maxLen at hma hmb
  by_cases hlen : r.length = s.length
  · by_cases h0 : r.length = 0
    · have hr : r = [] := List.eq_nil_of_length_eq_zero h0
      have hs : s = [] := List.eq_nil_of_length_eq_zero (by omega)
      subst hr; subst hs
      clear hpa hpb hma hmb hlen h0
      go_enter Try.func97, Try.ntmps97
      go_wp2
      go_loop [14] (fun i => i = .int .i64 0) (fun _ => 0)
      case atStart => rfl
      case round =>
        obtain rfl := hrel
        go_wp2
        go_ret
        exact ⟨rfl, rfl⟩
    · obtain ⟨ga, oa, rfl, -, hca⟩ := hpa.resolve_left h0
      obtain ⟨gb, ob, rfl, -, hcb⟩ := hpb.resolve_left (by omega)
      have HA := hide hca; have HB := hide hcb; have HL := hide hlen
      obtain ⟨n, hn⟩ : ∃ n, n = r.length := ⟨_, rfl⟩
      have HN := hide hn
      have HM : Hid (s.length = n) := hide (by omega)
      rw [← hlen, ← hn]
      rw [← hn] at hma
      clear hpa hpb hca hcb h0 hmb hlen hn
      go_enter Try.func97, Try.ntmps97
      go_wp2
      go_loop [14] (fun i => ∃ k : Nat, k ≤ n ∧ i = .int .i64 k ∧ ∀ t, (h1 : t < r.length) → (h2 : t < s.length) → t < k → r[t] = s[t]) (fun i => n - (intOf i).toNat)
      case atStart => exact ⟨0, Nat.zero_le _, rfl, fun t _ _ h => absurd h (Nat.not_lt_zero _)⟩
      case round =>
        obtain ⟨k, hk, rfl, hall⟩ := hrel
        have HH := hide hall
        clear hall
        by_cases hlt : k < n
        · have hkr : k < r.length := by rw [← HN.out]; exact hlt
          have hks : k < s.length := by rw [HM.out]; exact hlt
          have hxa := HA.out k hkr
          have hxb := HB.out k hks
          have HNO := hide (fun h => sameRow_no2 k hkr hks h)
          have HST : Hid (r[k] = s[k] → ∀ t, (h1 : t < r.length) → (h2 : t < s.length) → t < k + 1 → r[t] = s[t]) := hide fun h t h1 h2 ht => by
            by_cases e : t = k
            · subst e; exact h
            · exact HH.out t h1 h2 (by omega)
          obtain ⟨x, hx⟩ : ∃ x, x = r[k] := ⟨_, rfl⟩
          obtain ⟨y, hy⟩ : ∃ y, y = s[k] := ⟨_, rfl⟩
          rw [← hx, ← hy] at HNO HST
          rw [← hx] at hxa
          rw [← hy] at hxb
          clear hx hy
          by_cases e : x = y
          · subst e
            have HST := hide (HST.out rfl)
            go_wp2
            go_round
            case rel => exact ⟨k + 1, by omega, by go_num, HST.out⟩
            case measure => simp [intOf]; omega
          · have HF := hide (HNO.out e)
            have hne : (x == y) = false := by simpa using e
            have hne2 : (x != y) = true := by simpa using e
            clear e
            go_wp2
            go_ret
            exact ⟨ret_bool HF.out.symm, rfl⟩
        · have HY := hide (sameRow_yes HL.out fun t h1 h2 => HH.out t h1 h2 (by have := HN.out; omega))
          go_wp2
          go_ret
          exact ⟨ret_bool HY.out.symm, rfl⟩
  · have HF := hide (sameRow_no hlen)
    obtain ⟨n, hn⟩ : ∃ n, n = r.length := ⟨_, rfl⟩
    obtain ⟨k, hk⟩ : ∃ k, k = s.length := ⟨_, rfl⟩
    rw [← hn, ← hk] at hlen ⊢
    rw [← hn] at hma
    rw [← hk] at hmb
    have hne : ((n : Int) == (k : Int)) = false := by simp; omega
    have hne2 : ((n : Int) != (k : Int)) = true := by simp; omega
    clear hpa hpb hn hk hlen
    go_enter Try.func97, Try.ntmps97
    go_wp2
    go_ret
    exact ⟨ret_bool HF.out.symm, rfl⟩

end Go.Proofs.Ytpfaaglaeholbaa
/-
  SameImage, of the model and of the program, and the exact law, walked.
-/
namespace Go.Proofs.Ytpfaaglaeholbaa
open Go.RowKit

set_option maxHeartbeats 1000000 in
theorem specSameImage_any (va vb : Value) (m l : List (List Int)) (w : World) (ha : InMat w va m) (hb : InMat w vb l) :
    Calls Try.prog 100 #[va, vb] w fun e w' => e = .returned (.bool (m == l)) ∧ Below w.heap.size w w' := by
  obtain ⟨a, ca, rfl, hma, hpa⟩ := ha
  obtain ⟨b, cb, rfl, hmb, hpb⟩ := hb
  unfold maxLen at hma hmb
  by_cases hlen : m.length = l.length
  · by_cases h0 : m.length = 0
    · have hr : m = [] := List.eq_nil_of_length_eq_zero h0
      have hs : l = [] := List.eq_nil_of_length_eq_zero (by omega)
      subst hr; subst hs
      clear hpa hpb hma hmb hlen h0
      go_enter Try.func100, Try.ntmps100
      go_wp2
      go_loop [14] (fun i => i = .int .i64 0) (fun _ => 0)
      case atStart => rfl
      case round =>
        obtain rfl := hrel
        go_wp2
        go_ret
        exact ⟨rfl, Below.refl _ _⟩
    · obtain ⟨ga, oa, rfl, hga, hca⟩ := hpa.resolve_left h0
      obtain ⟨gb, ob, rfl, hgb, hcb⟩ := hpb.resolve_left (by omega)
      have HA := hide hca; have HB := hide hcb; have HL := hide hlen
      obtain ⟨n, hn⟩ : ∃ n, n = m.length := ⟨_, rfl⟩
      have HN := hide hn
      have HM : Hid (l.length = n) := hide (by omega)
      rw [← hlen, ← hn]
      rw [← hn] at hma
      clear hpa hpb hca hcb h0 hmb hlen hn
      go_enter Try.func100, Try.ntmps100
      go_wp2
      go_loopw [14] (fun i w' => ∃ k : Nat, k ≤ n ∧ i = .int .i64 k ∧ (∀ t, (h1 : t < m.length) → (h2 : t < l.length) → t < k → (m[t] == l[t]) = true) ∧ Below w.heap.size w w') (fun i _ => n - (intOf i).toNat)
      case atStart => exact ⟨0, Nat.zero_le _, rfl, fun t _ _ h => absurd h (Nat.not_lt_zero _), Below.refl _ _⟩
      case round =>
        obtain ⟨k, hk, rfl, hall, hbb⟩ := hrel
        have HH := hide hall; have HBB := hide hbb
        clear hall hbb
        by_cases hlt : k < n
        · have hkr : k < m.length := by rw [← HN.out]; exact hlt
          have hks : k < l.length := by rw [HM.out]; exact hlt
          obtain ⟨ua, hxa, hra⟩ := HA.out k hkr
          obtain ⟨ub, hxb, hrb⟩ := HB.out k hks
          have hxa := below_cell HBB.out hga hxa
          have hxb := below_cell HBB.out hgb hxb
          have HRA := hide (inRow_below hra HBB.out)
          have HRB := hide (inRow_below hrb HBB.out)
          have HNO := hide (fun h => sameMat_no2 k hkr hks h)
          have HST : Hid ((m[k] == l[k]) = true → ∀ t, (h1 : t < m.length) → (h2 : t < l.length) → t < k + 1 → (m[t] == l[t]) = true) := hide fun h t h1 h2 ht => by
            by_cases e : t = k
            · subst e; exact h
            · exact HH.out t h1 h2 (by omega)
          clear hra hrb
          cases e : (m[k] == l[k]) with
          | true =>
            have HE := hide e
            have HST := hide (HST.out e)
            clear e
            go_wp2_with (go_at_call 97; refine (l02Same_any _ _ _ _ _ HRA.out HRB.out).mono ?_; rw [HE.out]; rintro e w9 ⟨rfl, rfl⟩)
            go_roundw
            case rel => exact ⟨k + 1, by omega, by go_num, HST.out, HBB.out⟩
            case measure => simp [intOf]; omega
          | false =>
            have HE := hide e
            have HF := hide (HNO.out e)
            clear e
            go_wp2_with (go_at_call 97; refine (l02Same_any _ _ _ _ _ HRA.out HRB.out).mono ?_; rw [HE.out]; rintro e w9 ⟨rfl, rfl⟩)
            go_ret
            exact ⟨ret_bool HF.out.symm, HBB.out⟩
        · have HY := hide (sameMat_yes HL.out fun t h1 h2 => HH.out t h1 h2 (by have := HN.out; omega))
          go_wp2
          go_ret
          exact ⟨ret_bool HY.out.symm, HBB.out⟩
  · have HF := hide (sameMat_no hlen)
    obtain ⟨n, hn⟩ : ∃ n, n = m.length := ⟨_, rfl⟩
    obtain ⟨k, hk⟩ : ∃ k, k = l.length := ⟨_, rfl⟩
    rw [← hn, ← hk] at hlen ⊢
    rw [← hn] at hma
    rw [← hk] at hmb
    have hne : ((n : Int) == (k : Int)) = false := by simp; omega
    have hne2 : ((n : Int) != (k : Int)) = true := by simp; omega
    clear hpa hpb hn hk hlen
    go_enter Try.func100, Try.ntmps100
    go_wp2
    go_ret
    exact ⟨ret_bool HF.out.symm, Below.refl _ _⟩

end Go.Proofs.Ytpfaaglaeholbaa
/-
  PutCell and DistanceOf of the program.
-/
namespace Go.Proofs.Ytpfaaglaeholbaa
open Go.RowKit

/-- The whole variable is read, behind a guard that says yes. -/
theorem wpList_loadVecG {P : Program} {ops : Array Oper} {rest : List Oper} {o : Oper} {a : Act} {Q : Exit → Act → World → Prop} {W : World} {g n m : Nat} {T T' e : TypeId} {F : Nat → Int} (hb : Blk W g T n F) (d : Tmp) (_hd : o.dst = some d)
    (hw : Region.wanted o (yielded ops a.tmps) = true) (x : Operand) (ho : o.op = .load T' x) (hx : a.eval x = .pointer (some ⟨g, 0, none⟩)) (hu : P.underlying T' = some (.array m e)) (hi : (P.info? T').map (·.size) = some n)
    (h : wpList P ops Q rest (a.put o.dst (.agg (vec n F))) W) : wpList P ops Q (o :: rest) a W :=
  BigFrame.wpList_want hw fun K hK => wp_load_row T' x ho g hx T (vec n F) (0, 0) _ hb hu rfl (by rw [hi, vec_size]) (hK _ _ h)

/-- The image with another cell. -/
def putM (f : Nat → Nat → Int) (a b : Nat) (c : Int) (y x : Nat) : Int := if y = a ∧ x = b then c else f y x
theorem img_put {R C : Nat} {f : Nat → Nat → Int} (h : Img R C f) (a b : Nat) {c : Int} (hc : c = 0 ∨ c = 1) : Img R C (putM f a b c) := ⟨h.r1, h.r2, h.c1, h.c2, fun y x hy hx => by
  unfold putM; split
  · exact hc
  · exact h.cell y x hy hx⟩
theorem imgF_put (R C : Nat) (f : Nat → Nat → Int) (a b : Nat) (c : Int) (ha : a < R) (hb : b < C) (hC : C ≤ 5) : ∀ i, i < 25 → (if i = 5 * a + b then c else imgF R C f i) = imgF R C (putM f a b c) i := fun i hi => by
  simp only [imgF, putM]
  by_cases e : i = 5 * a + b
  · subst e
    rw [if_pos rfl, if_pos (by omega), if_pos (by omega)]
  · rw [if_neg e]
    by_cases h : i / 5 < R ∧ i % 5 < C
    · rw [if_pos h, if_pos h, if_neg (by omega)]
    · rw [if_neg h, if_neg h]

end Go.Proofs.Ytpfaaglaeholbaa
/-
  DistanceOf of the program.
-/
namespace Go.Proofs.Ytpfaaglaeholbaa
open Go.RowKit

theorem imageOf_any (v : Value) (m : List (List Int)) (w : World) (hin : InMat w v m) :
    Calls Try.prog 49 #[v] w fun e w' => (∃ F, e = .returned (.tuple #[.agg (vec 25 F), .bool (okB m)])) ∧ Below w.heap.size w w' := by
  cases h : okB m with
  | false =>
    refine (imageOf_no v m w hin h).mono ?_
    rintro e w' ⟨rfl, hb⟩
    exact ⟨⟨_, rfl⟩, hb⟩
  | true =>
    obtain ⟨R, C, f, rfl, hI⟩ := ok_img h
    refine (imageOf_yes v R C f w hin hI).mono ?_
    rintro e w' ⟨rfl, hb⟩
    exact ⟨⟨_, rfl⟩, hb⟩
theorem imgF_none {R C : Nat} {f : Nat → Nat → Int} (h : Img R C f) (i : Nat) : imgF R C f i = -1 ↔ ¬ (i / 5 < R ∧ i % 5 < C) := by
  unfold imgF
  by_cases hi : i / 5 < R ∧ i % 5 < C
  · rw [if_pos hi]
    constructor
    · intro e; rcases h.cell _ _ hi.1 hi.2 with e' | e' <;> rw [e'] at e <;> cases e
    · intro e; exact absurd hi e
  · rw [if_neg hi]; exact ⟨fun _ => hi, fun _ => rfl⟩
theorem same_sizes {R C R' C' : Nat} {f g : Nat → Nat → Int} (h : Img R C f) (h' : Img R' C' g) : decide (R = R' ∧ C = C') = true ↔ ∀ i, i < 25 → (imgF R C f i = -1 ↔ imgF R' C' g i = -1) := by
  have a1 := h.r1; have a2 := h.r2; have a3 := h.c1; have a4 := h.c2
  have b1 := h'.r1; have b2 := h'.r2; have b3 := h'.c1; have b4 := h'.c2
  rw [decide_eq_true_eq]
  constructor
  · rintro ⟨rfl, rfl⟩ i hi
    rw [imgF_none h, imgF_none h']
  · intro hall
    have hq : ∀ y x, y < 5 → x < 5 → ((y < R ∧ x < C) ↔ (y < R' ∧ x < C')) := fun y x hy hx => by
      have := hall (5 * y + x) (by omega)
      rw [imgF_none h, imgF_none h', show (5 * y + x) / 5 = y by omega, show (5 * y + x) % 5 = x by omega] at this
      exact ⟨fun h1 => Decidable.byContradiction fun n => (this.2 n) h1, fun h1 => Decidable.byContradiction fun n => (this.1 n) h1⟩
    constructor
    · by_cases l : R < R'
      · have := (hq R 0 (by omega) (by omega)).2 ⟨l, by omega⟩; omega
      · by_cases l2 : R' < R
        · have := (hq R' 0 (by omega) (by omega)).1 ⟨l2, by omega⟩; omega
        · omega
    · by_cases l : C < C'
      · have := (hq 0 C (by omega) (by omega)).2 ⟨by omega, l⟩; omega
      · by_cases l2 : C' < C
        · have := (hq 0 C' (by omega) (by omega)).1 ⟨by omega, l2⟩; omega
        · omega
theorem distance_img (R C R' C' : Nat) (f g : Nat → Nat → Int) (w : World) (h : Img R C f) (h' : Img R' C' g) (b : Bool) (hb : decide (R = R' ∧ C = C') = b) :
    Calls Try.prog 57 #[.agg (vec 25 (imgF R C f)), .agg (vec 25 (imgF R' C' g))] w (DistRes b (cnt (fun i => imgF R C f i != imgF R' C' g i) 25) w) := by
  subst hb; exact distance_any _ _ _ _ (same_sizes h h')

set_option maxHeartbeats 1000000 in
theorem implDistanceOf_no (v u : Value) (m k : List (List Int)) (w : World) (hin : InMat w v m) (hin2 : InMat w u k) (h : (okB m && okB k) = false) :
    Calls Try.prog 13 #[v, u] w fun e w' => e = .returned (.int .i64 (-1)) ∧ Below w.heap.size w w' := by
  have HI := hide hin; have HI2 := hide hin2
  clear hin hin2
  obtain ⟨p, hp⟩ : ∃ p, p = okB m := ⟨_, rfl⟩
  obtain ⟨q, hq⟩ : ∃ q, q = okB k := ⟨_, rfl⟩
  rw [← hp, ← hq] at h
  have HP := hide hp.symm; have HQ := hide hq.symm
  clear hp hq
  go_enter Try.func13, Try.ntmps13
  go_wp2_with fail
  refine (imageOf_any v m _ HI.out).mono ?_
  rw [HP.out]
  rintro e w1 ⟨⟨F, rfl⟩, b1⟩
  have B1 := hide b1
  clear b1
  go_wp2_with (first | (with_reducible refine wpList_allocVec 25 5 rfl rfl rfl Try.zeroImg ?_; intro waa haa baa saa) | (with_reducible refine wpList_storeVec haa rfl (.tmp 5) (.tmp 14) rfl rfl rfl Try.sizeImg ?_; intro wba hba gba sba) | (with_reducible refine wpList_loadVec hba 99 rfl rfl _ rfl rfl Try.underlying65 Try.sizeImg ?_))
  have B2 := hide (B1.out.trans ((baa.mono B1.out.size).trans (grown_below gba (fun k hk => by cases hk; exact B1.out.size) (by have := B1.out.size; omega))))
  clear haa baa saa hba gba sba
  refine (imageOf_any u k _ (inMat_below HI2.out B2.out)).mono ?_
  rw [HQ.out]
  rintro e w3 ⟨⟨G, rfl⟩, b3⟩
  have B3 := hide (B2.out.trans (b3.mono B2.out.size))
  clear b3
  cases p with
  | false =>
    go_wp2_with (first | (with_reducible refine wpList_allocVec 25 7 rfl rfl rfl Try.zeroImg ?_; intro wab hab bab sab) | (with_reducible refine wpList_storeVec hab rfl (.tmp 7) (.tmp 19) rfl rfl rfl Try.sizeImg ?_; intro wbb hbb gbb sbb) | (with_reducible refine wpList_loadVec hbb 29 rfl rfl _ rfl rfl Try.underlying65 Try.sizeImg ?_))
    go_ret
    exact ⟨rfl, B3.out.trans ((bab.mono B3.out.size).trans (grown_below gbb (fun k hk => by cases hk; exact B3.out.size) (by have := B3.out.size; omega)))⟩
  | true =>
    obtain rfl : q = false := by simpa using h
    go_wp2_with (first | (with_reducible refine wpList_allocVec 25 7 rfl rfl rfl Try.zeroImg ?_; intro wab hab bab sab) | (with_reducible refine wpList_storeVec hab rfl (.tmp 7) (.tmp 19) rfl rfl rfl Try.sizeImg ?_; intro wbb hbb gbb sbb) | (with_reducible refine wpList_loadVec hbb 29 rfl rfl _ rfl rfl Try.underlying65 Try.sizeImg ?_))
    go_ret
    exact ⟨rfl, B3.out.trans ((bab.mono B3.out.size).trans (grown_below gbb (fun k hk => by cases hk; exact B3.out.size) (by have := B3.out.size; omega)))⟩

set_option maxHeartbeats 1000000 in
theorem implDistanceOf_yes (v u : Value) (R C R' C' : Nat) (f g : Nat → Nat → Int) (w : World) (hin : InMat w v (mkM R C f)) (hin2 : InMat w u (mkM R' C' g)) (h : Img R C f) (h' : Img R' C' g) :
    Calls Try.prog 13 #[v, u] w fun e w' => e = .returned (.int .i64 (if R = R' ∧ C = C' then (cnt (fun i => imgF R C f i != imgF R' C' g i) 25 : Nat) else -1)) ∧ Below w.heap.size w w' := by
  have HI := hide hin; have HI2 := hide hin2; have H := hide h; have H' := hide h'
  clear hin hin2 h h'
  obtain ⟨b, hb⟩ : ∃ b : Bool, decide (R = R' ∧ C = C') = b := ⟨_, rfl⟩
  have HB := hide hb
  have HE : Hid ((if R = R' ∧ C = C' then ((cnt (fun i => imgF R C f i != imgF R' C' g i) 25 : Nat) : Int) else -1) = if b then ((cnt (fun i => imgF R C f i != imgF R' C' g i) 25 : Nat) : Int) else -1) := hide (by
    subst hb
    by_cases e : R = R' ∧ C = C'
    · rw [if_pos e, decide_eq_true e]; rfl
    · rw [if_neg e, decide_eq_false e]; rfl)
  rw [HE.out]
  clear hb HE
  obtain ⟨n, hn⟩ : ∃ n, n = cnt (fun i => imgF R C f i != imgF R' C' g i) 25 := ⟨_, rfl⟩
  have HN := hide hn.symm
  rw [← hn]
  clear hn
  go_enter Try.func13, Try.ntmps13
  go_wp2_with fail
  refine (imageOf_yes v R C f _ HI.out H.out).mono ?_
  rintro e w1 ⟨rfl, b1⟩
  have B1 := hide b1
  clear b1
  go_wp2_with (first | (with_reducible refine wpList_allocVec 25 5 rfl rfl rfl Try.zeroImg ?_; intro waa haa baa saa) | (with_reducible refine wpList_storeVec haa rfl (.tmp 5) (.tmp 14) rfl rfl rfl Try.sizeImg ?_; intro wba hba gba sba) | (with_reducible refine wpList_loadVec hba 99 rfl rfl _ rfl rfl Try.underlying65 Try.sizeImg ?_))
  have B2 := hide (B1.out.trans ((baa.mono B1.out.size).trans (grown_below gba (fun k hk => by cases hk; exact B1.out.size) (by have := B1.out.size; omega))))
  have HA := hide hba
  clear haa baa saa hba gba sba
  refine (imageOf_yes u R' C' g _ (inMat_below HI2.out B2.out) H'.out).mono ?_
  rintro e w3 ⟨rfl, b3⟩
  have B3 := hide (B2.out.trans (b3.mono B2.out.size))
  have HA := hide (blk_below HA.out b3)
  clear b3
  go_wp2_with (first | (with_reducible refine wpList_allocVec 25 7 rfl rfl rfl Try.zeroImg ?_; intro wab hab bab sab) | (with_reducible refine wpList_storeVec hab rfl (.tmp 7) (.tmp 19) rfl rfl rfl Try.sizeImg ?_; intro wbb hbb gbb sbb) | (with_reducible refine wpList_loadVec hbb 29 rfl rfl _ rfl rfl Try.underlying65 Try.sizeImg ?_) | (with_reducible refine wpList_loadVec (blk_grown (blk_below HA.out bab) gbb (by have := blk_lt HA.out; simp; omega)) 28 rfl rfl _ rfl rfl Try.underlying65 Try.sizeImg ?_))
  have B4 := hide (B3.out.trans ((bab.mono B3.out.size).trans (grown_below gbb (fun k hk => by cases hk; exact B3.out.size) (by have := B3.out.size; omega))))
  clear hab bab sab hbb gbb sbb HA
  refine (distance_img R C R' C' f g _ H.out H'.out b HB.out).mono ?_
  rw [HN.out]
  rintro e w5 ⟨rfl, b5⟩
  have B5 := hide (B4.out.trans (b5.mono B4.out.size))
  clear b5
  cases b with
  | false =>
    go_wp2
    go_ret
    exact ⟨rfl, B5.out⟩
  | true =>
    go_wp2
    go_ret
    exact ⟨rfl, B5.out⟩
end Go.Proofs.Ytpfaaglaeholbaa
/-
  DistanceOf of the model.
-/
namespace Go.Proofs.Ytpfaaglaeholbaa
open Go.RowKit

theorem ok_quiet (v : Value) (m : List (List Int)) (w : World) (n : Nat) (b : Bool) (hin : InMat w v m) (hb : okB m = b) :
    Calls Try.prog 85 #[v] (w.drewN n) fun e w'' => e = .returned (.bool b) ∧ ∃ k, w'' = w.drewN k := by
  refine Calls.quiet_of_same ((specImageOk_any v m (w.drewN n) hin).mono ?_)
  rintro e w' ⟨rfl, rfl⟩
  exact ⟨by rw [hb], rfl⟩

set_option maxHeartbeats 1000000 in
theorem specDistanceOf_no (v u : Value) (m l : List (List Int)) (w : World) (hin : InMat w v m) (hin2 : InMat w u l) (h : (okB m && okB l) = false) :
    Calls Try.prog 96 #[v, u] w fun e w' => e = .returned (.int .i64 (-1)) ∧ Below w.heap.size w w' := by
  have HI := hide hin; have HJ := hide hin2
  clear hin hin2
  cases h1 : okB m with
  | false =>
    have H1 := hide h1
    clear h h1
    go_enter Try.func96, Try.ntmps96
    go_wp2
    go_quiet ((go_at_call 85; exact ok_quiet _ m _ _ false HI.out H1.out))
    go_wp2
    go_ret
    exact ⟨rfl, below_draws (Below.refl _ _) _⟩
  | true =>
    have h2 : okB l = false := by rw [h1] at h; simpa using h
    have H1 := hide h1; have H2 := hide h2
    clear h h1 h2
    go_enter Try.func96, Try.ntmps96
    go_wp2
    go_quiet ((go_at_call 85; (first | with_reducible exact ok_quiet v m _ _ true HI.out H1.out | with_reducible exact ok_quiet u l _ _ false HJ.out H2.out)))
    go_wp2
    go_ret
    exact ⟨rfl, below_draws (Below.refl _ _) _⟩

set_option maxHeartbeats 1000000 in
theorem specDistanceOf_rows (v u : Value) (R C R' C' : Nat) (f g : Nat → Nat → Int) (w : World) (hin : InMat w v (mkM R C f)) (hin2 : InMat w u (mkM R' C' g)) (hI : Img R C f) (hI' : Img R' C' g) (hne : R ≠ R') :
    Calls Try.prog 96 #[v, u] w fun e w' => e = .returned (.int .i64 (-1)) ∧ Below w.heap.size w w' := by
  have HI := hide hin; have HJ := hide hin2; have H1 := hide (img_ok hI); have H2 := hide (img_ok hI')
  have hR1 := hI.r1; have hC1 := hI.c1; have hR := hI.r2; have hC := hI.c2
  have hR1' := hI'.r1; have hC1' := hI'.c1; have hR' := hI'.r2; have hC' := hI'.c2
  obtain ⟨ga, oa, ca, rfl, hga, -⟩ := inMat_img hin (by omega) (by omega)
  obtain ⟨gb, ob, cb, rfl, hgb, -⟩ := inMat_img hin2 (by omega) (by omega)
  have q1 : ((R : Int) == (R' : Int)) = false := by simp; omega
  have q2 : ((R : Int) != (R' : Int)) = true := by simp; omega
  clear hin hin2 hI hI' hne
  go_enter Try.func96, Try.ntmps96
  go_wp2
  go_quiet ((go_at_call 85; (first | with_reducible exact ok_quiet (.slice (some ⟨ga, oa, none⟩) R ca) _ _ _ true HI.out H1.out | with_reducible exact ok_quiet (.slice (some ⟨gb, ob, none⟩) R' cb) _ _ _ true HJ.out H2.out)))
  go_wp2
  go_ret
  exact ⟨rfl, below_draws (Below.refl _ _) _⟩
set_option maxHeartbeats 1000000 in
theorem specDistanceOf_cols (v u : Value) (R C C' : Nat) (f g : Nat → Nat → Int) (w : World) (hin : InMat w v (mkM R C f)) (hin2 : InMat w u (mkM R C' g)) (hI : Img R C f) (hI' : Img R C' g) (hne : C ≠ C') :
    Calls Try.prog 96 #[v, u] w fun e w' => e = .returned (.int .i64 (-1)) ∧ Below w.heap.size w w' := by
  have HI := hide hin; have HJ := hide hin2; have H1 := hide (img_ok hI); have H2 := hide (img_ok hI')
  have hR1 := hI.r1; have hC1 := hI.c1; have hR := hI.r2; have hC := hI.c2
  have hC1' := hI'.c1; have hC' := hI'.c2
  obtain ⟨ga, oa, ca, rfl, hga, hca⟩ := inMat_img hin (by omega) (by omega)
  obtain ⟨gb, ob, cb, rfl, hgb, hcb⟩ := inMat_img hin2 (by omega) (by omega)
  obtain ⟨g0, o0, c0, hx0, -⟩ := hca 0 (by omega)
  obtain ⟨g1, o1, c1, hx1, -⟩ := hcb 0 (by omega)
  rw [Nat.add_zero] at hx0 hx1
  have q1 : ((C : Int) == (C' : Int)) = false := by simp; omega
  have q2 : ((C : Int) != (C' : Int)) = true := by simp; omega
  clear hin hin2 hI hI' hne hca hcb
  go_enter Try.func96, Try.ntmps96
  go_wp2
  go_quiet ((go_at_call 85; (first | with_reducible exact ok_quiet (.slice (some ⟨ga, oa, none⟩) R ca) _ _ _ true HI.out H1.out | with_reducible exact ok_quiet (.slice (some ⟨gb, ob, none⟩) R cb) _ _ _ true HJ.out H2.out)))
  go_wp2
  go_ret
  exact ⟨rfl, below_draws (Below.refl _ _) _⟩
set_option maxRecDepth 100000 in
set_option maxHeartbeats 1000000 in
theorem specDistanceOf_same (v u : Value) (R C : Nat) (f g : Nat → Nat → Int) (w : World) (hin : InMat w v (mkM R C f)) (hin2 : InMat w u (mkM R C g)) (hI : Img R C f) (hI' : Img R C g) :
    Calls Try.prog 96 #[v, u] w fun e w' => e = .returned (.int .i64 (cnt (fun i => imgF R C f i != imgF R C g i) 25 : Nat)) ∧ Below w.heap.size w w' := by
  have HI := hide hin; have HJ := hide hin2; have H1 := hide (img_ok hI); have H2 := hide (img_ok hI')
  have hR1 := hI.r1; have hC1 := hI.c1; have hR := hI.r2; have hC := hI.c2
  obtain ⟨ga, oa, ca, rfl, hga, hca⟩ := inMat_img hin (by omega) (by omega)
  obtain ⟨gb, ob, cb, rfl, hgb, hcb⟩ := inMat_img hin2 (by omega) (by omega)
  obtain ⟨g0, o0, c0, hx0, -⟩ := hca 0 (by omega)
  obtain ⟨g1, o1, c1, hx1, -⟩ := hcb 0 (by omega)
  rw [Nat.add_zero] at hx0 hx1
  have HA := hide hca; have HB := hide hcb
  obtain ⟨p, hp⟩ : ∃ p : Nat → Bool, p = fun i => imgF R C f i != imgF R C g i := ⟨_, rfl⟩
  have HP : Hid (∀ i, p i = (imgF R C f i != imgF R C g i)) := hide fun i => by rw [hp]
  have HN : Hid (∀ i, imgF R C f i = -1 → p i = false) := hide fun i e => by
    have e2 : imgF R C g i = -1 := (imgF_none hI' i).2 ((imgF_none hI i).1 e)
    rw [HP.out, e, e2]; rfl
  rw [← hp]
  clear hin hin2 hI hI' hca hcb hp
  go_enter Try.func96, Try.ntmps96
  go_wp2
  go_quiet ((go_at_call 85; (first | with_reducible exact ok_quiet (.slice (some ⟨ga, oa, none⟩) R ca) _ _ _ true HI.out H1.out | with_reducible exact ok_quiet (.slice (some ⟨gb, ob, none⟩) R cb) _ _ _ true HJ.out H2.out)))
  clear hx0 hx1
  go_wp2
  go_loopw [5, 38] (fun n i w' => ∃ y : Nat, y ≤ R ∧ i = .int .i64 y ∧ n = .int .i64 (cnt p (5 * y)) ∧ Below w.heap.size w w') (fun _ i _ => R - (intOf i).toNat)
  case atStart => exact ⟨0, by omega, rfl, rfl, below_draws (Below.refl _ _) _⟩
  case round =>
    obtain ⟨y, hy, rfl, rfl, hb⟩ := hrel
    have HBB := hide hb
    clear hb
    by_cases hlt : y < R
    · have hyI : (y : Int) < R := by omega
      obtain ⟨g', o', c', hx, hg', hcc⟩ := HA.out y hlt
      have hx := below_cell HBB.out hga hx
      have HCC := hide hcc
      clear hcc
      obtain ⟨wo, rfl⟩ : ∃ wo : World, wo = wr := ⟨_, rfl⟩
      go_wp2
      go_loopw [5, 45] (fun n i w' => ∃ x : Nat, x ≤ C ∧ i = .int .i64 x ∧ n = .int .i64 (cnt p (5 * y + x)) ∧ Below w.heap.size w w') (fun _ i _ => C - (intOf i).toNat)
      case atStart => exact ⟨0, by omega, rfl, rfl, HBB.out⟩
      case round =>
        clear HBB hx
        obtain ⟨x, hxx, rfl, rfl, hb⟩ := hrel
        have HBB := hide hb
        clear hb
        have hle := cnt_le p (5 * y + x)
        by_cases hlx : x < C
        · have hxI : (x : Int) < C := by omega
          have hz := below_cell HBB.out hg' (HCC.out x hlx)
          obtain ⟨g2, o2, c2, hx2, hg2, hc2⟩ := HB.out y hlt
          have hx2 := below_cell HBB.out hgb hx2
          have hz2 := below_cell HBB.out hg2 (hc2 x hlx)
          have HV : Hid (p (5 * y + x) = (f y x != g y x)) := hide (by rw [HP.out, imgF_at _ _ _ _ _ (by omega), imgF_at _ _ _ _ _ (by omega), if_pos ⟨hlt, hlx⟩, if_pos ⟨hlt, hlx⟩])
          clear hc2
          obtain ⟨s, hs⟩ : ∃ s, s = f y x := ⟨_, rfl⟩
          obtain ⟨t, ht⟩ : ∃ t, t = g y x := ⟨_, rfl⟩
          rw [← hs, ← ht] at HV
          rw [← hs] at hz
          rw [← ht] at hz2
          clear hs ht
          by_cases e : s = t
          · subst e
            have HS := hide (cnt_no (p := p) (k := 5 * y + x) (by rw [HV.out]; simp))
            go_wp2
            go_roundw
            case rel => exact ⟨x + 1, by omega, by go_num, by rw [← Nat.add_assoc, HS.out], HBB.out⟩
            case measure => simp [intOf]; omega
          · have hne2 : (s != t) = true := by simpa using e
            have hne1 : (s == t) = false := by simpa using e
            have HS := hide (cnt_yes (p := p) (k := 5 * y + x) (by rw [HV.out]; exact hne2))
            clear e
            go_wp2
            go_roundw
            case rel => exact ⟨x + 1, by omega, by go_num, by rw [← Nat.add_assoc, HS.out]; go_num, HBB.out⟩
            case measure => simp [intOf]; omega
        · obtain rfl : x = C := by omega
          have HS := hide (cnt_row p HN.out y hC)
          go_wp2
          go_roundw
          case rel => exact ⟨y + 1, by omega, by go_num, by rw [HS.out], HBB.out⟩
          case measure => simp [intOf]; omega
    · obtain rfl : y = R := by omega
      have HS := hide (cnt_end p HN.out hR)
      go_wp2
      go_ret
      exact ⟨ret_int (by rw [HS.out]), HBB.out⟩
theorem specDistanceOf_yes (v u : Value) (R C R' C' : Nat) (f g : Nat → Nat → Int) (w : World) (hin : InMat w v (mkM R C f)) (hin2 : InMat w u (mkM R' C' g)) (h : Img R C f) (h' : Img R' C' g) :
    Calls Try.prog 96 #[v, u] w fun e w' => e = .returned (.int .i64 (if R = R' ∧ C = C' then (cnt (fun i => imgF R C f i != imgF R' C' g i) 25 : Nat) else -1)) ∧ Below w.heap.size w w' := by
  by_cases hR : R = R'
  · subst hR
    by_cases hC : C = C'
    · subst hC
      rw [if_pos ⟨rfl, rfl⟩]
      exact specDistanceOf_same v u R C f g w hin hin2 h h'
    · rw [if_neg fun e => hC e.2]
      exact specDistanceOf_cols v u R C C' f g w hin hin2 h h' hC
  · rw [if_neg fun e => hR e.1]
    exact specDistanceOf_rows v u R C R' C' f g w hin hin2 h h' hR
end Go.Proofs.Ytpfaaglaeholbaa
