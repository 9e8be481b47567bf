/-
  Texts of this claim, one behind the other: Pth, Path, SwH, Rev, ColS, Eq, Same, Put, Dist, SpecD, SameS, SameB, PTo, Fnd, PToS, SpecP, Apl, SwS.
-/
import Derived.Test.YtiajdmoppgpgnaaPackN
import Derived.Test.YtiajdmoppgpgnaaPackA
import Derived.Test.YtiajdmoppgpgnaaPackD
import Derived.RegionTactic
import Derived.BigRegion
import Derived.Deep.LoopGhost
import Derived.Test.YtiajdmoppgpgnaaPackJ
import Derived.Test.YtiajdmoppgpgnaaPackM
import Derived.Test.YtiajdmoppgpgnaaPackB
import Derived.Test.YtiajdmoppgpgnaaPackF
/-
  pathTo of the program: from an image back to the first one, along the last switches.
-/
namespace Go.Proofs.Ytiajdmoppgpgnaa
open Go.RowKit
set_option maxRecDepth 100000

theorem Try.cellsSw : Try.prog.cellsOf 117 = 4 := by kernel_rfl
theorem Try.keyTySw : Try.prog.keyType 117 = true := by kernel_rfl
def Sw.wf (s : Sw) : Prop := (Lit.int .i64 s.y1).wf = true ∧ (Lit.int .i64 s.y2).wf = true ∧ (Lit.int .i64 s.x1).wf = true ∧ (Lit.int .i64 s.x2).wf = true
theorem intLitsM_mk (d : Nat) (x : Int) (h : (Lit.int .i64 x).wf = true) : Try.prog.keyLits (d + 1) 3 [.int .i64 x] = some [.int .i64 x] := by
  unfold Program.keyLits
  rw [Try.underlying3]
  simp only
  rw [if_pos ⟨trivial, h⟩]
theorem swLits_mk (d : Nat) (s : Sw) (h : s.wf) : Try.prog.keyLits (d + 2) 117 (swA s).toList = some [.int .i64 s.y1, .int .i64 s.y2, .int .i64 s.x1, .int .i64 s.x2] := by
  obtain ⟨h1, h2, h3, h4⟩ := h
  unfold Program.keyLits
  rw [Try.underlying117]
  simp only [swA]
  refine (if_pos ⟨by rw [Try.cellsSw]; rfl, by decide +kernel⟩).trans ?_
  simp only [Try.cellsI, List.mapM_cons, List.mapM_nil, List.drop_zero, List.take_succ_cons, List.take_zero, List.drop_succ_cons, bind, Option.bind, pure, Option.map, intLitsM_mk d _ h1, intLitsM_mk d _ h2, intLitsM_mk d _ h3, intLitsM_mk d _ h4]
  rfl
theorem run_neqSw {s u : Sw} (hs : s.wf) (hu : u.wf) (b : Bool) (hb : b = true ↔ s ≠ u) (w : World) : (binOp .neq 117 (swV s) (swV u)).run Try.prog w = .ok (.bool b) w := by
  have hm : Try.prog.types.size + 1 ≤ 10000 := of_decide_eq_true (by kernel_rfl)
  have hf : ∀ s : Sw, (swV s).formed Try.prog 117 = true := fun s => by simp [swV, swA, Value.formed, Try.underlying117, Try.cellsSw]
  obtain ⟨r, hr, hiff⟩ := run_equalIn_deep (10000 - (Try.prog.types.size + 1)) (Try.prog.types.size + 1) 117 Try.keyTySw w 2 2 (swV s) (swV u) _ _ (hf s) (hf u) (swLits_mk 0 s hs) (swLits_mk 0 u hu)
  rw [show 10000 - (Try.prog.types.size + 1) + (Try.prog.types.size + 1) = 10000 by omega] at hr
  have he : b = !r := by
    rw [Bool.eq_iff_iff, hb]
    have : r = true ↔ s = u := hiff.trans ⟨fun e => by obtain ⟨a1, a2, a3, a4⟩ := s; obtain ⟨b1, b2, b3, b4⟩ := u; simpa using e, fun e => by rw [e]⟩
    cases r <;> simp_all
  rw [he]
  unfold swV at hr ⊢
  simp only [binOp]
  simp [Op.equal, Op.maxDepth, hr]
theorem small_wf : ∀ n : Nat, n < 625 → (Lit.int .i64 (n : Int)).wf = true := by decide +kernel
theorem dec_wf {i : Nat} (h : i < 625) : (decS i).wf := by
  unfold decS Sw.wf
  exact ⟨small_wf _ (by omega), small_wf _ (by omega), small_wf _ (by omega), small_wf _ (by omega)⟩
theorem zero_wf : zeroSw.wf := ⟨rfl, rfl, rfl, rfl⟩
theorem swB_wf {R C : Nat} {x : List (List Int)} (hx : Node R C x) {s : Sw} (h : swB x s = true) : s.wf ∧ s ≠ zeroSw := by
  obtain ⟨i, hi, rfl⟩ := swB_num hx h
  refine ⟨dec_wf hi, fun e => ?_⟩
  rw [e] at h
  obtain ⟨f, rfl, hI⟩ := hx
  rw [swB_mk hI] at h
  obtain ⟨a, b, c, d, e1, h1⟩ := swF_iff.1 h
  obtain ⟨h2, -⟩ := four_iff.1 h1
  unfold zeroSw at e1
  simp only [Sw.mk.injEq] at e1
  omega
theorem tree_len {m : List (List Int)} {L : List (List (List Int))} {W : List (List Sw)} {a K : Nat} (h : Bfs m L W a K) : ∀ n i, i ≤ n → i < L.length → (W.getD i []).length ≤ i := by
  intro n
  induction n with
  | zero =>
    intro i hi hl
    rcases h.tree i hl with ⟨e, -⟩ | ⟨j, s, hj, -⟩
    · rw [e]; exact Nat.zero_le _
    · omega
  | succ n ih =>
    intro i hi hl
    rcases h.tree i hl with ⟨e, -⟩ | ⟨j, s, hj, e, -⟩
    · rw [e]; exact Nat.zero_le _
    · have := ih j (by omega) (by omega)
      rw [e, List.length_append, List.length_singleton]; omega
/-- The way of an image, and the one before it. -/
theorem tree_back {R C : Nat} {m : List (List Int)} {L : List (List (List Int))} {W : List (List Sw)} {a K : Nat} (hm : Node R C m) (h : Bfs m L W a K) {i : Nat} (hi : i < L.length) {n : Nat} (hn : (W.getD i []).length = n + 1) :
    ∃ j s, j < L.length ∧ W.getD i [] = W.getD j [] ++ [s] ∧ (W.getD j []).length = n ∧ swB (L.getD i []) s = true ∧ flipM (L.getD i []) s = L.getD j [] := by
  rcases h.tree i hi with ⟨e, -⟩ | ⟨j, s, hj, e1, e2, e3⟩
  · rw [e] at hn; simp at hn
  · have hj' : j < L.length := by omega
    have hN := bfs_node hm h hj'
    refine ⟨j, s, hj', e1, ?_, ?_, ?_⟩
    · rw [e1, List.length_append, List.length_singleton] at hn; omega
    · rw [e3]; exact swB_back hN e2
    · rw [e3]; exact flip_back hN s
end Go.Proofs.Ytiajdmoppgpgnaa
/-
  pathTo of the program, walked.
-/
namespace Go.Proofs.Ytiajdmoppgpgnaa
open Go.RowKit
set_option maxRecDepth 100000

/-- What stands at the loop: image i, its way still to go, the switches so far. -/
def PtSt (w : World) (R C b : Nat) (L : List (List (List Int))) (V : List (List Sw)) (P : List Sw) (i gw : Nat) (v : Value) (w' : World) : Prop :=
  ∃ path, path ++ (V.getD i []).reverse = P.reverse ∧ path.length + (V.getD i []).length = P.length ∧ SwAt w' gw (lastS (V.getD i [])) ∧ w.heap.size + 1 ≤ gw ∧ v.ownBlock ≠ some gw ∧ Blk w' w.heap.size 97 25 (imgC R C (L.getD i [])) ∧ OwnSws w' (w.heap.size + 1) v path ∧ ImgMap w' b (ksOf R C L V) ∧ Below w.heap.size w w'
end Go.Proofs.Ytiajdmoppgpgnaa
/-
  The exact laws' helpers at switches: toSwitch, toSwitchS, szSwitchS, markSwitchS, heldSwitchS.
-/
namespace Go.Proofs.Ytiajdmoppgpgnaa
open Go.RowKit

def set4 (xs : List Value) (k : Nat) (s : Sw) : List Value := (((xs.set k (.int .i64 s.y1)).set (k + 1) (.int .i64 s.y2)).set (k + 2) (.int .i64 s.x1)).set (k + 3) (.int .i64 s.x2)
theorem set4_len (xs : List Value) (k : Nat) (s : Sw) : (set4 xs k s).length = xs.length := by simp [set4]
theorem set4_fill {l : List Sw} {xs : List Value} {k : Nat} (h : xs.length = l.length * 4) (hk : k < l.length) : set4 (cellsS (l.take k) ++ xs.drop (k * 4)) (k * 4) l[k] = cellsS (l.take (k + 1)) ++ xs.drop ((k + 1) * 4) := by
  have hl : (cellsS (l.take k)).length = k * 4 := by rw [cellsS_len, List.length_take]; omega
  obtain ⟨a, b, c, d, r, hr⟩ : ∃ a b c d r, xs.drop (k * 4) = a :: b :: c :: d :: r := by
    have : 4 ≤ (xs.drop (k * 4)).length := by rw [List.length_drop]; omega
    match hx : xs.drop (k * 4), this with
    | a :: b :: c :: d :: r, _ => exact ⟨a, b, c, d, r, rfl⟩
  have hd : xs.drop ((k + 1) * 4) = r := by
    rw [show (k + 1) * 4 = k * 4 + 4 by omega, ← List.drop_drop, hr]; rfl
  rw [hd, hr, List.take_succ_eq_append_getElem hk, cellsS_snoc]
  unfold set4
  rw [List.set_append_right _ _ (by omega), List.set_append_right _ _ (by omega), List.set_append_right _ _ (by omega), List.set_append_right _ _ (by omega), hl]
  rw [show k * 4 - k * 4 = 0 by omega, show k * 4 + 1 - k * 4 = 1 by omega, show k * 4 + 2 - k * 4 = 2 by omega, show k * 4 + 3 - k * 4 = 3 by omega]
  simp [swA]
/-- A switch is stored in a slice of the call's own. -/
theorem exec_storeSwOwn {ρ : Operand → Value} {o : Oper} {w : World} {x y : Operand} {base e g n c i : Nat} {xs : List Value} {s : Sw} (ho : o.op = .store 117 x y) (hx : ρ x = .pointer (some ⟨g, i * 4, none⟩)) (hy : ρ y = swV s)
    (h : w.ownsRow base e 4 (.slice (some ⟨g, 0, none⟩) n c) n xs) (hi : i < n) : ∃ w', (execOp ρ o).run Try.prog w = .ok .skip w' ∧ w'.ownsRow base e 4 (.slice (some ⟨g, 0, none⟩) n c) n (set4 xs (i * 4) s) ∧ w.grownBy w' (some g) := by
  have hl := h.1
  have hc : ∀ j, j < n * 4 → ∃ u, w.cell? ⟨g, j, none⟩ = some u := fun j hj => ⟨xs[j], by rw [h.cellAt j hj, List.getElem?_eq_getElem (by omega)]⟩
  obtain ⟨u0, h0⟩ := hc (i * 4) (by omega); obtain ⟨u1, h1⟩ := hc (i * 4 + 1) (by omega); obtain ⟨u2, h2⟩ := hc (i * 4 + 2) (by omega); obtain ⟨u3, h3⟩ := hc (i * 4 + 3) (by omega)
  have f0 := h.frozenAt (i * 4); have f1 := h.frozenAt (i * 4 + 1); have f2 := h.frozenAt (i * 4 + 2); have f3 := h.frozenAt (i * 4 + 3)
  obtain ⟨a1, b1⟩ := h.stored (i * 4) (.int .i64 s.y1)
  obtain ⟨a2, b2⟩ := a1.stored (i * 4 + 1) (.int .i64 s.y2)
  obtain ⟨a3, b3⟩ := a2.stored (i * 4 + 2) (.int .i64 s.x1)
  obtain ⟨a4, b4⟩ := a3.stored (i * 4 + 3) (.int .i64 s.x2)
  refine ⟨_, ?_, a4, grown_trans (grown_trans (grown_trans b1 b2) b3) b4⟩
  unfold execOp
  simp only [ho, hx, hy, swV, swA]
  go_simp
theorem wpList_storeSwOwn {ops : Array Oper} {rest : List Oper} {o : Oper} {a : Act} {Q : Exit → Act → World → Prop} {W : World} {base e g n c i : Nat} {xs : List Value} {s : Sw} (h : W.ownsRow base e 4 (.slice (some ⟨g, 0, none⟩) n c) n xs) (hi : i < n)
    (hgd : o.guard = none) (x y : Operand) (ho : o.op = .store 117 x y) (hx : a.eval x = .pointer (some ⟨g, i * 4, none⟩)) (hy : a.eval y = swV s)
    (hK : ∀ w', w'.ownsRow base e 4 (.slice (some ⟨g, 0, none⟩) n c) n (set4 xs (i * 4) s) → W.grownBy w' (some g) → wpList Try.prog ops Q rest (a.put o.dst undef) w') : wpList Try.prog ops Q (o :: rest) a W := by
  refine wpList_plain hgd fun K hk => ?_
  obtain ⟨w', h1, h2, h3⟩ := exec_storeSwOwn (ρ := a.eval) ho hx hy h hi
  unfold Oper.wp
  rw [h1]
  exact hk _ _ (hK w' h2 h3)

def SizeS (n left : Nat) (w : World) (e : Ending) (w' : World) : Prop := ∃ r : Int, e = .returned (.int .i64 r) ∧ ((r = -1) ∨ (n ≤ left ∧ r = (left - n : Nat))) ∧ w = w'
/-- The cells are marked one after the other. -/
theorem mark_cell (q j m : Nat) (xs : List Value) (hl : xs.length = m) (hj : j < m) : (ints (markR j q) ++ xs.drop j).set j (.int .i64 ((q + j : Nat) : Int)) = ints (markR (j + 1) q) ++ xs.drop (j + 1) := markR_set m q j xs hl hj
/-- A slice of n elements of four cells, each one greater than the one before. -/
def HeldC (w : World) (v : Value) (n q : Nat) : Prop := ∃ a c, v = .slice a n c ∧ n ≤ maxLen ∧ (n = 0 ∨ ∃ g o, a = some ⟨g, o, none⟩ ∧ g < w.heap.size ∧ ∀ j, j < n * 4 → w.cell? ⟨g, o + j, none⟩ = some (.int .i64 ((q + j : Nat) : Int)))
theorem heldC_below {w w' : World} {v : Value} {n q : Nat} (h : HeldC w v n q) (hb : Below w.heap.size w w') : HeldC w' v n q := by
  obtain ⟨a, c, hv, hm, hp⟩ := h
  refine ⟨a, c, hv, hm, ?_⟩
  rcases hp with h0 | ⟨g, o, ha, hg, hc⟩
  · exact .inl h0
  · exact .inr ⟨g, o, ha, Nat.lt_of_lt_of_le hg hb.size, fun j hj => below_cell hb hg (hc j hj)⟩
theorem heldC_own {w : World} {base e n q : Nat} {v : Value} (h : w.ownsRow base e 4 v n (ints (markR (n * 4) q))) : HeldC w v n q := by
  rcases h.2 with ⟨rfl, h0⟩ | ⟨g, cap, cur, rfl, hbg, hg, hc, hm, _⟩
  · exact ⟨none, 0, by rw [h0], by omega, .inl h0⟩
  · refine ⟨_, _, rfl, by omega, .inr ⟨g, 0, rfl, (Array.getElem?_eq_some_iff.1 hg).1, fun j hj => ?_⟩⟩
    rw [Nat.zero_add, h.cellAt j hj, ints_at _ j (by rw [markR_len]; exact hj), markR_at]
end Go.Proofs.Ytiajdmoppgpgnaa
/-
  slices.Reverse at switches.
-/
namespace Go.Proofs.Ytiajdmoppgpgnaa
open Go.RowKit
set_option maxRecDepth 100000

theorem grown_drewR {w w' : World} {row : Option Nat} (h : w.grownBy w' row) : w.grownBy w'.drew row := ⟨h.os, h.tape, h.output, h.size, h.block⟩
/-- Turned round from both ends, k places in. -/
def revF (l : List Sw) (k : Nat) : List Sw := (List.range l.length).map fun t => if t < k ∨ l.length ≤ t + k then l.getD (l.length - 1 - t) zeroSw else l.getD t zeroSw
theorem revF_len (l : List Sw) (k : Nat) : (revF l k).length = l.length := by simp [revF]
theorem revF_at (l : List Sw) (k t : Nat) (h : t < (revF l k).length) : (revF l k)[t] = if t < k ∨ l.length ≤ t + k then l.getD (l.length - 1 - t) zeroSw else l.getD t zeroSw := by simp [revF]
theorem revF_zero (l : List Sw) : revF l 0 = l := by
  refine List.ext_getElem (revF_len l 0) fun t h1 h2 => ?_
  rw [revF_at, if_neg (by omega), List.getD_eq_getElem?_getD, List.getElem?_eq_getElem h2]; rfl
theorem revF_end {l : List Sw} {k : Nat} (h : l.length ≤ 2 * k + 1) : revF l k = l.reverse := by
  refine List.ext_getElem (by rw [revF_len]; simp) fun t h1 h2 => ?_
  have ht : t < l.length := by simpa using h2
  rw [revF_at, List.getElem_reverse]
  by_cases e : t < k ∨ l.length ≤ t + k
  · rw [if_pos e, List.getD_eq_getElem?_getD, List.getElem?_eq_getElem (by omega)]; rfl
  · rw [if_neg e, List.getD_eq_getElem?_getD, List.getElem?_eq_getElem (by omega), Option.getD_some]
    congr 1; omega
theorem revF_step {l : List Sw} {k q : Nat} (h : k + q + 1 = l.length) (hkq : k < q) : ((revF l k).set k (l.getD q zeroSw)).set q (l.getD k zeroSw) = revF l (k + 1) := by
  refine List.ext_getElem (by simp [revF_len]) fun t h1 h2 => ?_
  have ht : t < l.length := by rw [revF_len] at h2; exact h2
  rw [List.getElem_set, List.getElem_set, revF_at, revF_at]
  by_cases e1 : q = t
  · subst e1
    rw [if_pos rfl, if_pos (by omega), show l.length - 1 - q = k by omega]
  · rw [if_neg e1]
    by_cases e2 : k = t
    · subst e2
      rw [if_pos rfl, if_pos (by omega), show l.length - 1 - k = q by omega]
    · rw [if_neg e2]
      by_cases e : t < k ∨ l.length ≤ t + k
      · rw [if_pos e, if_pos (by omega)]
      · rw [if_neg e, if_neg (by omega)]
theorem cellsS_set : ∀ (l : List Sw) (k : Nat) (s : Sw), k < l.length → cellsS (l.set k s) = set4 (cellsS l) (k * 4) s
  | [], k, s, h => by simp at h
  | x :: l, 0, s, _ => by simp [cellsS, set4]
  | x :: l, k + 1, s, h => by
    have ih := cellsS_set l k s (by simpa using h)
    have e1 : ∀ l : List Sw, cellsS (x :: l) = .int .i64 x.y1 :: .int .i64 x.y2 :: .int .i64 x.x1 :: .int .i64 x.x2 :: cellsS l := fun l => by simp [cellsS]
    rw [List.set_cons_succ, e1, ih, e1]
    unfold set4
    rw [show (k + 1) * 4 = k * 4 + 1 + 1 + 1 + 1 by omega, show k * 4 + 1 + 1 + 1 + 1 + 1 = (k * 4 + 1) + 1 + 1 + 1 + 1 by omega, show k * 4 + 1 + 1 + 1 + 1 + 2 = (k * 4 + 2) + 1 + 1 + 1 + 1 by omega, show k * 4 + 1 + 1 + 1 + 1 + 3 = (k * 4 + 3) + 1 + 1 + 1 + 1 by omega]
    simp only [List.set_cons_succ]
theorem revF_q (l : List Sw) {k q : Nat} (h : k + q + 1 = l.length) (hkq : k < q) : (revF l k).getD k zeroSw = l.getD k zeroSw ∧ (revF l k).getD q zeroSw = l.getD q zeroSw := by
  have h1 : k < (revF l k).length := by rw [revF_len]; omega
  have h2 : q < (revF l k).length := by rw [revF_len]; omega
  rw [List.getD_eq_getElem?_getD, List.getD_eq_getElem?_getD (l := revF l k), List.getElem?_eq_getElem h1, List.getElem?_eq_getElem h2, Option.getD_some, Option.getD_some, revF_at, revF_at, if_neg (by omega), if_neg (by omega)]
  exact ⟨rfl, rfl⟩
end Go.Proofs.Ytiajdmoppgpgnaa
/-
  ColSums of both.
-/
namespace Go.Proofs.Ytiajdmoppgpgnaa
open Go.RowKit

theorem implColSums_no (v : Value) (m : List (List Int)) (w : World) (hin : InMat w v m) (h : okB m = false) :
    Calls Try.prog 50 #[v] w (IntsRes [] w) := by
  have HI := hide hin; have H := hide h
  clear hin h
  go_enter Try.func50, Try.ntmps50
  go_wp2_with fail
  refine (implTransposeOf_no v m _ HI.out H.out).mono ?_
  rintro e w1 ⟨u, rfl, ho, hb⟩
  have HM := hide (inMat_own ho); have HB := hide hb
  clear ho hb
  go_wp2_with fail
  refine (implRowSums_no u [] _ HM.out (by decide)).mono ?_
  rintro e w2 ⟨u2, rfl, ho, hb⟩
  have HO := hide (own_base ho HB.out.size); have HB2 := hide (HB.out.trans (hb.mono HB.out.size))
  clear ho hb
  go_wp2
  go_ret
  exact ⟨_, rfl, HO.out, HB2.out⟩
theorem implColSums_yes (v : Value) (R C : Nat) (f : Nat → Nat → Int) (w : World) (hin : InMat w v (mkM R C f)) (hI : Img R C f) :
    Calls Try.prog 50 #[v] w (IntsRes (rowsL C R (trM f)) w) := by
  have HI := hide hin; have H := hide hI
  clear hin hI
  go_enter Try.func50, Try.ntmps50
  go_wp2_with fail
  refine (implTransposeOf_yes v R C f _ HI.out H.out).mono ?_
  rintro e w1 ⟨u, rfl, ho, hb⟩
  have HM := hide (inMat_own ho); have HB := hide hb
  clear ho hb
  go_wp2_with fail
  refine (implRowSums_yes u C R (trM f) _ HM.out (img_tr H.out)).mono ?_
  rintro e w2 ⟨u2, rfl, ho, hb⟩
  have HO := hide (own_base ho HB.out.size); have HB2 := hide (HB.out.trans (hb.mono HB.out.size))
  clear ho hb
  go_wp2
  go_ret
  exact ⟨_, rfl, HO.out, HB2.out⟩

end Go.Proofs.Ytiajdmoppgpgnaa
/-
  Lists of integers held against one another: slices.Equal.
-/
namespace Go.Proofs.Ytiajdmoppgpgnaa
open Go.RowKit

theorem sameRow_no {r s : List Int} (h : r.length ≠ s.length) : (r == s) = false := by
  rw [beq_eq_false_iff_ne]; intro e; exact h (by rw [e])
theorem sameRow_no2 {r s : List Int} (k : Nat) (hr : k < r.length) (hs : k < s.length) (h : r[k] ≠ s[k]) : (r == s) = false := by
  rw [beq_eq_false_iff_ne]; intro e; subst e; exact h rfl
theorem sameRow_yes {r s : List Int} (h : r.length = s.length) (h2 : ∀ k, (hr : k < r.length) → (hs : k < s.length) → r[k] = s[k]) : (r == s) = true := by
  rw [beq_iff_eq]; exact List.ext_getElem h h2
theorem sameMat_no {r s : List (List Int)} (h : r.length ≠ s.length) : (r == s) = false := by
  rw [beq_eq_false_iff_ne]; intro e; exact h (by rw [e])
theorem sameMat_no2 {r s : List (List Int)} (k : Nat) (hr : k < r.length) (hs : k < s.length) (h : (r[k] == s[k]) = false) : (r == s) = false := by
  rw [beq_eq_false_iff_ne] at h ⊢; intro e; subst e; exact h rfl
theorem sameMat_yes {r s : List (List Int)} (h : r.length = s.length) (h2 : ∀ k, (hr : k < r.length) → (hs : k < s.length) → (r[k] == s[k]) = true) : (r == s) = true := by
  rw [beq_iff_eq]; exact List.ext_getElem h fun k h1 h2' => by simpa using h2 k h1 h2'

end Go.Proofs.Ytiajdmoppgpgnaa
/-
  SameImage, of the model and of the program, and the exact law, walked.
-/
namespace Go.Proofs.Ytiajdmoppgpgnaa
open Go.RowKit

end Go.Proofs.Ytiajdmoppgpgnaa
/-
  PutCell and DistanceOf of the program.
-/
namespace Go.Proofs.Ytiajdmoppgpgnaa
open Go.RowKit

/-- The whole variable is read, behind a guard that says yes. -/
theorem wpList_loadVecG {P : Program} {ops : Array Oper} {rest : List Oper} {o : Oper} {a : Act} {Q : Exit → Act → World → Prop} {W : World} {g n m : Nat} {T T' e : TypeId} {F : Nat → Int} (hb : Blk W g T n F) (d : Tmp) (_hd : o.dst = some d)
    (hw : Region.wanted o (yielded ops a.tmps) = true) (x : Operand) (ho : o.op = .load T' x) (hx : a.eval x = .pointer (some ⟨g, 0, none⟩)) (hu : P.underlying T' = some (.array m e)) (hi : (P.info? T').map (·.size) = some n)
    (h : wpList P ops Q rest (a.put o.dst (.agg (vec n F))) W) : wpList P ops Q (o :: rest) a W :=
  BigFrame.wpList_want hw fun K hK => wp_load_row T' x ho g hx T (vec n F) (0, 0) _ hb hu rfl (by rw [hi, vec_size]) (hK _ _ h)

/-- The image with another cell. -/
def putM (f : Nat → Nat → Int) (a b : Nat) (c : Int) (y x : Nat) : Int := if y = a ∧ x = b then c else f y x
theorem img_put {R C : Nat} {f : Nat → Nat → Int} (h : Img R C f) (a b : Nat) {c : Int} (hc : c = 0 ∨ c = 1) : Img R C (putM f a b c) := ⟨h.r1, h.r2, h.c1, h.c2, fun y x hy hx => by
  unfold putM; split
  · exact hc
  · exact h.cell y x hy hx⟩
theorem imgF_put (R C : Nat) (f : Nat → Nat → Int) (a b : Nat) (c : Int) (ha : a < R) (hb : b < C) (hC : C ≤ 5) : ∀ i, i < 25 → (if i = 5 * a + b then c else imgF R C f i) = imgF R C (putM f a b c) i := fun i hi => by
  simp only [imgF, putM]
  by_cases e : i = 5 * a + b
  · subst e
    rw [if_pos rfl, if_pos (by omega), if_pos (by omega)]
  · rw [if_neg e]
    by_cases h : i / 5 < R ∧ i % 5 < C
    · rw [if_pos h, if_pos h, if_neg (by omega)]
    · rw [if_neg h, if_neg h]

end Go.Proofs.Ytiajdmoppgpgnaa
/-
  DistanceOf of the program.
-/
namespace Go.Proofs.Ytiajdmoppgpgnaa
open Go.RowKit

theorem imageOf_any (v : Value) (m : List (List Int)) (w : World) (hin : InMat w v m) :
    Calls Try.prog 87 #[v] w fun e w' => (∃ F, e = .returned (.tuple #[.agg (vec 25 F), .bool (okB m)])) ∧ Below w.heap.size w w' := by
  cases h : okB m with
  | false =>
    refine (imageOf_no v m w hin h).mono ?_
    rintro e w' ⟨rfl, hb⟩
    exact ⟨⟨_, rfl⟩, hb⟩
  | true =>
    obtain ⟨R, C, f, rfl, hI⟩ := ok_img h
    refine (imageOf_yes v R C f w hin hI).mono ?_
    rintro e w' ⟨rfl, hb⟩
    exact ⟨⟨_, rfl⟩, hb⟩
theorem imgF_none {R C : Nat} {f : Nat → Nat → Int} (h : Img R C f) (i : Nat) : imgF R C f i = -1 ↔ ¬ (i / 5 < R ∧ i % 5 < C) := by
  unfold imgF
  by_cases hi : i / 5 < R ∧ i % 5 < C
  · rw [if_pos hi]
    constructor
    · intro e; rcases h.cell _ _ hi.1 hi.2 with e' | e' <;> rw [e'] at e <;> cases e
    · intro e; exact absurd hi e
  · rw [if_neg hi]; exact ⟨fun _ => hi, fun _ => rfl⟩
theorem same_sizes {R C R' C' : Nat} {f g : Nat → Nat → Int} (h : Img R C f) (h' : Img R' C' g) : decide (R = R' ∧ C = C') = true ↔ ∀ i, i < 25 → (imgF R C f i = -1 ↔ imgF R' C' g i = -1) := by
  have a1 := h.r1; have a2 := h.r2; have a3 := h.c1; have a4 := h.c2
  have b1 := h'.r1; have b2 := h'.r2; have b3 := h'.c1; have b4 := h'.c2
  rw [decide_eq_true_eq]
  constructor
  · rintro ⟨rfl, rfl⟩ i hi
    rw [imgF_none h, imgF_none h']
  · intro hall
    have hq : ∀ y x, y < 5 → x < 5 → ((y < R ∧ x < C) ↔ (y < R' ∧ x < C')) := fun y x hy hx => by
      have := hall (5 * y + x) (by omega)
      rw [imgF_none h, imgF_none h', show (5 * y + x) / 5 = y by omega, show (5 * y + x) % 5 = x by omega] at this
      exact ⟨fun h1 => Decidable.byContradiction fun n => (this.2 n) h1, fun h1 => Decidable.byContradiction fun n => (this.1 n) h1⟩
    constructor
    · by_cases l : R < R'
      · have := (hq R 0 (by omega) (by omega)).2 ⟨l, by omega⟩; omega
      · by_cases l2 : R' < R
        · have := (hq R' 0 (by omega) (by omega)).1 ⟨l2, by omega⟩; omega
        · omega
    · by_cases l : C < C'
      · have := (hq 0 C (by omega) (by omega)).2 ⟨by omega, l⟩; omega
      · by_cases l2 : C' < C
        · have := (hq 0 C' (by omega) (by omega)).1 ⟨by omega, l2⟩; omega
        · omega
end Go.Proofs.Ytiajdmoppgpgnaa
/-
  DistanceOf of the model.
-/
namespace Go.Proofs.Ytiajdmoppgpgnaa
open Go.RowKit

theorem ok_quiet (v : Value) (m : List (List Int)) (w : World) (n : Nat) (b : Bool) (hin : InMat w v m) (hb : okB m = b) :
    Calls Try.prog 80 #[v] (w.drewN n) fun e w'' => e = .returned (.bool b) ∧ ∃ k, w'' = w.drewN k := by
  refine Calls.quiet_of_same ((specImageOk_any v m (w.drewN n) hin).mono ?_)
  rintro e w' ⟨rfl, rfl⟩
  exact ⟨by rw [hb], rfl⟩

end Go.Proofs.Ytiajdmoppgpgnaa
/-
  SameSums of both.
-/
namespace Go.Proofs.Ytiajdmoppgpgnaa
open Go.RowKit Go.Maps

/-- The rows' and the columns' directions. -/
def rc : List (Int × Int) := [(1, 0), (0, 1)]
theorem lines_row (R C : Nat) (f : Nat → Nat → Int) (n : Int) : linesC C f (R * C) ⟨1, 0, n⟩ rc = if 0 ≤ n ∧ n < R then ((rs C f n.toNat : Nat) : Int) else 0 := by
  have h : lineC C f (1, 0) (R * C) ⟨1, 0, n⟩ = (cnt (onL C f (1, 0) n) (C * R) : Nat) := by rw [Nat.mul_comm R C]; exact if_pos ⟨rfl, rfl⟩
  have h2 : lineC C f (0, 1) (R * C) ⟨1, 0, n⟩ = 0 := if_neg (fun h => by cases h.1)
  rw [rc, linesC, linesC, linesC, h, h2, cnt_rows]
  split <;> simp
theorem lines_col (R C : Nat) (f : Nat → Nat → Int) (n : Int) : linesC C f (R * C) ⟨0, 1, n⟩ rc = if 0 ≤ n ∧ n < C then ((cs R f (C - 1 - n.toNat) : Nat) : Int) else 0 := by
  have h : lineC C f (0, 1) (R * C) ⟨0, 1, n⟩ = (cnt (onL C f (0, 1) n) (C * R) : Nat) := by rw [Nat.mul_comm R C]; exact if_pos ⟨rfl, rfl⟩
  have h2 : lineC C f (1, 0) (R * C) ⟨0, 1, n⟩ = 0 := if_neg (fun h => by cases h.1)
  rw [rc, linesC, linesC, linesC, h, h2, cnt_cols]
  split <;> simp
theorem lines_none (C : Nat) (f : Nat → Nat → Int) (N : Nat) (k : Key) (h1 : ¬ (k.x = 1 ∧ k.y = 0)) (h2 : ¬ (k.x = 0 ∧ k.y = 1)) : linesC C f N k rc = 0 := by
  simp only [rc, linesC, lineC]
  rw [if_neg h1, if_neg h2]; rfl
theorem rowsL_eq {R C : Nat} {f g : Nat → Nat → Int} : (rowsL R C f == rowsL R C g) = true ↔ ∀ y, y < R → rs C f y = rs C g y := by
  rw [beq_iff_eq]
  constructor
  · intro h y hy
    have h1 := congrArg (fun l => l[y]?) h
    simp only [rowsL, rowF, List.getElem?_map, List.getElem?_range hy, Option.map_some, Option.some.injEq] at h1
    omega
  · intro h
    exact rowF_congr fun y hy => by rw [h y hy]
def sameL (R C : Nat) (f g : Nat → Nat → Int) : Bool := (rowsL R C f == rowsL R C g) && (rowsL C R (trM f) == rowsL C R (trM g))
theorem same_lines {R C : Nat} {f g : Nat → Nat → Int} (hR : R ≤ 5) (hC : C ≤ 5) : (∀ k : Key, k.wf → thereK (fun k => linesC C f (R * C) k rc - linesC C g (R * C) k rc) k = false) ↔ sameL R C f g = true := by
  have hcs : ∀ (f : Nat → Nat → Int) x, rs R (trM f) x = cs R f x := fun _ _ => rfl
  unfold sameL
  rw [Bool.and_eq_true, rowsL_eq, rowsL_eq]
  constructor
  · intro h
    have h0 : ∀ k : Key, k.wf → linesC C f (R * C) k rc = linesC C g (R * C) k rc := fun k hk => by
      have := h k hk
      simp only [thereK, decide_eq_false_iff_not, ne_eq, Decidable.not_not] at this
      omega
    refine ⟨fun y hy => ?_, fun x hx => ?_⟩
    · have := h0 ⟨1, 0, y⟩ (key_wf (by decide) (by decide) (WalkArith.wf_i64 (by omega)))
      rw [lines_row, lines_row, if_pos (by omega), if_pos (by omega)] at this
      have e : ((y : Int)).toNat = y := by omega
      rw [e] at this; omega
    · rw [hcs, hcs]
      have := h0 ⟨0, 1, (C - 1 - x : Nat)⟩ (key_wf (by decide) (by decide) (WalkArith.wf_i64 (by omega)))
      rw [lines_col, lines_col, if_pos (by omega), if_pos (by omega)] at this
      have e : C - 1 - (((C - 1 - x : Nat) : Int)).toNat = x := by omega
      rw [e] at this; omega
  · rintro ⟨h1, h2⟩ k -
    simp only [thereK, decide_eq_false_iff_not, ne_eq, Decidable.not_not]
    obtain ⟨kx, ky, n⟩ := k
    by_cases e1 : kx = 1 ∧ ky = 0
    · obtain ⟨rfl, rfl⟩ := e1
      rw [lines_row, lines_row]
      split
      · rename_i hn; rw [h1 n.toNat (by omega)]; omega
      · rfl
    · by_cases e2 : kx = 0 ∧ ky = 1
      · obtain ⟨rfl, rfl⟩ := e2
        rw [lines_col, lines_col]
        split
        · rename_i hn
          have := h2 (C - 1 - n.toNat) (by omega)
          rw [hcs, hcs] at this
          rw [this]; omega
        · rfl
      · rw [lines_none C f (R * C) _ e1 e2, lines_none C g (R * C) _ e1 e2]; rfl

theorem iok_quiet (v : Value) (m : List (List Int)) (w : World) (n : Nat) (b : Bool) (hin : InMat w v m) (hb : okB m = b) :
    Calls Try.prog 83 #[v] (w.drewN n) fun e w'' => e = .returned (.bool b) ∧ ∃ k, w'' = w.drewN k := by
  refine Calls.quiet_of_same ((implImageOk_any v m (w.drewN n) hin).mono ?_)
  rintro e w' ⟨rfl, rfl⟩
  exact ⟨by rw [hb], rfl⟩
end Go.Proofs.Ytiajdmoppgpgnaa
/-
  Whether two lists of lists are images with the same sums.
-/
namespace Go.Proofs.Ytiajdmoppgpgnaa
open Go.RowKit

def sameB (m l : List (List Int)) : Bool := okB m && okB l && (decide (m.length = l.length) && decide (widthM m = widthM l) && sameL m.length (widthM m) (cellM m) (cellM l))
theorem rs_congr {C : Nat} {f g : Nat → Nat → Int} {y : Nat} (h : ∀ x, x < C → f y x = g y x) : rs C f y = rs C g y := cnt_congr fun x hx => by rw [h x hx]
theorem rowsL_congr {R C : Nat} {f g : Nat → Nat → Int} (h : ∀ y x, y < R → x < C → f y x = g y x) : rowsL R C f = rowsL R C g := rowF_congr fun y hy => by rw [rs_congr fun x hx => h y x hy hx]
theorem sameL_congr {R C : Nat} {f g f' g' : Nat → Nat → Int} (h : ∀ y x, y < R → x < C → f y x = f' y x) (h2 : ∀ y x, y < R → x < C → g y x = g' y x) : sameL R C f g = sameL R C f' g' := by
  unfold sameL
  rw [rowsL_congr h, rowsL_congr h2, rowsL_congr (f := trM f) (g := trM f') fun y x hy hx => h x y hx hy, rowsL_congr (f := trM g) (g := trM g') fun y x hy hx => h2 x y hx hy]
theorem width_mk {R C : Nat} {f : Nat → Nat → Int} (h : Img R C f) : widthM (mkM R C f) = C := by
  have := h.r1
  unfold widthM mkM
  obtain ⟨n, rfl⟩ : ∃ n, R = n + 1 := ⟨R - 1, by omega⟩
  simp [List.range_succ_eq_map, rowF]
theorem sameB_mk {R C R' C' : Nat} {f g : Nat → Nat → Int} (h : Img R C f) (h' : Img R' C' g) : sameB (mkM R C f) (mkM R' C' g) = if R = R' ∧ C = C' then sameL R C f g else false := by
  unfold sameB
  rw [img_ok h, img_ok h', width_mk h, width_mk h', mkM_len, mkM_len]
  by_cases e1 : R = R'
  · by_cases e2 : C = C'
    · subst e1; subst e2
      rw [if_pos ⟨rfl, rfl⟩, sameL_congr (fun y x hy hx => cell_mk R C f hy hx) (fun y x hy hx => cell_mk R C g hy hx)]
      simp
    · rw [if_neg fun e => e2 e.2]; simp [e2]
  · rw [if_neg fun e => e1 e.1]; simp [e1]
theorem rowF_inj {n : Nat} {f g : Nat → Int} (h : rowF n f = rowF n g) : ∀ i, i < n → f i = g i := fun i hi => by
  have h1 : (rowF n f)[i]? = (rowF n g)[i]? := by rw [h]
  simpa [rowF, hi] using h1
theorem sameB_yes {m l : List (List Int)} (h : sameB m l = true) : ∃ R C f g, m = mkM R C f ∧ l = mkM R C g ∧ Img R C f ∧ Img R C g ∧ SameF R C f g := by
  have h0 := h
  unfold sameB at h0
  simp only [Bool.and_eq_true] at h0
  obtain ⟨R, C, f, rfl, hI⟩ := ok_img h0.1.1
  obtain ⟨R', C', g, rfl, hJ⟩ := ok_img h0.1.2
  rw [sameB_mk hI hJ] at h
  by_cases e : R = R' ∧ C = C'
  · obtain ⟨rfl, rfl⟩ := e
    rw [if_pos ⟨rfl, rfl⟩] at h
    unfold sameL at h
    simp only [Bool.and_eq_true, beq_iff_eq] at h
    refine ⟨R, C, f, g, rfl, rfl, hI, hJ, fun y hy => ?_, fun x hx => ?_⟩
    · have := rowF_inj h.1 y hy; omega
    · have := rowF_inj h.2 x hx
      show rs R (trM f) x = rs R (trM g) x
      omega
  · rw [if_neg e] at h; cases h
end Go.Proofs.Ytiajdmoppgpgnaa
/-
  PathTo of the program.
-/
namespace Go.Proofs.Ytiajdmoppgpgnaa
open Go.RowKit
set_option maxRecDepth 100000

def pathB (m l : List (List Int)) : Bool := sameB m l && (decide (m.length ≤ 4) && decide (widthM m ≤ 4))
/-- What PathTo answers. -/
def PathRes (m l : List (List Int)) (w : World) (e : Ending) (w' : World) : Prop :=
  ∃ v P, e = .returned (.tuple #[v, .bool (pathB m l)]) ∧ OwnSws w' w.heap.size v P ∧ Below w.heap.size w w' ∧ (pathB m l = true → Best m l P) ∧ (pathB m l = false → P = [])
theorem pathRes_no {m l : List (List Int)} {w w' : World} (h : pathB m l = false) (hb : Below w.heap.size w w') : PathRes m l w (.returned (.tuple #[.slice none 0 0, .bool false])) w' :=
  ⟨_, [], by rw [h], ownSws_nil _ _, hb, fun e => (by rw [h] at e; cases e), fun _ => rfl⟩
/-- The map of a search that has found t. -/
def mapF (R C : Nat) (m t : List (List Int)) : FactP := fun u w2 => ∃ b L V k K i, u = .map (some b) ∧ Bfs m L V k K ∧ i < L.length ∧ L.getD i [] = t ∧ ImgMap w2 b (ksOf R C L V)
theorem stable_mapF (R C : Nat) (m t : List (List Int)) : StableP (mapF R C m t) := fun _ _ _ hb h => by
  obtain ⟨b, L, V, k, K, i, h1, h2, h3, h4, h5⟩ := h
  exact ⟨b, L, V, k, K, i, h1, h2, h3, h4, imgMap_below h5 hb⟩
/-- A way to t that is the best one. -/
def wayF (base : Nat) (m t : List (List Int)) : FactP := fun u w2 => ∃ P, OwnSws w2 base u P ∧ Best m t P
theorem stable_wayF (base : Nat) (m t : List (List Int)) : StableP (wayF base m t) := fun _ _ _ hb h => ⟨h.choose, ownSws_below h.choose_spec.1 hb, h.choose_spec.2⟩
/-- What NextTo answers. -/
def NextRes (m l : List (List Int)) (w : World) (e : Ending) (w' : World) : Prop :=
  ∃ P : List Sw, e = .returned (.tuple #[swV (P.headD zeroSw), .bool (!P.isEmpty)]) ∧ Below w.heap.size w w' ∧ (pathB m l = true → Best m l P) ∧ (pathB m l = false → P = [])
end Go.Proofs.Ytiajdmoppgpgnaa
/-
  l06Find and l06Small of the model.
-/
namespace Go.Proofs.Ytiajdmoppgpgnaa
open Go.RowKit
set_option maxRecDepth 100000

/-- A list of lists of lists that reads. -/
def InImgs (w : World) (v : Value) (L : List (List (List Int))) : Prop :=
  ∃ a c, v = .slice a L.length c ∧ L.length ≤ maxLen ∧ (L.length = 0 ∨ ∃ g o, a = some ⟨g, o, none⟩ ∧ g < w.heap.size ∧ ∀ i, (h : i < L.length) → ∃ u, w.cell? ⟨g, o + i, none⟩ = some u ∧ InMat w u L[i])
theorem inImgs_below {w w' : World} {v : Value} {L : List (List (List Int))} (h : InImgs w v L) (hb : Below w.heap.size w w') : InImgs w' v L := by
  obtain ⟨a, c, hv, hm, hp⟩ := h
  refine ⟨a, c, hv, hm, ?_⟩
  rcases hp with h0 | ⟨g, o, ha, hg, hc⟩
  · exact .inl h0
  · refine .inr ⟨g, o, ha, Nat.lt_of_lt_of_le hg hb.size, fun i hi => ?_⟩
    obtain ⟨u, h1, h2⟩ := hc i hi
    exact ⟨u, below_cell hb hg h1, inMat_below h2 hb⟩
/-- What l06Find answers. -/
def FindRes (L : List (List (List Int))) (m : List (List Int)) (w : World) (e : Ending) (w' : World) : Prop :=
  ∃ r : Int, e = .returned (.int .i64 r) ∧ Below w.heap.size w w' ∧ ((r = -1 ∧ m ∉ L) ∨ ∃ k : Nat, r = k ∧ ∃ h : k < L.length, L[k] = m)
end Go.Proofs.Ytiajdmoppgpgnaa
/-
  PathTo and NextTo of the model, out of what its search leaves.
-/
namespace Go.Proofs.Ytiajdmoppgpgnaa
open Go.RowKit
set_option maxRecDepth 100000

/-- Lists of switches of the call's own, one behind the other. -/
def OwnWays (w : World) (lo : Nat) (v : Value) (V : List (List Sw)) : Prop :=
  ∃ a c, v = .slice a V.length c ∧ (V.length = 0 ∨ ∃ g, a = some ⟨g, 0, none⟩ ∧ g < w.heap.size ∧ ∀ i, (h : i < V.length) → ∃ u, w.cell? ⟨g, i, none⟩ = some u ∧ OwnSws w lo u V[i])
theorem ownWays_below {w w' : World} {lo : Nat} {v : Value} {V : List (List Sw)} (h : OwnWays w lo v V) (hb : Below w.heap.size w w') : OwnWays w' lo v V := by
  obtain ⟨a, c, hv, hp⟩ := h
  refine ⟨a, c, hv, ?_⟩
  rcases hp with h0 | ⟨g, ha, hg, hc⟩
  · exact .inl h0
  · refine .inr ⟨g, ha, Nat.lt_of_lt_of_le hg hb.size, fun i hi => ?_⟩
    obtain ⟨u, h1, h2⟩ := hc i hi
    exact ⟨u, below_cell hb hg h1, ownSws_below h2 hb⟩
end Go.Proofs.Ytiajdmoppgpgnaa
/-
  PutCell of the model.
-/
namespace Go.Proofs.Ytiajdmoppgpgnaa
open Go.RowKit

set_option maxRecDepth 100000 in
set_option maxHeartbeats 1000000 in
theorem l02Copy_any (v : Value) (R C : Nat) (f : Nat → Nat → Int) (w : World) (hin : InMat w v (mkM R C f)) (hI : Img R C f) :
    Calls Try.prog 82 #[v] w (MatRes (mkM R C f) w) := by
  have hR1 := hI.r1; have hC1 := hI.c1; have hR := hI.r2; have hC := hI.c2
  obtain ⟨g, o, c, rfl, hg, hcell⟩ := inMat_img hin (by omega) (by omega)
  have HC := hide hcell
  clear hin hI hcell
  go_enter Try.func82, Try.ntmps82
  go_wp2
  go_loopw [3, 9] (fun u i w' => ∃ (y : Nat) (v : Value), y ≤ R ∧ i = .int .i64 y ∧ v = u ∧ OwnMat w' w.heap.size w'.heap.size v (mkM y C f) ∧ Below w.heap.size w w') (fun _ i _ => R - (intOf i).toNat)
  case atStart => exact ⟨0, _, by omega, rfl, rfl, ⟨[], World.ownsRow_made (base := w.heap.size) w #[] 0 (Nat.le_refl _) (Nat.zero_le _) rfl, (fun k e => by simp [Value.ownBlock] at e; subst e; simp), (fun i h => absurd h (Nat.not_lt_zero _)), fun i j _ h => absurd h (Nat.not_lt_zero _)⟩, (Below.refl _ _).alloc (Nat.le_refl _) _⟩
  case round =>
    obtain ⟨y, v, hy, rfl, rfl, hown, hb⟩ := hrel
    have HO := hide hown; have HB := hide hb
    clear hown hb
    by_cases hlt : y < R
    · have hyI : (y : Int) < R := by omega
      have hsz := HB.out.size
      obtain ⟨g', o', c', hx, hg', hcc⟩ := HC.out y hlt
      have hx := below_cell HB.out hg hx
      have HCC : Hid (∀ j, (h : j < (rowF C (f y)).length) → (wr.alloc (.cells #[] 3)).cell? ⟨g', o' + j, none⟩ = some (.int .i64 (rowF C (f y))[j])) := hide (fun j h => by
        rw [rowF_at, below_cell (w := wr) ((Below.refl _ _).alloc (Nat.le_refl _) _) (by omega) (below_cell HB.out hg' (hcc j (by rw [rowF_len] at h; exact h)))])
      have HE : Hid ((wr.alloc (.cells #[] 3)).ownsRow wr.heap.size 3 1 (.slice (some ⟨wr.heap.size, 0, none⟩) 0 0) 0 []) := hide (World.ownsRow_made (base := wr.heap.size) wr #[] 0 (Nat.le_refl _) (Nat.zero_le _) rfl)
      have HLN := hide (rowF_len C (f y))
      have HB1 := hide (HB.out.alloc hsz (.cells #[] 3))
      have HW1 := hide (below_cell (w := wr) (w' := wr.alloc (.cells #[] 3)) ((Below.refl _ _).alloc (Nat.le_refl _) _) (show g < wr.heap.size by omega) hx)
      have HO1 := hide (ownMat_below HO.out ((Below.refl wr.heap.size wr).alloc (Nat.le_refl _) (.cells #[] 3)))
      have hs0 : (wr.alloc (.cells #[] 3)).heap.size = wr.heap.size + 1 := by simp
      have HS0 := hide hs0
      clear hcc hs0
      go_wp2_with (first | (refine wpList_appendRow 16 rfl HE.out (rowF C (f y)) g' o' c' (.int .i64 0) rfl _ _ rfl Try.underlying33 Try.infoInt rfl (by decide) rfl (by rw [HLN.out]; rfl) HCC.out (by rw [HLN.out]; omega) (by rw [HS0.out]; omega) ?_; intro u2 w2 hu2 hb2 hg2; rw [HLN.out, Nat.zero_add, List.nil_append] at hu2; obtain ⟨ua, uc, rfl⟩ := own_slice hu2; have HU := hide hu2; have O2 := hide (ownMat_within HO1.out (within_grown (lo := wr.heap.size) (hi := wr.heap.size + 1) hg2 fun k e => by simp [Value.ownBlock] at e; omega) (.inl (Nat.le_refl _))); have B2 := hide (HB1.out.trans (hb2.mono hsz)); have hs2 := hb2.size; rw [HS0.out] at hs2; clear hu2 hb2 hg2; obtain ⟨vs, hv, hvh, hvr, hva⟩ := O2.out; have hvl := mkM_len y C f; rw [hvl] at hv; have HV := hide hv; have HVR := hide hvr; have HVA := hide hva; clear hv hvh hvr hva hvl) | (at_builtin; refine wpList_push HV.out (.slice ua C uc) (.slice none 0 0) rfl _ _ rfl Try.underlying29 Try.infoInts rfl (by decide) rfl rfl rfl (by omega) (by omega) ?_; intro v' w6 hown1 hb1 hg1))
      go_roundw
      case rel =>
        have hs6 := hb1.size
        have hp := ownMat_push (r := rowF C (f y)) (hi' := w6.heap.size) HVR.out HVA.out (by rw [mkM_len]; exact HV.out) (by rw [HLN.out]; exact HU.out) hsz (by omega) (by omega) hg1 (by rw [mkM_len]; exact hown1) (fun k e => (hown1.lt k e).2)
        rw [← mkM_succ] at hp
        exact ⟨y + 1, _, by omega, by go_num, rfl, hp, B2.out.trans (hb1.mono (by omega))⟩
      case measure => simp [intOf]; omega
    · obtain rfl : y = R := by omega
      go_wp2
      go_ret
      exact ⟨_, rfl, HO.out, HB.out⟩

theorem cellOk_in (c : Int) : decide (0 ≤ c ∧ c ≤ 1) = cellOk c := by
  unfold cellOk
  by_cases h0 : c = 0
  · subst h0; rfl
  · by_cases h1 : c = 1
    · subst h1; rfl
    · rw [decide_eq_false (by omega)]; simp [h0, h1]
theorem mkM_put (R C : Nat) (f : Nat → Nat → Int) (y x : Nat) (c : Int) : (mkM R C fun a b => if a = y ∧ b = x then c else f a b) = mkM R C (putM f y x c) := rfl
end Go.Proofs.Ytiajdmoppgpgnaa
/-
  l06Apply of the model: an image after one of its switches.
-/
namespace Go.Proofs.Ytiajdmoppgpgnaa
open Go.RowKit

/-- The cells after the first n of the four. -/
def stepM (f : Nat → Nat → Int) (a b c d : Nat) : Nat → Nat → Nat → Int
  | 0 => f
  | n + 1 => fun y x => if y = pickN a b (n / 2) ∧ x = pickN c d (n % 2) then 1 - f y x else stepM f a b c d n y x
theorem stepM_all (f : Nat → Nat → Int) (a b c d : Nat) : stepM f a b c d 4 = flipN f a b c d := by
  have e : stepM f a b c d 4 = fun y x => if y = b ∧ x = d then 1 - f y x else if y = b ∧ x = c then 1 - f y x else if y = a ∧ x = d then 1 - f y x else if y = a ∧ x = c then 1 - f y x else f y x := rfl
  rw [e]
  funext y x
  unfold flipN
  by_cases h1 : y = a <;> by_cases h2 : y = b <;> by_cases h3 : x = c <;> by_cases h4 : x = d <;> simp [h1, h2, h3, h4]
theorem stepM_cell {R C : Nat} {f : Nat → Nat → Int} (h : Img R C f) (a b c d : Nat) : ∀ n, Img R C (stepM f a b c d n)
  | 0 => h
  | n + 1 => ⟨h.r1, h.r2, h.c1, h.c2, fun y x hy hx => by
    have := h.cell y x hy hx
    have := (stepM_cell h a b c d n).cell y x hy hx
    unfold stepM
    split <;> omega⟩

/-- Two integers in a block. -/
def PairAt (w : World) (g a b : Nat) : Prop := w.heap[g]? = some (.cells #[.int .i64 (a : Int), .int .i64 (b : Int)] 3 (0, 0))
theorem pair_lt {w : World} {g a b : Nat} (h : PairAt w g a b) : g < w.heap.size := (Array.getElem?_eq_some_iff.1 h).1
theorem pair_below {w w' : World} {g a b : Nat} (h : PairAt w g a b) (hb : Below w.heap.size w w') : PairAt w' g a b := by
  unfold PairAt; rw [hb.block g (pair_lt h)]; exact h
theorem pair_set {w : World} {g a b : Nat} (h : PairAt w g a b) (p : Addr) (v : Value) (hne : g ≠ p.block) : PairAt (w.setCell p v) g a b := by
  unfold PairAt; rw [heap_setCell_other w p g v hne]; exact h
theorem pair_cell {w : World} {g a b : Nat} (h : PairAt w g a b) (i : Nat) (hi : i < 2) : w.cell? ⟨g, i, none⟩ = some (.int .i64 ((pickN a b i : Nat) : Int)) := by
  rw [cell_of_row w g i _ _ _ h]
  have : i = 0 ∨ i = 1 := by omega
  rcases this with rfl | rfl <;> rfl
set_option maxRecDepth 100000 in
set_option maxHeartbeats 4000000 in
theorem l06Apply_any (v : Value) (R C : Nat) (f : Nat → Nat → Int) (a b c d : Nat) (w : World) (hin : InMat w v (mkM R C f)) (hI : Img R C f) (ha : a < R) (hb : b < R) (hc : c < C) (hd : d < C) :
    Calls Try.prog 103 #[v, swV ⟨a, b, c, d⟩] w (MatRes (mkM R C (flipN f a b c d)) w) := by
  rw [← stepM_all]
  have hR := hI.r2; have hC := hI.c2; have hR1 := hI.r1; have hC1 := hI.c1
  have HPA : Hid (∀ i, pickN a b i < R) := hide fun i => by unfold pickN; split <;> omega
  have HPC : Hid (∀ i, pickN c d i < C) := hide fun i => by unfold pickN; split <;> omega
  have HSTEP : Hid (∀ n, stepM f a b c d (n + 1) = fun y x => if y = pickN a b (n / 2) ∧ x = pickN c d (n % 2) then 1 - f y x else stepM f a b c d n y x) := hide fun _ => rfl
  have HZERO : Hid (stepM f a b c d 0 = f) := hide rfl
  obtain ⟨G, hG⟩ : ∃ G, G = stepM f a b c d := ⟨_, rfl⟩
  rw [← hG] at HSTEP HZERO ⊢
  clear hG
  have HI := hide hin; have H := hide hI
  have HCELL := hide hI.cell
  obtain ⟨g0, o0, c0, rfl, hg0, hcell⟩ := inMat_img hin (by omega) (by omega)
  have HC := hide hcell
  obtain ⟨s, hs⟩ : ∃ s : Sw, s = ⟨a, b, c, d⟩ := ⟨_, rfl⟩
  have HSW := hide hs
  rw [← hs]
  clear hs hin hI hcell
  go_enter Try.func103, Try.ntmps103
  go_wp2_with (first | (with_reducible refine wpList_boxSw s 3 rfl rfl (.tmp 1) rfl rfl ?_; intro w0 hs0 b0 s0) | ((with_reducible refine (l02Copy_any _ R C f _ (inMat_below HI.out b0) H.out).mono ?_); rintro e w1 ⟨u, rfl, hu, hb1⟩; obtain ⟨g, cap, rfl⟩ := ownMat_some hu (by rw [mkM_len]; omega); rw [mkM_len] at hu ⊢; have hs1 := swAt_below hs0 hb1; have hb2 := b0.trans (hb1.mono b0.size); have hsz1 := hb1.size; obtain ⟨d0, d1, d2, d3⟩ := swAt_cells hs1; rw [HSW.out] at d0 d1 d2 d3))
  obtain ⟨w2, hw2⟩ : ∃ w2, w2 = w1.alloc (.cells #[.int .i64 (a : Int), .int .i64 (b : Int)] 3) := ⟨_, rfl⟩
  obtain ⟨gy, hgy⟩ : ∃ gy, gy = w1.heap.size := ⟨_, rfl⟩
  have hal := (Below.refl w1.heap.size w1).alloc (Nat.le_refl _) (.cells #[.int .i64 (a : Int), .int .i64 (b : Int)] 3)
  have HO := hide (ownMat_below hu hal)
  have HPY : Hid (PairAt (w1.alloc (.cells #[.int .i64 (a : Int), .int .i64 (b : Int)] 3)) w1.heap.size a b) := hide (heap_alloc_new w1 _)
  have HS := hide (swAt_below hs1 hal)
  have HB := hide (hb2.trans (hal.mono hb2.size))
  rw [← hw2, s0, ← hgy, ← HZERO.out] at HO
  rw [← hw2, ← hgy] at HPY
  rw [← hw2] at HS HB
  rw [← hw2, ← hgy]
  have hgyw : w.heap.size + 1 ≤ gy := by rw [hgy]; omega
  clear hw2 hgy hal hu hs1 hb2 hb1 hs0 b0 s0 hsz1 d0 d1 d2 d3
  go_loopw [18] (fun u w' => ∃ i : Nat, i ≤ 2 ∧ u = .int .i64 i ∧ OwnMat w' (w.heap.size + 1) gy (.slice (some ⟨g, 0, none⟩) R cap) (mkM R C (G (2 * i))) ∧ PairAt w' gy a b ∧ SwAt w' w.heap.size s ∧ Below w.heap.size w w') (fun u _ => 2 - (intOf u).toNat)
  case atStart => exact ⟨0, by omega, rfl, HO.out, HPY.out, HS.out, HB.out⟩
  case round =>
    clear HO HPY HS HB
    obtain ⟨i, hi, rfl, ho, hpy, hsw, hbw⟩ := hrel
    have HO := hide ho; have HPY := hide hpy; have HS := hide hsw; have HB := hide hbw
    clear ho hpy hsw hbw
    by_cases hlt : i < 2
    · have hiI : (i : Int) < 2 := by omega
      have hcy := pair_cell HPY.out i hlt
      obtain ⟨d0, d1, d2, d3⟩ := swAt_cells HS.out
      rw [HSW.out] at d0 d1 d2 d3
      have hgy1 := pair_lt HPY.out
      go_wp2
      obtain ⟨w3, hw3⟩ : ∃ w3, w3 = wr.alloc (.cells #[.int .i64 (c : Int), .int .i64 (d : Int)] 3) := ⟨_, rfl⟩
      obtain ⟨gx, hgx⟩ : ∃ gx, gx = wr.heap.size := ⟨_, rfl⟩
      have hal := (Below.refl wr.heap.size wr).alloc (Nat.le_refl _) (.cells #[.int .i64 (c : Int), .int .i64 (d : Int)] 3)
      have HPX : Hid (PairAt (wr.alloc (.cells #[.int .i64 (c : Int), .int .i64 (d : Int)] 3)) wr.heap.size c d) := hide (heap_alloc_new wr _)
      replace HO := hide (ownMat_below HO.out hal); replace HPY := hide (pair_below HPY.out hal); replace HS := hide (swAt_below HS.out hal)
      replace HB := hide (HB.out.trans (hal.mono HB.out.size))
      rw [← hw3, ← hgx] at HPX
      rw [← hw3] at HO HPY HS HB
      rw [← hw3, ← hgx]
      have hgxy : gy < gx := by rw [hgx]; exact hgy1
      clear hw3 hgx hal d0 d1 d2 d3 hcy hgy1
      go_loopw [28] (fun u w' => ∃ j : Nat, j ≤ 2 ∧ u = .int .i64 j ∧ OwnMat w' (w.heap.size + 1) gy (.slice (some ⟨g, 0, none⟩) R cap) (mkM R C (G (2 * i + j))) ∧ PairAt w' gy a b ∧ PairAt w' gx c d ∧ SwAt w' w.heap.size s ∧ Below w.heap.size w w') (fun u _ => 2 - (intOf u).toNat)
      case atStart => exact ⟨0, by omega, rfl, HO.out, HPY.out, HPX.out, HS.out, HB.out⟩
      case round =>
        clear HO HPY HPX HS HB
        obtain ⟨j, hj, rfl, ho, hpy, hpx, hsw, hbw⟩ := hrel
        have HO := hide ho; have HPY := hide hpy; have HPX := hide hpx; have HS := hide hsw; have HB := hide hbw
        clear ho hpy hpx hsw hbw
        by_cases hlj : j < 2
        · have hjI : (j : Int) < 2 := by omega
          have hcx := pair_cell HPX.out j hlj
          have hyR := HPA.out i
          have hxC := HPC.out j
          obtain ⟨g1, k1, q1, hcl, hfr, hg1, hg1h, hset⟩ := ownMat_cell HO.out _ _ hyR hxC
          obtain ⟨g2, o2, k2, q2, hg2, hcc⟩ := HC.out _ hyR
          have q3 := below_cell HB.out hg2 (hcc _ hxC)
          replace q2 := below_cell HB.out hg0 q2
          obtain ⟨z, hz⟩ : ∃ z, z = f (pickN a b i) (pickN c d j) := ⟨_, rfl⟩
          have hz01 : 0 ≤ z ∧ z ≤ 1 := by have := HCELL.out _ _ hyR hxC; omega
          obtain ⟨hz0, hz1⟩ := hz01
          have hwz : IntKind.i64.wrap (1 - z) = 1 - z := IntWalk.i64_in _ (by omega)
          have HST : Hid ((fun y x => if y = pickN a b i ∧ x = pickN c d j then 1 - z else G (2 * i + j) y x) = G (2 * i + (j + 1))) := hide (by
            have := HSTEP.out (2 * i + j)
            rw [show (2 * i + j) / 2 = i by omega, show (2 * i + j) % 2 = j by omega] at this
            rw [← Nat.add_assoc, this]
            funext y x
            by_cases e : y = pickN a b i ∧ x = pickN c d j
            · rw [if_pos e, if_pos e, hz, e.1, e.2]
            · rw [if_neg e, if_neg e])
          rw [← hz] at q3
          have hyI : ((pickN a b i : Nat) : Int) < R := by omega
          have hxI : ((pickN c d j : Nat) : Int) < C := by omega
          obtain ⟨z0, hz0'⟩ : ∃ z0, z0 = G (2 * i + j) (pickN a b i) (pickN c d j) := ⟨_, rfl⟩
          rw [← hz0'] at hcl
          clear hcc hz hz0'
          go_wp2
          obtain ⟨fs, hfs⟩ : ∃ fs : List FactP, fs = [isV (.slice (some ⟨g, 0, none⟩) R cap), isV (.int .i64 ((pickN a b i : Nat) : Int)), isV (.pointer (some ⟨g, pickN a b i, none⟩)), isV (.slice (some ⟨g1, 0, none⟩) C k1), isV (.int .i64 ((pickN c d j : Nat) : Int)), isV (.slice (some ⟨g0, o0, none⟩) R c0), isV (.int .i64 ((pickN a b i : Nat) : Int)), isV (.pointer (some ⟨g0, o0 + pickN a b i, none⟩)), isV (.slice (some ⟨g2, o2, none⟩) C k2), isV (.int .i64 ((pickN c d j : Nat) : Int)), isV (.pointer (some ⟨g2, o2 + pickN c d j, none⟩)), isV (.int .i64 z), isV (.int .i64 (1 - z)), isV (.pointer (some ⟨g1, pickN c d j, none⟩))] := ⟨_, rfl⟩
          have hst : ∀ f ∈ fs, StableP f := by
            rw [hfs]; intro f hf
            simp only [List.mem_cons, List.not_mem_nil, or_false] at hf
            rcases hf with rfl | rfl | rfl | rfl | rfl | rfl | rfl | rfl | rfl | rfl | rfl | rfl | rfl | rfl <;> exact stable_v _
          subst hfs
          refine wp_region_tail (S := fun w2 => w2 = wr.drew) [isV (.slice (some ⟨g, 0, none⟩) R cap), isV (.int .i64 ((pickN a b i : Nat) : Int)), isV (.pointer (some ⟨g, pickN a b i, none⟩)), isV (.slice (some ⟨g1, 0, none⟩) C k1), isV (.int .i64 ((pickN c d j : Nat) : Int)), isV (.slice (some ⟨g0, o0, none⟩) R c0), isV (.int .i64 ((pickN a b i : Nat) : Int)), isV (.pointer (some ⟨g0, o0 + pickN a b i, none⟩)), isV (.slice (some ⟨g2, o2, none⟩) C k2), isV (.int .i64 ((pickN c d j : Nat) : Int)), isV (.pointer (some ⟨g2, o2 + pickN c d j, none⟩)), isV (.int .i64 z), isV (.int .i64 (1 - z)), isV (.pointer (some ⟨g1, pickN c d j, none⟩))] [(0, .slice (some ⟨g0, o0, none⟩) R c0), (5, .slice (some ⟨g, 0, none⟩) R cap), (7, .int .i64 ((pickN a b i : Nat) : Int)), (9, .int .i64 ((pickN c d j : Nat) : Int))] _ _ 14 (by kernel_rfl) rfl rfl (by kernel_rfl) (by kernel_rfl) rfl (by kernel_rfl) ?base rfl ?ob rfl ?fin
          case base =>
            intro t v ht
            simp only [List.lookup_cons, List.lookup_nil] at ht
            repeat' split at ht
            all_goals first | (cases ht; done) | (obtain rfl := Option.some.inj ht; rename_i hh; obtain rfl := eq_of_beq hh; rfl)
          case ob =>
            exact ⟨obt_move (.slice (some ⟨g, 0, none⟩) R cap) rfl rfl rfl (srt_b 5 rfl),
              obt_move (.int .i64 ((pickN a b i : Nat) : Int)) rfl rfl rfl (srt_b 7 rfl),
              obt_two (.pointer (some ⟨g, pickN a b i, none⟩)) rfl rfl (srt_j 0 rfl (by kernel_rfl) rfl) (srt_j 1 rfl (by kernel_rfl) rfl) (fun ρ w2 hS hx hy => by go_simp),
              obt_one (.slice (some ⟨g1, 0, none⟩) C k1) rfl rfl (srt_j 2 rfl (by kernel_rfl) rfl) (fun ρ w2 hS hx => by subst hS; go_simp),
              obt_move (.int .i64 ((pickN c d j : Nat) : Int)) rfl rfl rfl (srt_b 9 rfl),
              obt_move (.slice (some ⟨g0, o0, none⟩) R c0) rfl rfl rfl (srt_b 0 rfl),
              obt_move (.int .i64 ((pickN a b i : Nat) : Int)) rfl rfl rfl (srt_b 7 rfl),
              obt_two (.pointer (some ⟨g0, o0 + pickN a b i, none⟩)) rfl rfl (srt_j 5 rfl (by kernel_rfl) rfl) (srt_j 6 rfl (by kernel_rfl) rfl) (fun ρ w2 hS hx hy => by go_simp),
              obt_one (.slice (some ⟨g2, o2, none⟩) C k2) rfl rfl (srt_j 7 rfl (by kernel_rfl) rfl) (fun ρ w2 hS hx => by subst hS; go_simp),
              obt_move (.int .i64 ((pickN c d j : Nat) : Int)) rfl rfl rfl (srt_b 9 rfl),
              obt_two (.pointer (some ⟨g2, o2 + pickN c d j, none⟩)) rfl rfl (srt_j 8 rfl (by kernel_rfl) rfl) (srt_j 9 rfl (by kernel_rfl) rfl) (fun ρ w2 hS hx hy => by go_simp),
              obt_one (.int .i64 z) rfl rfl (srt_j 10 rfl (by kernel_rfl) rfl) (fun ρ w2 hS hx => by subst hS; go_simp),
              obt_two (.int .i64 (1 - z)) rfl rfl (srt_c (v := .int .i64 1)) (srt_j 11 rfl (by kernel_rfl) rfl) (fun ρ w2 hS hx hy => by go_simp),
              obt_two (.pointer (some ⟨g1, pickN c d j, none⟩)) rfl rfl (srt_j 3 rfl (by kernel_rfl) rfl) (srt_j 4 rfl (by kernel_rfl) rfl) (fun ρ w2 hS hx hy => by go_simp),
              trivial⟩
          case fin =>
            intro a' w' h1 h2 h3 hS h4 K hK
            have ha := frame_ov rfl h1 h2 h3 [(32, .slice (some ⟨g, 0, none⟩) R cap), (33, .int .i64 ((pickN a b i : Nat) : Int)), (34, .pointer (some ⟨g, pickN a b i, none⟩)), (35, .slice (some ⟨g1, 0, none⟩) C k1), (36, .int .i64 ((pickN c d j : Nat) : Int)), (37, .slice (some ⟨g0, o0, none⟩) R c0), (38, .int .i64 ((pickN a b i : Nat) : Int)), (39, .pointer (some ⟨g0, o0 + pickN a b i, none⟩)), (40, .slice (some ⟨g2, o2, none⟩) C k2), (41, .int .i64 ((pickN c d j : Nat) : Int)), (42, .pointer (some ⟨g2, o2 + pickN c d j, none⟩)), (43, .int .i64 z), (44, .int .i64 (1 - z)), (45, .pointer (some ⟨g1, pickN c d j, none⟩))] (by kernel_rfl) ⟨h4 0 32 rfl (by decide), h4 1 33 rfl (by decide), h4 2 34 rfl (by decide), h4 3 35 rfl (by decide), h4 4 36 rfl (by decide), h4 5 37 rfl (by decide), h4 6 38 rfl (by decide), h4 7 39 rfl (by decide), h4 8 40 rfl (by decide), h4 9 41 rfl (by decide), h4 10 42 rfl (by decide), h4 11 43 rfl (by decide), h4 12 44 rfl (by decide), h4 13 45 rfl (by decide), trivial⟩
            dsimp only [ov, List.lookup, Nat.reduceBEq, Nat.reduceAdd] at ha
            have v45 : a'.tmps.getD 45 undef = .pointer (some ⟨g1, pickN c d j, none⟩) := h4 13 45 rfl (by decide)
            have v44 : a'.tmps.getD 44 undef = .int .i64 (1 - z) := h4 12 44 rfl (by decide)
            subst hS
            refine run_skip (exec_storeInt (u := z0) rfl v45 v44 hcl hfr) (hK undef _ ?_)
            show Exit.inBlock _ _ Exit.normal a' _
            have E1 : Hid (OwnMat (wr.drew.setCell ⟨g1, pickN c d j, none⟩ (.int .i64 (1 - z))) (w.heap.size + 1) gy (.slice (some ⟨g, 0, none⟩) R cap) (mkM R C (G (2 * i + (j + 1))))) := hide (by have := hset (1 - z); rw [HST.out] at this; exact this)
            have E2 : Hid (PairAt (wr.drew.setCell ⟨g1, pickN c d j, none⟩ (.int .i64 (1 - z))) gy a b) := hide (pair_set HPY.out _ _ (by simp; omega))
            have E3 : Hid (PairAt (wr.drew.setCell ⟨g1, pickN c d j, none⟩ (.int .i64 (1 - z))) gx c d) := hide (pair_set HPX.out _ _ (by simp; omega))
            have E4 : Hid (SwAt (wr.drew.setCell ⟨g1, pickN c d j, none⟩ (.int .i64 (1 - z))) w.heap.size s) := hide (swAt_set (swAt_below HS.out (below_drew (Below.refl _ _))) _ _ (by simp; omega))
            have E5 : Hid (Below w.heap.size w (wr.drew.setCell ⟨g1, pickN c d j, none⟩ (.int .i64 (1 - z)))) := hide ((below_drew HB.out).setCell (by simp only; omega) _)
            clear v44 v45
            generalize wr.drew.setCell ⟨g1, pickN c d j, none⟩ (.int .i64 (1 - z)) = w9 at E1 E2 E3 E4 E5 ⊢
            rw [ha]
            clear ha h1 h2 h3 h4 hst hK
            go_wp2
            go_roundw
            case rel => exact ⟨j + 1, by omega, by go_num, E1.out, E2.out, E3.out, E4.out, E5.out⟩
            case measure => simp [intOf]; omega
        · obtain rfl : j = 2 := by omega
          go_wp2
          go_roundw
          case rel => exact ⟨i + 1, by omega, by go_num, HO.out, HPY.out, HS.out, HB.out⟩
          case measure => simp [intOf]; omega
    · obtain rfl : i = 2 := by omega
      go_wp2
      go_ret
      exact ⟨_, rfl, ownMat_mono HO.out (Nat.le_succ _) (Nat.le_of_lt (pair_lt HPY.out)), HB.out⟩
theorem specApply_img (v : Value) (R C : Nat) (f : Nat → Nat → Int) (s : Sw) (w : World) (hin : InMat w v (mkM R C f)) (hI : Img R C f) (hs : swF R C f s = true) :
    Calls Try.prog 103 #[v, swV s] w (MatRes (mkM R C (flipF f s)) w) := by
  obtain ⟨a, b, c, d, rfl, h⟩ := swF_iff.1 hs
  obtain ⟨h1, h2, h3, h4, -⟩ := four_iff.1 h
  exact l06Apply_any v R C f a b c d w hin hI (by omega) h3 (by omega) h4
end Go.Proofs.Ytiajdmoppgpgnaa
/-
  SwitchOk of the model.
-/
namespace Go.Proofs.Ytiajdmoppgpgnaa
open Go.RowKit

set_option maxHeartbeats 400000 in
theorem specSwitchOk_no (v : Value) (m : List (List Int)) (s : Sw) (w : World) (hin : InMat w v m) (h : okB m = false) :
    Calls Try.prog 123 #[v, swV s] w fun e w' => e = .returned (.bool false) ∧ Below w.heap.size w w' := by
  have HI := hide hin; have H := hide h
  clear hin h
  go_enter Try.func123, Try.ntmps123
  go_wp2_with (first | (with_reducible refine wpList_boxSw s 3 rfl rfl (.tmp 1) rfl rfl ?_; intro w2 h2 b2 s2; clear s2; obtain ⟨c0, c1, c2, c3⟩ := swAt_cells h2) | ((with_reducible refine (l02In_no v m s.y1 s.x1 _ (inMat_below HI.out b2) H.out).mono ?_); rintro e w' ⟨rfl, rfl⟩))
  go_ret
  exact ⟨rfl, b2⟩
theorem swF_no {R C : Nat} {f : Nat → Nat → Int} {s : Sw} (h : ¬ ((0 ≤ s.y1 ∧ s.y1 < R ∧ 0 ≤ s.x1 ∧ s.x1 < C) ∧ (0 ≤ s.y2 ∧ s.y2 < R ∧ 0 ≤ s.x2 ∧ s.x2 < C) ∧ s.y1 < s.y2 ∧ s.x1 < s.x2)) : swF R C f s = false := by
  rw [Bool.eq_false_iff]
  intro e
  obtain ⟨a, b, c, d, rfl, hf⟩ := swF_iff.1 e
  obtain ⟨h1, h2, h3, h4, -⟩ := four_iff.1 hf
  exact h (by simp only; omega)
set_option maxHeartbeats 400000 in
theorem specSwitchOk_one (v : Value) (R C : Nat) (f : Nat → Nat → Int) (s : Sw) (w : World) (hin : InMat w v (mkM R C f)) (hI : Img R C f) (h1 : ¬ (0 ≤ s.y1 ∧ s.y1 < R ∧ 0 ≤ s.x1 ∧ s.x1 < C)) :
    Calls Try.prog 123 #[v, swV s] w fun e w' => e = .returned (.bool (swF R C f s)) ∧ Below w.heap.size w w' := by
  have HI := hide hin; have H := hide hI
  have H1 := hide (show false = true ↔ _ from ⟨fun e => (by cases e), fun e => absurd e h1⟩)
  have HF := hide (swF_no (R := R) (C := C) (f := f) fun e => h1 e.1)
  clear h1
  clear hin hI
  go_enter Try.func123, Try.ntmps123
  go_wp2_with (first | (with_reducible refine wpList_boxSw s 3 rfl rfl (.tmp 1) rfl rfl ?_; intro w2 h2 b2 s2; clear s2; obtain ⟨c0, c1, c2, c3⟩ := swAt_cells h2) | ((with_reducible refine (l02In_img v R C f s.y1 s.x1 _ (inMat_below HI.out b2) H.out false H1.out).mono ?_); rintro e w' ⟨rfl, rfl⟩))
  go_ret
  exact ⟨ret_bool HF.out.symm, b2⟩
set_option maxHeartbeats 400000 in
theorem specSwitchOk_two (v : Value) (R C : Nat) (f : Nat → Nat → Int) (s : Sw) (w : World) (hin : InMat w v (mkM R C f)) (hI : Img R C f) (h1 : 0 ≤ s.y1 ∧ s.y1 < R ∧ 0 ≤ s.x1 ∧ s.x1 < C) (h2 : ¬ (0 ≤ s.y2 ∧ s.y2 < R ∧ 0 ≤ s.x2 ∧ s.x2 < C)) :
    Calls Try.prog 123 #[v, swV s] w fun e w' => e = .returned (.bool (swF R C f s)) ∧ Below w.heap.size w w' := by
  have HI := hide hin; have H := hide hI
  have H1 := hide h1
  have H2 := hide (show false = true ↔ _ from ⟨fun e => (by cases e), fun e => absurd e h2⟩)
  have HF := hide (swF_no (R := R) (C := C) (f := f) fun e => h2 e.2.1)
  clear h1 h2
  clear hin hI
  go_enter Try.func123, Try.ntmps123
  go_wp2_with (first | (with_reducible refine wpList_boxSw s 3 rfl rfl (.tmp 1) rfl rfl ?_; intro w2 h2 b2 s2; clear s2; obtain ⟨c0, c1, c2, c3⟩ := swAt_cells h2) | ((with_reducible refine (l02In_img v R C f s.y1 s.x1 _ (inMat_below HI.out b2) H.out true ⟨fun _ => H1.out, fun _ => rfl⟩).mono ?_); rintro e w' ⟨rfl, rfl⟩) | ((with_reducible refine (l02In_img v R C f s.y2 s.x2 _ (inMat_below HI.out b2) H.out false H2.out).mono ?_); rintro e w' ⟨rfl, rfl⟩))
  go_ret
  exact ⟨ret_bool HF.out.symm, b2⟩
set_option maxHeartbeats 400000 in
theorem specSwitchOk_three (v : Value) (R C : Nat) (f : Nat → Nat → Int) (s : Sw) (w : World) (hin : InMat w v (mkM R C f)) (hI : Img R C f) (h1 : 0 ≤ s.y1 ∧ s.y1 < R ∧ 0 ≤ s.x1 ∧ s.x1 < C) (h2 : 0 ≤ s.y2 ∧ s.y2 < R ∧ 0 ≤ s.x2 ∧ s.x2 < C) (h3 : ¬ s.y1 < s.y2) :
    Calls Try.prog 123 #[v, swV s] w fun e w' => e = .returned (.bool (swF R C f s)) ∧ Below w.heap.size w w' := by
  have HI := hide hin; have H := hide hI
  have H1 := hide h1
  have H2 := hide h2
  have HF := hide (swF_no (R := R) (C := C) (f := f) fun e => h3 e.2.2.1)
  clear h1 h2
  clear hin hI
  go_enter Try.func123, Try.ntmps123
  go_wp2_with (first | (with_reducible refine wpList_boxSw s 3 rfl rfl (.tmp 1) rfl rfl ?_; intro w2 h2 b2 s2; clear s2; obtain ⟨c0, c1, c2, c3⟩ := swAt_cells h2) | ((with_reducible refine (l02In_img v R C f s.y1 s.x1 _ (inMat_below HI.out b2) H.out true ⟨fun _ => H1.out, fun _ => rfl⟩).mono ?_); rintro e w' ⟨rfl, rfl⟩) | ((with_reducible refine (l02In_img v R C f s.y2 s.x2 _ (inMat_below HI.out b2) H.out true ⟨fun _ => H2.out, fun _ => rfl⟩).mono ?_); rintro e w' ⟨rfl, rfl⟩))
  all_goals first
    | (exfalso; omega)
    | (go_ret; exact ⟨ret_bool HF.out.symm, b2⟩)
set_option maxHeartbeats 400000 in
theorem specSwitchOk_four (v : Value) (R C : Nat) (f : Nat → Nat → Int) (s : Sw) (w : World) (hin : InMat w v (mkM R C f)) (hI : Img R C f) (h1 : 0 ≤ s.y1 ∧ s.y1 < R ∧ 0 ≤ s.x1 ∧ s.x1 < C) (h2 : 0 ≤ s.y2 ∧ s.y2 < R ∧ 0 ≤ s.x2 ∧ s.x2 < C) (h3 : s.y1 < s.y2) (h4 : ¬ s.x1 < s.x2) :
    Calls Try.prog 123 #[v, swV s] w fun e w' => e = .returned (.bool (swF R C f s)) ∧ Below w.heap.size w w' := by
  have HI := hide hin; have H := hide hI
  have H1 := hide h1
  have H2 := hide h2
  have HF := hide (swF_no (R := R) (C := C) (f := f) fun e => h4 e.2.2.2)
  clear h1 h2
  clear hin hI
  go_enter Try.func123, Try.ntmps123
  go_wp2_with (first | (with_reducible refine wpList_boxSw s 3 rfl rfl (.tmp 1) rfl rfl ?_; intro w2 h2 b2 s2; clear s2; obtain ⟨c0, c1, c2, c3⟩ := swAt_cells h2) | ((with_reducible refine (l02In_img v R C f s.y1 s.x1 _ (inMat_below HI.out b2) H.out true ⟨fun _ => H1.out, fun _ => rfl⟩).mono ?_); rintro e w' ⟨rfl, rfl⟩) | ((with_reducible refine (l02In_img v R C f s.y2 s.x2 _ (inMat_below HI.out b2) H.out true ⟨fun _ => H2.out, fun _ => rfl⟩).mono ?_); rintro e w' ⟨rfl, rfl⟩))
  all_goals first
    | (exfalso; omega)
    | (go_ret; exact ⟨ret_bool HF.out.symm, b2⟩)
set_option maxHeartbeats 2000000 in
theorem specSwitchOk_five (v : Value) (R C : Nat) (f : Nat → Nat → Int) (a b c d : Nat) (w : World) (hin : InMat w v (mkM R C f)) (hI : Img R C f) (hab : a < b) (hcd : c < d) (hb : b < R) (hd : d < C) :
    Calls Try.prog 123 #[v, swV ⟨a, b, c, d⟩] w fun e w' => e = .returned (.bool (swF R C f ⟨a, b, c, d⟩)) ∧ Below w.heap.size w w' := by
  have HI := hide hin; have H := hide hI
  have H1 := hide (show 0 ≤ (a : Int) ∧ (a : Int) < R ∧ 0 ≤ (c : Int) ∧ (c : Int) < C by omega)
  have H2 := hide (show 0 ≤ (b : Int) ∧ (b : Int) < R ∧ 0 ≤ (d : Int) ∧ (d : Int) < C by omega)
  have hfa := hI.cell a c (by omega) (by omega)
  have HF : Hid (swF R C f ⟨a, b, c, d⟩ = (decide (f b d = f a c) && decide (f a d = 1 - f a c) && decide (f b c = 1 - f a c))) := hide (by
    unfold swF four
    simp only [Int.toNat_natCast]
    rw [decide_eq_true hab, decide_eq_true hcd, decide_eq_true hb, decide_eq_true hd, decide_eq_true (show (0 : Int) ≤ a by omega), decide_eq_true (show (0 : Int) ≤ c by omega), decide_eq_true (show (a : Int) < b by omega), decide_eq_true (show (c : Int) < d by omega)]
    simp only [Bool.true_and])
  rw [HF.out]
  obtain ⟨g, o, cap, rfl, hg, hcell⟩ := inMat_img hin (by omega) (by omega)
  obtain ⟨g1, o1, k1, hx1, hg1, hc1⟩ := hcell a (by omega)
  obtain ⟨g2, o2, k2, hx2, hg2, hc2⟩ := hcell b (by omega)
  have r1 := hc1 c (by omega); have r2 := hc1 d (by omega); have r3 := hc2 c (by omega); have r4 := hc2 d (by omega)
  obtain ⟨A, hA⟩ : ∃ A, A = f a c := ⟨_, rfl⟩
  obtain ⟨B, hB⟩ : ∃ B, B = f a d := ⟨_, rfl⟩
  obtain ⟨E, hE⟩ : ∃ E, E = f b c := ⟨_, rfl⟩
  obtain ⟨D, hD⟩ : ∃ D, D = f b d := ⟨_, rfl⟩
  rw [← hA] at r1 hfa ⊢; rw [← hB] at r2 ⊢; rw [← hE] at r3 ⊢; rw [← hD] at r4 ⊢
  have hw1 : IntKind.i64.wrap (1 - A) = 1 - A := IntWalk.i64_in _ (by omega)
  have hA0 : 0 ≤ A := by omega
  have hA1 : A ≤ 1 := by omega
  have haR : (a : Int) < R := by omega
  have hbR : (b : Int) < R := by omega
  have hcC : (c : Int) < C := by omega
  have hdC : (d : Int) < C := by omega
  have habI : (a : Int) < b := by omega
  have hcdI : (c : Int) < d := by omega
  have hle : ¬ (b : Int) ≤ a := by omega
  clear hin hI hcell hc1 hc2 hA hB hE hD hfa HF
  by_cases e1 : D = A
  · subst e1
    have k1 : (D == D) = true := beq_iff_eq.2 rfl
    by_cases e2 : B = 1 - D
    · subst e2
      have k2 : (1 - D == 1 - D) = true := beq_iff_eq.2 rfl
      by_cases e3 : E = 1 - D
      · subst e3
        go_enter Try.func123, Try.ntmps123
        go_wp2_with (first | (with_reducible refine wpList_boxSw ⟨a, b, c, d⟩ 3 rfl rfl (.tmp 1) rfl rfl ?_; intro w2 h2 b2 s2; clear s2; obtain ⟨c0, c1, c2, c3⟩ := swAt_cells h2; replace hx1 := below_cell b2 hg hx1; replace hx2 := below_cell b2 hg hx2; replace r1 := below_cell b2 hg1 r1; replace r2 := below_cell b2 hg1 r2; replace r3 := below_cell b2 hg2 r3; replace r4 := below_cell b2 hg2 r4) | ((with_reducible refine (l02In_img _ R C f a c _ (inMat_below HI.out b2) H.out true ⟨fun _ => H1.out, fun _ => rfl⟩).mono ?_); rintro e w' ⟨rfl, rfl⟩) | ((with_reducible refine (l02In_img _ R C f b d _ (inMat_below HI.out b2) H.out true ⟨fun _ => H2.out, fun _ => rfl⟩).mono ?_); rintro e w' ⟨rfl, rfl⟩))
        go_quiet (fail)
        go_wp2
        go_quiet (fail)
        go_wp2
        go_ret
        exact ⟨ret_bool (by rw [Bool.eq_iff_iff]; simp), below_draws (below_draws b2 _) _⟩
      · have k3 : (E == 1 - D) = false := beq_eq_false_iff_ne.2 e3
        have E3 := hide e3
        clear e3
        go_enter Try.func123, Try.ntmps123
        go_wp2_with (first | (with_reducible refine wpList_boxSw ⟨a, b, c, d⟩ 3 rfl rfl (.tmp 1) rfl rfl ?_; intro w2 h2 b2 s2; clear s2; obtain ⟨c0, c1, c2, c3⟩ := swAt_cells h2; replace hx1 := below_cell b2 hg hx1; replace hx2 := below_cell b2 hg hx2; replace r1 := below_cell b2 hg1 r1; replace r2 := below_cell b2 hg1 r2; replace r3 := below_cell b2 hg2 r3; replace r4 := below_cell b2 hg2 r4) | ((with_reducible refine (l02In_img _ R C f a c _ (inMat_below HI.out b2) H.out true ⟨fun _ => H1.out, fun _ => rfl⟩).mono ?_); rintro e w' ⟨rfl, rfl⟩) | ((with_reducible refine (l02In_img _ R C f b d _ (inMat_below HI.out b2) H.out true ⟨fun _ => H2.out, fun _ => rfl⟩).mono ?_); rintro e w' ⟨rfl, rfl⟩))
        go_quiet (fail)
        go_wp2
        go_quiet (fail)
        go_wp2
        go_ret
        exact ⟨ret_bool (by rw [Bool.eq_iff_iff]; simp [E3.out]), below_draws (below_draws b2 _) _⟩
    · have k2 : (B == 1 - D) = false := beq_eq_false_iff_ne.2 e2
      have E2 := hide e2
      clear e2
      go_enter Try.func123, Try.ntmps123
      go_wp2_with (first | (with_reducible refine wpList_boxSw ⟨a, b, c, d⟩ 3 rfl rfl (.tmp 1) rfl rfl ?_; intro w2 h2 b2 s2; clear s2; obtain ⟨c0, c1, c2, c3⟩ := swAt_cells h2; replace hx1 := below_cell b2 hg hx1; replace hx2 := below_cell b2 hg hx2; replace r1 := below_cell b2 hg1 r1; replace r2 := below_cell b2 hg1 r2; replace r3 := below_cell b2 hg2 r3; replace r4 := below_cell b2 hg2 r4) | ((with_reducible refine (l02In_img _ R C f a c _ (inMat_below HI.out b2) H.out true ⟨fun _ => H1.out, fun _ => rfl⟩).mono ?_); rintro e w' ⟨rfl, rfl⟩) | ((with_reducible refine (l02In_img _ R C f b d _ (inMat_below HI.out b2) H.out true ⟨fun _ => H2.out, fun _ => rfl⟩).mono ?_); rintro e w' ⟨rfl, rfl⟩))
      go_quiet (fail)
      go_wp2
      go_quiet (fail)
      go_wp2
      go_ret
      exact ⟨ret_bool (by rw [Bool.eq_iff_iff]; simp [E2.out]), below_draws (below_draws b2 _) _⟩
  · have k1 : (D == A) = false := beq_eq_false_iff_ne.2 e1
    have E1 := hide e1
    clear e1
    go_enter Try.func123, Try.ntmps123
    go_wp2_with (first | (with_reducible refine wpList_boxSw ⟨a, b, c, d⟩ 3 rfl rfl (.tmp 1) rfl rfl ?_; intro w2 h2 b2 s2; clear s2; obtain ⟨c0, c1, c2, c3⟩ := swAt_cells h2; replace hx1 := below_cell b2 hg hx1; replace hx2 := below_cell b2 hg hx2; replace r1 := below_cell b2 hg1 r1; replace r2 := below_cell b2 hg1 r2; replace r3 := below_cell b2 hg2 r3; replace r4 := below_cell b2 hg2 r4) | ((with_reducible refine (l02In_img _ R C f a c _ (inMat_below HI.out b2) H.out true ⟨fun _ => H1.out, fun _ => rfl⟩).mono ?_); rintro e w' ⟨rfl, rfl⟩) | ((with_reducible refine (l02In_img _ R C f b d _ (inMat_below HI.out b2) H.out true ⟨fun _ => H2.out, fun _ => rfl⟩).mono ?_); rintro e w' ⟨rfl, rfl⟩))
    go_quiet (fail)
    go_wp2
    go_quiet (fail)
    go_wp2
    go_ret
    exact ⟨ret_bool (by rw [Bool.eq_iff_iff]; simp [E1.out]), below_draws (below_draws b2 _) _⟩
theorem specSwitchOk_img (v : Value) (R C : Nat) (f : Nat → Nat → Int) (s : Sw) (w : World) (hin : InMat w v (mkM R C f)) (hI : Img R C f) :
    Calls Try.prog 123 #[v, swV s] w fun e w' => e = .returned (.bool (swF R C f s)) ∧ Below w.heap.size w w' := by
  by_cases h1 : 0 ≤ s.y1 ∧ s.y1 < R ∧ 0 ≤ s.x1 ∧ s.x1 < C
  · by_cases h2 : 0 ≤ s.y2 ∧ s.y2 < R ∧ 0 ≤ s.x2 ∧ s.x2 < C
    · by_cases h3 : s.y1 < s.y2
      · by_cases h4 : s.x1 < s.x2
        · obtain ⟨y1, y2, x1, x2⟩ := s
          simp only at h1 h2 h3 h4
          obtain ⟨a, rfl⟩ : ∃ a : Nat, y1 = a := ⟨y1.toNat, by omega⟩
          obtain ⟨b, rfl⟩ : ∃ b : Nat, y2 = b := ⟨y2.toNat, by omega⟩
          obtain ⟨c, rfl⟩ : ∃ c : Nat, x1 = c := ⟨x1.toNat, by omega⟩
          obtain ⟨d, rfl⟩ : ∃ d : Nat, x2 = d := ⟨x2.toNat, by omega⟩
          exact specSwitchOk_five v R C f a b c d w hin hI (by omega) (by omega) (by omega) (by omega)
        · exact specSwitchOk_four v R C f s w hin hI h1 h2 h3 h4
      · exact specSwitchOk_three v R C f s w hin hI h1 h2 h3
    · exact specSwitchOk_two v R C f s w hin hI h1 h2
  · exact specSwitchOk_one v R C f s w hin hI h1
end Go.Proofs.Ytiajdmoppgpgnaa
