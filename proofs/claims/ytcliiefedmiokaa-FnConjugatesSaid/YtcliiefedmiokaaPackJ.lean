/-
  Texts of this claim, one behind the other: SwH, ReachS, Seq, ShSort, SortF, Bound.
-/
import Derived.Test.YtcliiefedmiokaaPackI
import Derived.Test.YtcliiefedmiokaaPackA
import Derived.Test.YtcliiefedmiokaaPackD
import Derived.Test.YtcliiefedmiokaaPackC
import Derived.Test.YtcliiefedmiokaaPackE
import Derived.RangeFuncBox
import Derived.RangeFuncLeaves
import Derived.Shelf.Abstract
import Derived.OwnWalkIn
import Derived.TacticsInMore
import Derived.LoopNIn
import Derived.LoopIn
import Derived.Maps.AppendAt
import Derived.Shelf.SlSortCmp.NoneTotal
import Derived.Test.YtcliiefedmiokaaProg
/-
  The exact laws' helpers at switches: toSwitch, toSwitchS, szSwitchS, markSwitchS, heldSwitchS.
-/
namespace Go.Proofs.Ytcliiefedmiokaa
open Go.RowKit

def set4 (xs : List Value) (k : Nat) (s : Sw) : List Value := (((xs.set k (.int .i64 s.y1)).set (k + 1) (.int .i64 s.y2)).set (k + 2) (.int .i64 s.x1)).set (k + 3) (.int .i64 s.x2)
theorem set4_len (xs : List Value) (k : Nat) (s : Sw) : (set4 xs k s).length = xs.length := by simp [set4]
theorem set4_fill {l : List Sw} {xs : List Value} {k : Nat} (h : xs.length = l.length * 4) (hk : k < l.length) : set4 (cellsS (l.take k) ++ xs.drop (k * 4)) (k * 4) l[k] = cellsS (l.take (k + 1)) ++ xs.drop ((k + 1) * 4) := by
  have hl : (cellsS (l.take k)).length = k * 4 := by rw [cellsS_len, List.length_take]; omega
  obtain ⟨a, b, c, d, r, hr⟩ : ∃ a b c d r, xs.drop (k * 4) = a :: b :: c :: d :: r := by
    have : 4 ≤ (xs.drop (k * 4)).length := by rw [List.length_drop]; omega
    match hx : xs.drop (k * 4), this with
    | a :: b :: c :: d :: r, _ => exact ⟨a, b, c, d, r, rfl⟩
  have hd : xs.drop ((k + 1) * 4) = r := by
    rw [show (k + 1) * 4 = k * 4 + 4 by omega, ← List.drop_drop, hr]; rfl
  rw [hd, hr, List.take_succ_eq_append_getElem hk, cellsS_snoc]
  unfold set4
  rw [List.set_append_right _ _ (by omega), List.set_append_right _ _ (by omega), List.set_append_right _ _ (by omega), List.set_append_right _ _ (by omega), hl]
  rw [show k * 4 - k * 4 = 0 by omega, show k * 4 + 1 - k * 4 = 1 by omega, show k * 4 + 2 - k * 4 = 2 by omega, show k * 4 + 3 - k * 4 = 3 by omega]
  simp [swA]
/-- A switch is stored in a slice of the call's own. -/
theorem exec_storeSwOwn {ρ : Operand → Value} {o : Oper} {w : World} {x y : Operand} {base e g n c i : Nat} {xs : List Value} {s : Sw} (ho : o.op = .store 45 x y) (hx : ρ x = .pointer (some ⟨g, i * 4, none⟩)) (hy : ρ y = swV s)
    (h : w.ownsRow base e 4 (.slice (some ⟨g, 0, none⟩) n c) n xs) (hi : i < n) : ∃ w', (execOp ρ o).run Try.prog w = .ok .skip w' ∧ w'.ownsRow base e 4 (.slice (some ⟨g, 0, none⟩) n c) n (set4 xs (i * 4) s) ∧ w.grownBy w' (some g) := by
  have hl := h.1
  have hc : ∀ j, j < n * 4 → ∃ u, w.cell? ⟨g, j, none⟩ = some u := fun j hj => ⟨xs[j], by rw [h.cellAt j hj, List.getElem?_eq_getElem (by omega)]⟩
  obtain ⟨u0, h0⟩ := hc (i * 4) (by omega); obtain ⟨u1, h1⟩ := hc (i * 4 + 1) (by omega); obtain ⟨u2, h2⟩ := hc (i * 4 + 2) (by omega); obtain ⟨u3, h3⟩ := hc (i * 4 + 3) (by omega)
  have f0 := h.frozenAt (i * 4); have f1 := h.frozenAt (i * 4 + 1); have f2 := h.frozenAt (i * 4 + 2); have f3 := h.frozenAt (i * 4 + 3)
  obtain ⟨a1, b1⟩ := h.stored (i * 4) (.int .i64 s.y1)
  obtain ⟨a2, b2⟩ := a1.stored (i * 4 + 1) (.int .i64 s.y2)
  obtain ⟨a3, b3⟩ := a2.stored (i * 4 + 2) (.int .i64 s.x1)
  obtain ⟨a4, b4⟩ := a3.stored (i * 4 + 3) (.int .i64 s.x2)
  refine ⟨_, ?_, a4, grown_trans (grown_trans (grown_trans b1 b2) b3) b4⟩
  unfold execOp
  simp only [ho, hx, hy, swV, swA]
  go_simp
theorem wpList_storeSwOwn {ops : Array Oper} {rest : List Oper} {o : Oper} {a : Act} {Q : Exit → Act → World → Prop} {W : World} {base e g n c i : Nat} {xs : List Value} {s : Sw} (h : W.ownsRow base e 4 (.slice (some ⟨g, 0, none⟩) n c) n xs) (hi : i < n)
    (hgd : o.guard = none) (x y : Operand) (ho : o.op = .store 45 x y) (hx : a.eval x = .pointer (some ⟨g, i * 4, none⟩)) (hy : a.eval y = swV s)
    (hK : ∀ w', w'.ownsRow base e 4 (.slice (some ⟨g, 0, none⟩) n c) n (set4 xs (i * 4) s) → W.grownBy w' (some g) → wpList Try.prog ops Q rest (a.put o.dst undef) w') : wpList Try.prog ops Q (o :: rest) a W := by
  refine wpList_plain hgd fun K hk => ?_
  obtain ⟨w', h1, h2, h3⟩ := exec_storeSwOwn (ρ := a.eval) ho hx hy h hi
  unfold Oper.wp
  rw [h1]
  exact hk _ _ (hK w' h2 h3)

def SizeS (n left : Nat) (w : World) (e : Ending) (w' : World) : Prop := ∃ r : Int, e = .returned (.int .i64 r) ∧ ((r = -1) ∨ (n ≤ left ∧ r = (left - n : Nat))) ∧ w = w'
/-- The cells are marked one after the other. -/
theorem mark_cell (q j m : Nat) (xs : List Value) (hl : xs.length = m) (hj : j < m) : (ints (markR j q) ++ xs.drop j).set j (.int .i64 ((q + j : Nat) : Int)) = ints (markR (j + 1) q) ++ xs.drop (j + 1) := markR_set m q j xs hl hj
set_option maxRecDepth 100000 in
set_option maxHeartbeats 2000000 in
theorem markSwitchS_any (n q : Nat) (v : Value) (xs : List Value) (base : Nat) (w : World) (hn : n ≤ 1100000) (hq : q ≤ 2000000) (ho : w.ownsRow base 45 4 v n xs) :
    Calls Try.prog 39 #[v, .int .i64 q] w fun e w' => e = .returned (.int .i64 ((q + n * 4 : Nat) : Int)) ∧ w'.ownsRow base 45 4 v n (ints (markR (n * 4) q)) ∧ w.grownBy w' v.ownBlock := by
  have HXL := hide ho.1
  by_cases h0 : n = 0
  · subst h0
    obtain ⟨a, c, rfl⟩ := ownA_slice ho
    have HO : Hid (w.ownsRow base 45 4 (.slice a 0 c) 0 (ints (markR (0 * 4) q))) := hide (by
      have hx : xs = [] := List.eq_nil_of_length_eq_zero (by rw [HXL.out])
      rw [hx] at ho; exact ho)
    clear ho HXL
    go_enter Try.func39, Try.ntmps39
    go_wp2
    go_loop [1, 5] (fun s i => i = .int .i64 0 ∧ s = .int .i64 q) (fun _ _ => 0)
    case atStart => exact ⟨rfl, rfl⟩
    case round =>
      obtain ⟨rfl, rfl⟩ := hrel
      go_wp2
      go_ret
      exact ⟨rfl, HO.out, grown_of_below (Below.refl _ _) _⟩
  · obtain ⟨g, c, rfl, -⟩ := ownA_some ho (by omega)
    have HO : Hid (w.ownsRow base 45 4 (.slice (some ⟨g, 0, none⟩) n c) n (ints (markR (0 * 4) q) ++ xs.drop (0 * 4))) := hide (by simpa [markR, ints] using ho)
    clear ho h0
    go_enter Try.func39, Try.ntmps39
    go_wp2
    go_loopw [1, 5] (fun u i w' => ∃ k : Nat, k ≤ n ∧ i = .int .i64 k ∧ u = .int .i64 ((q + k * 4 : Nat) : Int) ∧ w'.ownsRow base 45 4 (.slice (some ⟨g, 0, none⟩) n c) n (ints (markR (k * 4) q) ++ xs.drop (k * 4)) ∧ w.grownBy w' (some g)) (fun _ i _ => n - (intOf i).toNat)
    case atStart => exact ⟨0, Nat.zero_le _, rfl, by simp, HO.out, grown_of_below (Below.refl _ _) _⟩
    case round =>
      clear HO
      obtain ⟨k, hk, rfl, rfl, ho, hg⟩ := hrel
      have HO := hide ho; have HG := hide hg
      by_cases hlt : k < n
      · have hltI : (k : Int) < n := by omega
        obtain ⟨p, hp⟩ : ∃ p, p = q + k * 4 := ⟨_, rfl⟩
        have hpb : p ≤ 10000000 := by omega
        have hlx := HXL.out
        obtain ⟨u0, h0⟩ : ∃ u, wr.cell? ⟨g, k * 4, none⟩ = some u := ⟨_, by rw [ho.cellAt _ (by omega), List.getElem?_eq_getElem (by have := ho.1; omega)]⟩
        obtain ⟨u1, h1⟩ : ∃ u, wr.cell? ⟨g, k * 4 + 1, none⟩ = some u := ⟨_, by rw [ho.cellAt _ (by omega), List.getElem?_eq_getElem (by have := ho.1; omega)]⟩
        obtain ⟨u2, h2⟩ : ∃ u, wr.cell? ⟨g, k * 4 + 2, none⟩ = some u := ⟨_, by rw [ho.cellAt _ (by omega), List.getElem?_eq_getElem (by have := ho.1; omega)]⟩
        obtain ⟨u3, h3⟩ : ∃ u, wr.cell? ⟨g, k * 4 + 3, none⟩ = some u := ⟨_, by rw [ho.cellAt _ (by omega), List.getElem?_eq_getElem (by have := ho.1; omega)]⟩
        have f0 := ho.frozenAt (k * 4); have f1 := ho.frozenAt (k * 4 + 1); have f2 := ho.frozenAt (k * 4 + 2); have f3 := ho.frozenAt (k * 4 + 3)
        obtain ⟨a1, b1⟩ := ho.stored (k * 4) (.int .i64 (p : Int))
        obtain ⟨a2, b2⟩ := a1.stored (k * 4 + 1) (.int .i64 ((p : Int) + 1))
        obtain ⟨a3, b3⟩ := a2.stored (k * 4 + 2) (.int .i64 ((p : Int) + 1 + 1))
        obtain ⟨a4, b4⟩ := a3.stored (k * 4 + 3) (.int .i64 ((p : Int) + 1 + 1 + 1))
        have HA := hide a4
        have HGG := hide (grown_trans hg (grown_trans (grown_trans (grown_trans b1 b2) b3) b4))
        have HE : Hid (((((ints (markR (k * 4) q) ++ xs.drop (k * 4)).set (k * 4) (.int .i64 (p : Int))).set (k * 4 + 1) (.int .i64 ((p : Int) + 1))).set (k * 4 + 2) (.int .i64 ((p : Int) + 1 + 1))).set (k * 4 + 3) (.int .i64 ((p : Int) + 1 + 1 + 1)) = ints (markR ((k + 1) * 4) q) ++ xs.drop ((k + 1) * 4)) := hide (by
          have e0 := mark_cell q (k * 4) (n * 4) xs hlx (by omega)
          have e1 := mark_cell q (k * 4 + 1) (n * 4) xs hlx (by omega)
          have e2 := mark_cell q (k * 4 + 2) (n * 4) xs hlx (by omega)
          have e3 := mark_cell q (k * 4 + 3) (n * 4) xs hlx (by omega)
          rw [show (p : Int) = ((q + k * 4 : Nat) : Int) by rw [hp], show ((q + k * 4 : Nat) : Int) + 1 = ((q + (k * 4 + 1) : Nat) : Int) by omega, show ((q + (k * 4 + 1) : Nat) : Int) + 1 = ((q + (k * 4 + 2) : Nat) : Int) by omega, show ((q + (k * 4 + 2) : Nat) : Int) + 1 = ((q + (k * 4 + 3) : Nat) : Int) by omega]
          rw [e0, e1, e2, e3, show (k + 1) * 4 = k * 4 + 3 + 1 by omega])
        have HP := hide hp
        rw [← hp]
        clear ho hg a1 a2 a3 a4 b1 b2 b3 b4 hp hlx
        go_wp2
        go_roundw
        case rel => exact ⟨k + 1, by omega, by go_num, by rw [HP.out]; go_num, by rw [← HE.out]; exact HA.out, HGG.out⟩
        case measure => simp [intOf]; omega
      · obtain rfl : k = n := by omega
        have HE : Hid (ints (markR (k * 4) q) ++ xs.drop (k * 4) = ints (markR (k * 4) q)) := hide (by rw [List.drop_eq_nil_of_le (by rw [HXL.out]; exact Nat.le_refl _), List.append_nil])
        go_wp2
        go_ret
        exact ⟨rfl, by rw [← HE.out]; exact HO.out, HG.out⟩
/-- A slice of n elements of four cells, each one greater than the one before. -/
def HeldC (w : World) (v : Value) (n q : Nat) : Prop := ∃ a c, v = .slice a n c ∧ n ≤ maxLen ∧ (n = 0 ∨ ∃ g o, a = some ⟨g, o, none⟩ ∧ g < w.heap.size ∧ ∀ j, j < n * 4 → w.cell? ⟨g, o + j, none⟩ = some (.int .i64 ((q + j : Nat) : Int)))
theorem heldC_below {w w' : World} {v : Value} {n q : Nat} (h : HeldC w v n q) (hb : Below w.heap.size w w') : HeldC w' v n q := by
  obtain ⟨a, c, hv, hm, hp⟩ := h
  refine ⟨a, c, hv, hm, ?_⟩
  rcases hp with h0 | ⟨g, o, ha, hg, hc⟩
  · exact .inl h0
  · exact .inr ⟨g, o, ha, Nat.lt_of_lt_of_le hg hb.size, fun j hj => below_cell hb hg (hc j hj)⟩
theorem heldC_own {w : World} {base e n q : Nat} {v : Value} (h : w.ownsRow base e 4 v n (ints (markR (n * 4) q))) : HeldC w v n q := by
  rcases h.2 with ⟨rfl, h0⟩ | ⟨g, cap, cur, rfl, hbg, hg, hc, hm, _⟩
  · exact ⟨none, 0, by rw [h0], by omega, .inl h0⟩
  · refine ⟨_, _, rfl, by omega, .inr ⟨g, 0, rfl, (Array.getElem?_eq_some_iff.1 hg).1, fun j hj => ?_⟩⟩
    rw [Nat.zero_add, h.cellAt j hj, ints_at _ j (by rw [markR_len]; exact hj), markR_at]
set_option maxRecDepth 100000 in
set_option maxHeartbeats 2000000 in
theorem heldSwitchS_any (n q : Nat) (v : Value) (w : World) (hn : n ≤ 1100000) (hq : q ≤ 2000000) (hv : HeldC w v n q) :
    Calls Try.prog 40 #[v, .int .i64 q] w fun e w' => e = .returned (.int .i64 ((q + n * 4 : Nat) : Int)) ∧ w = w' := by
  obtain ⟨a, c, rfl, hm, hp⟩ := hv
  unfold maxLen at hm
  have HP := hide hp
  clear hp
  go_enter Try.func40, Try.ntmps40
  go_wp2
  go_loop [1, 5] (fun u i => ∃ k : Nat, k ≤ n ∧ i = .int .i64 k ∧ u = .int .i64 ((q + k * 4 : Nat) : Int)) (fun _ i => n - (intOf i).toNat)
  case atStart => exact ⟨0, Nat.zero_le _, rfl, by simp⟩
  case round =>
    obtain ⟨k, hk, rfl, rfl⟩ := hrel
    by_cases hlt : k < n
    · have hltI : (k : Int) < n := by omega
      obtain ⟨g, o, rfl, hg, hcl⟩ := HP.out.resolve_left (by omega)
      obtain ⟨p, hp⟩ : ∃ p, p = q + k * 4 := ⟨_, rfl⟩
      have hpb : p ≤ 10000000 := by omega
      have h0 : w.cell? ⟨g, o + k * 4, none⟩ = some (.int .i64 (p : Int)) := by rw [hcl (k * 4) (by omega), hp]
      have h1 : w.cell? ⟨g, o + k * 4 + 1, none⟩ = some (.int .i64 ((p : Int) + 1)) := by rw [Nat.add_assoc, hcl (k * 4 + 1) (by omega), hp]; congr 2
      have h2 : w.cell? ⟨g, o + k * 4 + 2, none⟩ = some (.int .i64 ((p : Int) + 1 + 1)) := by rw [Nat.add_assoc, hcl (k * 4 + 2) (by omega), hp]; congr 2
      have h3 : w.cell? ⟨g, o + k * 4 + 3, none⟩ = some (.int .i64 ((p : Int) + 1 + 1 + 1)) := by rw [Nat.add_assoc, hcl (k * 4 + 3) (by omega), hp]; congr 2
      have HPP := hide hp
      rw [← hp]
      clear hp hcl
      go_wp2
      go_round
      case rel => exact ⟨k + 1, by omega, by go_num, by rw [HPP.out]; go_num⟩
      case measure => simp [intOf]; omega
    · obtain rfl : k = n := by omega
      go_wp2
      go_ret
      exact ⟨rfl, rfl⟩
end Go.Proofs.Ytcliiefedmiokaa
/-
  l07Reach of the model: a search in the alternating graph.
-/
namespace Go.Proofs.Ytcliiefedmiokaa
open Go.RowKit
set_option maxRecDepth 100000

theorem Try.infoBool : (Try.prog.info? 4).map (fun i => (i.zero, i.size, i.bytes)) = some (some (.bool false), 1, 1) := by kernel_rfl
/-- Bools by number. -/
def bools (n : Nat) (b : Nat → Bool) : List Value := (List.range n).map fun i => .bool (b i)
theorem bools_len (n : Nat) (b : Nat → Bool) : (bools n b).length = n := by simp [bools]
theorem bools_at {n : Nat} {b : Nat → Bool} {i : Nat} (h : i < n) : (bools n b)[i]? = some (.bool (b i)) := by simp [bools, h]
theorem bools_none (n : Nat) : List.replicate n (Value.bool false) = bools n fun _ => false := by
  refine List.ext_getElem? fun i => ?_
  by_cases h : i < n
  · rw [bools_at h]; simp [h]
  · simp [bools, h]
theorem bools_set {n : Nat} (b : Nat → Bool) (k : Nat) (z : Bool) : (bools n b).set k (.bool z) = bools n fun i => if i = k then z else b i := by
  refine List.ext_getElem? fun i => ?_
  rw [List.getElem?_set]
  by_cases h : i < n
  · rw [bools_at (b := fun i => if i = k then z else b i) h, bools_len]
    by_cases e : k = i
    · subst e; simp [h]
    · rw [if_neg e, bools_at h, if_neg (Ne.symm e)]
  · have h1 : (bools n fun i => if i = k then z else b i)[i]? = none := by simp [bools, h]
    have h2 : (bools n b)[i]? = none := by simp [bools, h]
    rw [h1, h2, bools_len]
    by_cases e : k = i
    · subst e; simp [h]
    · rw [if_neg e]
/-- Marks of the call's own. -/
def Marks (w : World) (lo g n : Nat) (b : Nat → Bool) : Prop := w.ownsRow lo 4 1 (.slice (some ⟨g, 0, none⟩) n n) n (bools n b)
theorem marks_below {w w' : World} {lo g n : Nat} {b : Nat → Bool} (h : Marks w lo g n b) (hb : Below w.heap.size w w') : Marks w' lo g n b := own_below h hb
theorem marks_cell {w : World} {lo g n : Nat} {b : Nat → Bool} (h : Marks w lo g n b) {i : Nat} (hi : i < n) : w.cell? ⟨g, i, none⟩ = some (.bool (b i)) ∧ w.frozen? ⟨g, i, none⟩ = false := by
  refine ⟨?_, h.frozenAt i⟩
  rw [World.ownsRow.cellAt h i (by omega)]; exact bools_at hi
theorem marks_lt {w : World} {lo g n : Nat} {b : Nat → Bool} (h : Marks w lo g n b) : lo ≤ g ∧ g < w.heap.size := h.lt g rfl
theorem marks_set {w : World} {lo g n : Nat} {b : Nat → Bool} (h : Marks w lo g n b) (k : Nat) : Marks (w.setCell ⟨g, k, none⟩ (.bool true)) lo g n (fun i => if i = k then true else b i) ∧ w.grownBy (w.setCell ⟨g, k, none⟩ (.bool true)) (some g) := by
  obtain ⟨h1, h2⟩ := h.stored k (.bool true)
  rw [bools_set] at h1
  exact ⟨h1, h2⟩
/-- What stands through the search. -/
def RSt (w : World) (R C N : Nat) (f : Nat → Nat → Int) (s g : Nat) (q : List Nat) (a k : Nat) (qv : Value) (w' : World) : Prop :=
  Rb R C f s q a k ∧ Marks w' w.heap.size g N (fun v => decide (v ∈ q)) ∧ w'.ownsRow w.heap.size 3 1 qv q.length (ints (q.map fun v : Nat => (v : Int))) ∧ Below w.heap.size w w'
/-- What it answers. -/
def ReachRes (R C : Nat) (f : Nat → Nat → Int) (s : Nat) (w : World) (e : Ending) (w' : World) : Prop :=
  ∃ g b, e = .returned (.slice (some ⟨g, 0, none⟩) (R + C) (R + C)) ∧ Marks w' w.heap.size g (R + C) b ∧ Below w.heap.size w w' ∧ ∀ v, v < R + C → (b v = true ↔ Rch R C f s v)
theorem que_at {q : List Nat} {a : Nat} (h : a < q.length) : (ints (q.map fun v : Nat => (v : Int)))[a]? = some (.int .i64 ((q.getD a 0 : Nat) : Int)) := by
  simp [ints, h, List.getD_eq_getElem?_getD]
theorem mem_snoc (q : List Nat) (k : Nat) : (fun i => if i = k then true else decide (i ∈ q)) = fun v => decide (v ∈ q ++ [k]) := by
  funext i
  by_cases e : i = k
  · subst e; simp
  · simp [e]
set_option maxHeartbeats 8000000 in
theorem l07Reach_any (v : Value) (R C : Nat) (f : Nat → Nat → Int) (s : Nat) (w : World) (hin : InMat w v (mkM R C f)) (hI : Img R C f) (hs : s < R + C) :
    Calls Try.prog 85 #[v, .int .i64 s] w (ReachRes R C f s w) := by
  have hR := hI.r2; have hC := hI.c2; have hR1 := hI.r1; have hC1 := hI.c1
  have H := hide hI
  obtain ⟨g0, o0, c0, rfl, hg0, hcell⟩ := inMat_img hin (by omega) (by omega)
  have HC := hide hcell
  obtain ⟨g1, o1, k1, hr0, -, -⟩ := hcell 0 (by omega)
  rw [Nat.add_zero] at hr0
  have hlen := fun q a k (h : Rb R C f s q a k) => rb_len h
  have HLEN := hide hlen
  have HRB := hide (rb_start (f := f) hs)
  obtain ⟨N, hN⟩ : ∃ N, N = R + C := ⟨_, rfl⟩
  have HN := hide hN
  have hNI : (R : Int) + (C : Int) = (N : Int) := by omega
  have hsN : s < N := by omega
  have hsI : (s : Int) < (N : Int) := by omega
  have hN10 : N ≤ 10 := by omega
  clear hin hcell hI hlen hs hN
  go_enter Try.func85, Try.ntmps85
  go_wp2_with (at_make; refine wpList_new w.heap.size N (.bool false) rfl _ _ rfl Try.underlying95 Try.infoBool rfl (by decide) rfl rfl (by omega) (Nat.le_refl _) ?_; intro w1 ho1 hb1 hg1; rw [bools_none] at ho1; have hz1 := hb1.size; have hm1 : Marks (w1.alloc (.cells #[.int .i64 (s : Int)] 3)) w.heap.size w.heap.size N (fun _ => false) := own_below ho1 ((Below.refl _ _).alloc (Nat.le_refl _) _); obtain ⟨hc1, hf1⟩ := marks_cell hm1 hsN)
  obtain ⟨w2, hw2⟩ : ∃ w2, w2 = w1.alloc (.cells #[.int .i64 (s : Int)] 3) := ⟨_, rfl⟩
  have hq2 : w2.ownsRow w.heap.size 3 1 (.slice (some ⟨w1.heap.size, 0, none⟩) 1 1) 1 [.int .i64 (s : Int)] := by rw [hw2]; exact World.ownsRow_lit w1 #[.int .i64 (s : Int)] 1 hz1 (by decide) rfl
  have hb2 : Below w.heap.size w w2 := by rw [hw2]; exact hb1.alloc hz1 _
  rw [← hw2] at hm1 ⊢
  obtain ⟨hm3, hg3⟩ := marks_set hm1 s
  have HST : Hid (RSt w R C N f s w.heap.size [s] 0 0 (.slice (some ⟨w1.heap.size, 0, none⟩) 1 1) (w2.setCell ⟨w.heap.size, s, none⟩ (.bool true))) := hide ⟨HRB.out, by
    rw [show (fun v => decide (v ∈ [s])) = fun i => if i = s then true else false by funext i; by_cases e : i = s <;> simp [e]]; exact hm3, hq2.kept hg3 (own_types hq2 hm1 (by decide)), hb2.setCell (Nat.le_refl _) _⟩
  clear ho1 hb1 hg1 hm1 hc1 hf1 hw2 hq2 hb2 hm3 hg3 HRB hz1 hr0
  go_loopw [7, 8] (fun qv t w' => ∃ (q : List Nat) (a : Nat) (u : Value), t = .int .i64 a ∧ u = qv ∧ RSt w R C N f s w.heap.size q a 0 u w') (fun _ t _ => 10 - (intOf t).toNat)
  case atStart => exact ⟨[s], 0, _, rfl, rfl, HST.out⟩
  case round =>
    clear HST
    obtain ⟨q, a, qv, rfl, rfl, hst⟩ := hrel
    have HST := hide hst
    have hql := HLEN.out q a 0 hst.1
    have hal := hst.1.le
    obtain ⟨qa, qc, rfl⟩ := own_slice hst.2.2.1
    by_cases hlt : a < q.length
    · obtain ⟨gq, gc, e, -, hgq, -, -, hqc, -⟩ := ownA_some hst.2.2.1 (show 0 < q.length by omega)
      injection e with e1 e2 e3
      subst e1
      clear e2 e3
      have hqa := hqc a (by omega)
      rw [que_at hlt] at hqa
      have huN := rb_at hst.1 hlt
      obtain ⟨u, hu⟩ : ∃ u, u = q.getD a 0 := ⟨_, rfl⟩
      rw [← hu] at hqa huN
      have HU := hide hu
      rw [← HN.out] at huN
      obtain ⟨n, hn⟩ : ∃ n, n = q.length := ⟨_, rfl⟩
      have HNQ := hide hn
      rw [← hn] at HST hlt ⊢
      have hltI : (a : Int) < (n : Int) := by omega
      have ha10 : a < 10 := by omega
      clear hst hqc hu hn hql hal
      go_wp2
      go_loopw [7, 38] (fun qv t w' => ∃ (q : List Nat) (k : Nat) (y : Value), k ≤ N ∧ t = .int .i64 k ∧ y = qv ∧ a < q.length ∧ u = q.getD a 0 ∧ RSt w R C N f s w.heap.size q a k y w') (fun _ t _ => N - (intOf t).toNat)
      case atStart => exact ⟨q, 0, _, Nat.zero_le _, rfl, rfl, by rw [← HNQ.out]; exact hlt, HU.out, HST.out⟩
      case round =>
        clear HST HU HNQ hlt hltI hqa hgq
        obtain ⟨q1, k, y, hk, rfl, rfl, hlt, hu, hst⟩ := hrel
        have HST := hide hst; have HU := hide hu; have HLT := hide hlt
        have hql := HLEN.out q1 a k hst.1
        obtain ⟨qa, qc2, rfl⟩ := own_slice hst.2.2.1
        by_cases hkN : k < N
        · have hkI : (k : Int) < (N : Int) := by omega
          obtain ⟨hmc, hmf⟩ := marks_cell hst.2.1 hkN
          have hB := hst.2.2.2
          obtain ⟨nq, hnq⟩ : ∃ nq, nq = q1.length := ⟨_, rfl⟩
          have HNQ := hide hnq
          rw [← hnq] at HST hql ⊢
          clear hu hst hlt hnq
          by_cases hu2 : u < R
          · have hu2I : (u : Int) < (R : Int) := by omega
            by_cases hk2 : k < R
            · have hk2I : (k : Int) < (R : Int) := by omega
              have HE : Hid (edge R f u k = false) := hide (by unfold edge; simp only [Bool.or_eq_false_iff, Bool.and_eq_false_iff, decide_eq_false_iff_not]; omega)
              have HSK := hide (rb_skip HST.out.1 (by rw [← HU.out, HE.out]; exact (fun h => by cases h)))
              go_wp2
              go_roundw
              case rel => exact ⟨q1, k + 1, _, by omega, by go_num, rfl, HLT.out, HU.out, HSK.out, HST.out.2⟩
              case measure => simp [intOf]; omega
            · have hk2I : (R : Int) ≤ (k : Int) := by omega
              obtain ⟨x, hx⟩ : ∃ x, k = R + x := ⟨k - R, by omega⟩
              have hxC : x < C := by omega
              have hsub2 : (k : Int) - (R : Int) = (x : Int) := by omega
              have HE : Hid (edge R f u k = (f u x == 1)) := hide (by rw [hx]; exact edge_rc hu2)
              obtain ⟨gr, or', kr, hrow, hgr, hcl⟩ := HC.out u hu2
              have hz := below_cell hB hgr (hcl x hxC)
              have hrow' := below_cell hB hg0 hrow
              have HCL := hide (H.out.cell u x hu2 hxC)
              have hxI : (x : Int) < (C : Int) := by omega
              obtain ⟨z, hzz⟩ : ∃ z, z = f u x := ⟨_, rfl⟩
              rw [← hzz] at hz HCL HE
              clear hrow hcl hzz hx
              rcases HCL.out with rfl | rfl
              · have HSK := hide (rb_skip HST.out.1 (by rw [← HU.out, HE.out]; exact (fun h => by cases h)))
                go_wp2
                go_roundw
                case rel => exact ⟨q1, k + 1, _, by omega, by go_num, rfl, HLT.out, HU.out, HSK.out, HST.out.2⟩
                case measure => simp [intOf]; omega
              · by_cases hin : k ∈ q1
                · rw [decide_eq_true hin] at hmc
                  have HSK := hide (rb_skip HST.out.1 (by rw [← HU.out, HE.out]; exact (fun _ => hin)))
                  go_wp2
                  go_roundw
                  case rel => exact ⟨q1, k + 1, _, by omega, by go_num, rfl, HLT.out, HU.out, HSK.out, HST.out.2⟩
                  case measure => simp [intOf]; omega
                · rw [decide_eq_false hin] at hmc
                  have HPU := hide (rb_push HST.out.1 HLT.out (by rw [← HN.out]; exact hkN) (by rw [← HU.out, HE.out]; rfl) hin)
                  have HMS := hide (marks_set HST.out.2.1 k)
                  rw [mem_snoc] at HMS
                  have HQS := hide (HST.out.2.2.1.kept HMS.out.2 (own_types HST.out.2.2.1 HST.out.2.1 (by decide)))
                  have HBS := hide (HST.out.2.2.2.setCell (p := ⟨w.heap.size, k, none⟩) (Nat.le_refl _) (.bool true))
                  have HZ := hide hB.size
                  clear hB
                  go_wp2_with (at_builtin; refine wpList_push (base := w.heap.size) HQS.out (.int .i64 (k : Int)) (.int .i64 0) rfl (.tmp 88) (.tmp 90) rfl Try.underlying24 Try.infoInt rfl (by decide) rfl (by rw [show (wr.setCell ⟨w.heap.size, k, none⟩ (.bool true)).heap.size = wr.heap.size from by simp [World.setCell]]; rfl) rfl (by have := HNQ.out; omega) (by have := HZ.out; simp [World.setCell]; omega) ?_; intro v91 w9 ho9 hb9 hg9)
                  have HQ9 := hide ho9; have HM9 := hide (HMS.out.1.kept hg9 (own_types HMS.out.1 HQS.out (by decide))); have HB9 := hide (HBS.out.trans hb9)
                  obtain ⟨a91, c91, rfl⟩ := own_slice ho9
                  clear ho9 hb9 hg9
                  go_wp2
                  go_roundw
                  case rel => exact ⟨q1 ++ [k], k + 1, _, by omega, by go_num, rfl, by have := HLT.out; simp; omega, by rw [getD_snoc_lt _ _ _ HLT.out]; exact HU.out, HPU.out, HM9.out, by simpa [ints] using HQ9.out, HB9.out⟩
                  case measure => simp [intOf]; omega
          · have hu2I : (R : Int) ≤ (u : Int) := by omega
            by_cases hk2 : k < R
            · have hk2I : (k : Int) < (R : Int) := by omega
              obtain ⟨x, hx⟩ : ∃ x, u = R + x := ⟨u - R, by omega⟩
              have hxC : x < C := by omega
              have hsub2 : (u : Int) - (R : Int) = (x : Int) := by omega
              have HE : Hid (edge R f u k = (f k x == 0)) := hide (by rw [hx]; exact edge_cr hk2)
              obtain ⟨gr, or', kr, hrow, hgr, hcl⟩ := HC.out k hk2
              have hz := below_cell hB hgr (hcl x hxC)
              have hrow' := below_cell hB hg0 hrow
              have HCL := hide (H.out.cell k x hk2 hxC)
              have hxI : (x : Int) < (C : Int) := by omega
              obtain ⟨z, hzz⟩ : ∃ z, z = f k x := ⟨_, rfl⟩
              rw [← hzz] at hz HCL HE
              clear hrow hcl hzz hx
              rcases HCL.out with rfl | rfl
              · by_cases hin : k ∈ q1
                · rw [decide_eq_true hin] at hmc
                  have HSK := hide (rb_skip HST.out.1 (by rw [← HU.out, HE.out]; exact (fun _ => hin)))
                  go_wp2
                  go_roundw
                  case rel => exact ⟨q1, k + 1, _, by omega, by go_num, rfl, HLT.out, HU.out, HSK.out, HST.out.2⟩
                  case measure => simp [intOf]; omega
                · rw [decide_eq_false hin] at hmc
                  have HPU := hide (rb_push HST.out.1 HLT.out (by rw [← HN.out]; exact hkN) (by rw [← HU.out, HE.out]; rfl) hin)
                  have HMS := hide (marks_set HST.out.2.1 k)
                  rw [mem_snoc] at HMS
                  have HQS := hide (HST.out.2.2.1.kept HMS.out.2 (own_types HST.out.2.2.1 HST.out.2.1 (by decide)))
                  have HBS := hide (HST.out.2.2.2.setCell (p := ⟨w.heap.size, k, none⟩) (Nat.le_refl _) (.bool true))
                  have HZ := hide hB.size
                  clear hB
                  go_wp2_with (at_builtin; refine wpList_push (base := w.heap.size) HQS.out (.int .i64 (k : Int)) (.int .i64 0) rfl (.tmp 88) (.tmp 90) rfl Try.underlying24 Try.infoInt rfl (by decide) rfl (by rw [show (wr.setCell ⟨w.heap.size, k, none⟩ (.bool true)).heap.size = wr.heap.size from by simp [World.setCell]]; rfl) rfl (by have := HNQ.out; omega) (by have := HZ.out; simp [World.setCell]; omega) ?_; intro v91 w9 ho9 hb9 hg9)
                  have HQ9 := hide ho9; have HM9 := hide (HMS.out.1.kept hg9 (own_types HMS.out.1 HQS.out (by decide))); have HB9 := hide (HBS.out.trans hb9)
                  obtain ⟨a91, c91, rfl⟩ := own_slice ho9
                  clear ho9 hb9 hg9
                  go_wp2
                  go_roundw
                  case rel => exact ⟨q1 ++ [k], k + 1, _, by omega, by go_num, rfl, by have := HLT.out; simp; omega, by rw [getD_snoc_lt _ _ _ HLT.out]; exact HU.out, HPU.out, HM9.out, by simpa [ints] using HQ9.out, HB9.out⟩
                  case measure => simp [intOf]; omega
              · have HSK := hide (rb_skip HST.out.1 (by rw [← HU.out, HE.out]; exact (fun h => by cases h)))
                go_wp2
                go_roundw
                case rel => exact ⟨q1, k + 1, _, by omega, by go_num, rfl, HLT.out, HU.out, HSK.out, HST.out.2⟩
                case measure => simp [intOf]; omega
            · have hk2I : (R : Int) ≤ (k : Int) := by omega
              have HE : Hid (edge R f u k = false) := hide (by unfold edge; simp only [Bool.or_eq_false_iff, Bool.and_eq_false_iff, decide_eq_false_iff_not]; omega)
              have HSK := hide (rb_skip HST.out.1 (by rw [← HU.out, HE.out]; exact (fun h => by cases h)))
              go_wp2
              go_roundw
              case rel => exact ⟨q1, k + 1, _, by omega, by go_num, rfl, HLT.out, HU.out, HSK.out, HST.out.2⟩
              case measure => simp [intOf]; omega
        · obtain rfl : k = N := by omega
          have HNX := hide (rb_next (by have := hst.1; rw [HN.out] at this; exact this) hlt)
          clear hu hst
          go_wp2
          go_roundw
          case rel => exact ⟨q1, a + 1, _, by go_num, rfl, HNX.out, HST.out.2⟩
          case measure => simp [intOf]; omega
    · obtain rfl : a = q.length := by omega
      obtain ⟨n, hn⟩ : ∃ n, n = q.length := ⟨_, rfl⟩
      have HNQ := hide hn
      rw [← hn] at HST ⊢
      clear hst hn hql hal hlt
      go_wp2
      go_ret
      exact ⟨w.heap.size, fun v => decide (v ∈ q), by rw [HN.out]; rfl, by rw [← HN.out]; exact HST.out.2.1, HST.out.2.2.2, fun v hv => by
        rw [decide_eq_true_eq, rb_end (by have := HST.out.1; rw [HNQ.out] at this; exact this)]
        exact ⟨fun h => h.2, fun h => ⟨hv, h⟩⟩⟩

end Go.Proofs.Ytcliiefedmiokaa
/-
  slices.Collect over slices.Values: a copy of the list, in memory of the call's own.
-/
namespace Go.Proofs.Ytcliiefedmiokaa
open Go.RowKit Go.Shelf
attribute [local go_sem] Oper.semAt_some

set_option maxRecDepth 100000 in
set_option maxHeartbeats 2000000 in
/-- The iterator of slices.Values: the elements in their order, for every body that keeps what lay in w. -/
theorem valuesEach_in (F : Fence) (n : Nat) (hF : F.fn 129) (hro : F.round = none) (hn : 1 ≤ n) (l Bs : Nat) (v : Value) (zs : List Int) (w W : World) (hin : InRow w v zs) (hW : Below w.heap.size w W) (J Jx : List Int → World → Prop)
    (hY : ∀ pre x W, J pre W → pre.length < zs.length → YieldAt F (n - 1) Try.prog l #[.int .i64 x] W fun e W' =>
      (e = .returned (.bool true) ∧ J (pre ++ [x]) W' ∧ Below w.heap.size W W') ∨ (e = .returned (.bool false) ∧ Jx (pre ++ [x]) W'))
    (hBs : W.cell? ⟨Bs, 0, none⟩ = some v) (h0 : J [] W) :
    CallsIn F n Try.prog 129 #[.func (.yield l) #[] #[], .pointer (some ⟨Bs, 0, none⟩)] W fun e W' => (∃ u, e = .returned u) ∧ ((∃ ys, ys = zs ∧ J ys W') ∨ ∃ pre, pre <+: zs ∧ Jx pre W') := by
  obtain ⟨a, c, rfl, hm, hp⟩ := hin
  unfold maxLen at hm
  have HP := hide fun h : zs.length ≠ 0 => hp.resolve_left h
  have HY := hide hY
  obtain ⟨L, hL⟩ : ∃ L, L = zs.length := ⟨_, rfl⟩
  have HL := hide hL
  rw [← hL] at hm hBs
  clear hp hL hY
  refine callsIn_of_wp Try.func129 rfl hF ?_ hro
  simp only [Try.ntmps129, List.size_toArray, List.length_cons, List.length_nil, Nat.reduceAdd, Nat.reduceSub, Array.replicate_succ, Array.replicate_zero, List.push_toArray, List.append_toArray, List.nil_append, List.cons_append]
  gi_wp2
  gi_loopw [7] (fun i wr => ∃ k : Nat, k ≤ L ∧ i = .int .i64 k ∧ J (zs.take k) wr ∧ Below w.heap.size w wr) (fun i _ => L - (intOf i).toNat)
  case atStart => exact ⟨0, Nat.zero_le _, rfl, h0, hW⟩
  case round =>
    obtain ⟨k, hk, rfl, hJ, hB⟩ := hrel
    have HB := hide hB
    clear hB
    by_cases hlt : k < L
    · obtain ⟨g, o, rfl, hg, hc⟩ := HP.out (by have := HL.out; omega)
      have hk' : k < zs.length := by rw [← HL.out]; exact hlt
      have hx := below_cell HB.out hg (hc k hk')
      have HT := hide (show zs.take (k + 1) = zs.take k ++ [zs[k]] from List.take_succ_eq_append_getElem hk')
      obtain ⟨x, hxx⟩ : ∃ x, x = zs[k] := ⟨_, rfl⟩
      rw [← hxx] at hx HT
      clear hxx hc
      obtain ⟨fn, tmps, assign, body, hy, hR⟩ := HY.out _ x wr hJ (by rw [List.length_take]; omega)
      gi_wp2
      refine hR.mono ?_
      rintro e W3 (⟨rfl, hJ3, hk3⟩ | ⟨rfl, hJx3⟩)
      · have HB3 := hide (HB.out.trans hk3)
        have HJ3 := hide (show J (zs.take (k + 1)) W3 by rw [HT.out]; exact hJ3)
        clear hJ3 hk3
        gi_wp2
        go_roundw
        case rel => exact ⟨k + 1, by omega, by go_num, HJ3.out, HB3.out⟩
        case measure => simp [intOf]; omega
      · have HJ3 := hide (show Jx (zs.take (k + 1)) W3 by rw [HT.out]; exact hJx3)
        clear hJx3
        gi_wp2
        refine bodyPost_ret (results_none rfl _ _ _) rfl ?_
        exact ⟨⟨_, rfl⟩, .inr ⟨_, List.take_prefix _ _, HJ3.out⟩⟩
    · have HE : Hid (zs.take k = zs) := hide (List.take_of_length_le (by have := HL.out; omega))
      rw [HE.out] at hJ
      gi_wp2
      go_end0
      exact ⟨⟨_, rfl⟩, .inl ⟨_, rfl, hJ⟩⟩

set_option maxRecDepth 100000 in
set_option maxHeartbeats 2000000 in
theorem appendSeq_in (F : Fence) (n : Nat) (hA : F.fn 143) (hV : F.fn 129) (hro : F.round = none) (hn : 3 ≤ n) (Bs : Nat) (v : Value) (zs : List Int) (w : World) (hin : InRow w v zs) (hlen : zs.length ≤ 2000000) (hB : Bs < w.heap.size) (hc : w.cell? ⟨Bs, 0, none⟩ = some v) :
    CallsIn F n Try.prog 143 #[.slice none 0 0, .func (.func 129) #[] #[.pointer (some ⟨Bs, 0, none⟩)]] w (IntsRes zs w) := by
  have h1 : 1 ≤ n := by omega
  have HI := hide hin
  obtain ⟨i0, hi, hz0, hz1, hz2⟩ := info_parts Try.infoInt
  clear hin
  refine callsIn_of_wp_marks Try.func143 rfl hA ?_ hro
  simp only [Try.ntmps143, List.size_toArray, List.length_cons, List.length_nil, Nat.reduceAdd, Nat.reduceSub, Array.replicate_succ, Array.replicate_zero, List.push_toArray, List.append_toArray, List.nil_append, List.cons_append]
  gi_wp2
  have bO := Boxed.new w 24 (.slice none 0 0)
  have hB0 : Below w.heap.size w (w.alloc (.cells #[.slice none 0 0] 24)) := (Below.refl _ w).alloc (Nat.le_refl _) _
  have hI0 := inRow_below HI.out hB0
  have hc0 := below_cell hB0 hB hc
  refine wpIn_rangeFunc_ownG hro h1 (gf := 129) (lb := #[.pointer (some ⟨Bs, 0, none⟩)]) rfl hV (enters_of Try.func129 (by kernel_rfl) rfl)
    (encs := fun x : Int => #[Value.int .i64 x]) (Kp := Below w.heap.size) (S := fun ys => ys = zs) (Sp := fun pre => pre <+: zs) (N := zs.length) (w0 := w.alloc (.cells #[.slice none 0 0] 24))
    (fun l J Jx W hW _ _ hY h0 => valuesEach_in F (n - 1) hV hro (by omega) l Bs v zs w W HI.out (hB0.trans (hW.mono hB0.size)) J Jx hY (below_cell hW (Nat.lt_of_lt_of_le hB hB0.size) hc0) h0) belowK_t (belowK_b (by simp)) (Below.refl _ _) (fun _ => rfl)
    (fun pre W => (∃ u, Boxed W w.heap.size 24 u ∧ W.ownsRow w.heap.size 3 1 u pre.length (ints pre) ∧ True) ∧ Below w.heap.size w W)
    (fun _ _ _ => False)
    (OwnFrom.and (Own.from (holdsRow_own w.heap.size w.heap.size 24 3 1 (fun pre : List Int => pre.length) (fun pre => ints pre) (fun _ _ => True)) _) (ownFrom_below (Nat.le_refl _) (by simp)))
    (fun _ _ _ _ _ hs _ _ => hs)
    ⟨⟨_, bO, World.ownsRow_nil _ _ _ _, trivial⟩, hB0⟩
    (fun x => { tmps := #[.slice none 0 0, .func (.func 129) #[] #[.pointer (some ⟨Bs, 0, none⟩)], .pointer (some ⟨w.heap.size, 0, none⟩), undef, .slice none 0 0, .int .i64 x, .func (.func 129) #[] #[.pointer (some ⟨Bs, 0, none⟩)], .int .i64 x, undef, undef, undef, undef, undef], defers := [] }) ?assign ?body ?done ?stop
  case assign =>
    intro l x W K hK
    gi_wp2
    exact hK
  case body =>
    rintro l pre x W ⟨⟨u, hv, hrow, -⟩, hBW⟩ hlt
    have hcu := hv.cell
    gi_wp2_with (gi_at_builtin; refine wpListIn_append_own _ rfl _ _ 24 rfl w.heap.size 3 i0 (.int .i64 0) 1 8 Try.underlying24 hi hz0 hz1 hz2 rfl (by decide) _ _ _ rfl (hrow.alloc _) ⟨W.heap.size, 0, none⟩ 1 1 [.int .i64 x] rfl rfl (cell_one_new _ _ _) (by simp [Value.oneCell']) (by unfold maxLen; omega) (by omega) (by have := hBW.size; simp; omega) ?_; intro v' w1 hown' hgrow _; obtain ⟨g', cap', rfl⟩ := ownsRow_succ hown'; obtain ⟨hv1, hv2, hr2, hk2, hb2⟩ := hv.appended (by decide) hrow hBW.size (Nat.le_refl _) hown' hgrow; have hc1 := hv1.cell; have hf1 := hv1.frozen)
    exact ⟨hk2.from _, hb2, ⟨_, hv2, by simpa [ints] using hr2, trivial⟩, hBW.trans hb2⟩
  case done =>
    rintro D ys W hD rfl ⟨⟨u, hv, hrow, -⟩, hBW⟩ hK
    have hcu := hv.cell
    gi_wp2
    refine ⟨by simp, .inl ⟨_, _, rfl, run_takeDeferred hK, ?_⟩⟩
    exact ⟨_, results_tmp rfl _ _ _, _, rfl, ownsRow_putObj hrow _ hK rfl, hBW.trans (belowK_b (w := w) (Nat.le_refl _) W D _ _ (by simp at hD; omega) hK rfl rfl)⟩
  case stop =>
    rintro D c pre W _ _ h _
    exact h.elim

set_option maxHeartbeats 1000000 in
theorem collect_in (F : Fence) (n : Nat) (hC : F.fn 127) (hA : F.fn 143) (hV : F.fn 129) (hro : F.round = none) (hn : 4 ≤ n) (Bs : Nat) (v : Value) (zs : List Int) (w : World) (hin : InRow w v zs) (hlen : zs.length ≤ 2000000) (hB : Bs < w.heap.size) (hc : w.cell? ⟨Bs, 0, none⟩ = some v) :
    CallsIn F n Try.prog 127 #[.func (.func 129) #[] #[.pointer (some ⟨Bs, 0, none⟩)]] w (IntsRes zs w) := by
  have HX := hide (appendSeq_in F (n - 1) hA hV hro (by omega) Bs v zs w hin hlen hB hc)
  have h1 : 1 ≤ n := by omega
  clear hin hc
  refine callsIn_of_wp Try.func127 rfl hC ?_ hro
  simp only [Try.ntmps127, List.size_toArray, List.length_cons, List.length_nil, Nat.reduceAdd, Nat.reduceSub, Array.replicate_succ, Array.replicate_zero, List.push_toArray, List.append_toArray, List.nil_append, List.cons_append]
  gi_wp2_with (gi_at_call 143; refine HX.out.mono ?_; rintro e w' ⟨u, rfl, ho, hb⟩)
  go_ret
  exact ⟨_, rfl, ho, hb⟩
theorem collectVals_any (Bs : Nat) (v : Value) (zs : List Int) (w : World) (hin : InRow w v zs) (hlen : zs.length ≤ 2000000) (hB : Bs < w.heap.size) (hc : w.cell? ⟨Bs, 0, none⟩ = some v) :
    Calls Try.prog 127 #[.func (.func 129) #[] #[.pointer (some ⟨Bs, 0, none⟩)]] w (IntsRes zs w) :=
  (callsIn_wide (n := 4)).1 (collect_in Fence.wide 4 trivial trivial trivial rfl (by omega) Bs v zs w hin hlen hB hc)
end Go.Proofs.Ytcliiefedmiokaa
/-
  Contracts of the library, at this translation: laid by the shelf, in plain declarations.
-/
namespace Go.Proofs
open Go.Shelf
def Try.sortI_ren : Go.Shelf.Ren := ⟨fun | 6 => 128 | 15 => 145 | 14 => 144 | 28 => 160 | 29 => 161 | 20 => 152 | 21 => 153 | 22 => 154 | 23 => 155 | 24 => 156 | 25 => 157 | 26 => 158 | 27 => 159 | 46 => 167 | 47 => 168 | 48 => 169 | 49 => 170 | 50 => 171 | 57 => 172 | n => n, fun | 22 => 24 | 24 => 3 | 25 => 109 | 3 => 3 | 39 => 138 | 0 => 0 | 53 => 165 | 55 => 167 | 4 => 4 | 46 => 159 | 45 => 158 | 50 => 85 | 5 => 5 | 9 => 9 | 66 => 170 | 70 => 174 | 76 => 176 | 77 => 177 | n => n, fun | n => n⟩
theorem Try.sortI : Go.Proofs.SlLaysF.n6 Try.prog Try.sortI_ren := {
  mixed := by kernel_rfl
  f6 := ⟨Try.f128.name, by decide, Try.func128.trans (congrArg some (by kernel_rfl))⟩
  f14 := ⟨Try.f144.name, by decide, Try.func144.trans (congrArg some (by kernel_rfl))⟩
  f15 := Try.func145.trans (congrArg some (by kernel_rfl))
  f20 := ⟨Try.f152.name, by decide, Try.func152.trans (congrArg some (by kernel_rfl))⟩
  f21 := ⟨Try.f153.name, by decide, Try.func153.trans (congrArg some (by kernel_rfl))⟩
  f22 := ⟨Try.f154.name, by decide, Try.func154.trans (congrArg some (by kernel_rfl))⟩
  f23 := ⟨Try.f155.name, by decide, Try.func155.trans (congrArg some (by kernel_rfl))⟩
  f24 := ⟨Try.f156.name, by decide, Try.func156.trans (congrArg some (by kernel_rfl))⟩
  f25 := ⟨Try.f157.name, by decide, Try.func157.trans (congrArg some (by kernel_rfl))⟩
  f26 := ⟨Try.f158.name, by decide, Try.func158.trans (congrArg some (by kernel_rfl))⟩
  f27 := ⟨Try.f159.name, by decide, Try.func159.trans (congrArg some (by kernel_rfl))⟩
  f28 := Try.func160.trans (congrArg some (by kernel_rfl))
  f29 := Try.func161.trans (congrArg some (by kernel_rfl))
  f46 := ⟨Try.f167.name, by decide, Try.func167.trans (congrArg some (by kernel_rfl))⟩
  f47 := Try.func168.trans (congrArg some (by kernel_rfl))
  f48 := Try.func169.trans (congrArg some (by kernel_rfl))
  f49 := ⟨Try.f170.name, by decide, Try.func170.trans (congrArg some (by kernel_rfl))⟩
  f50 := ⟨Try.f171.name, by decide, Try.func171.trans (congrArg some (by kernel_rfl))⟩
  f57 := ⟨Try.f172.name, by decide, Try.func172.trans (congrArg some (by kernel_rfl))⟩
  t0 := Try.underlying0
  a0 := Try.isAgg0
  z0 := Try.sizeOf0
  v0 := Try.zeroValue0
  t3 := Try.underlying3
  a3 := Try.isAgg3
  z3 := Try.sizeOf3
  v3 := Try.zeroValue3
  t4 := Try.underlying4
  a4 := Try.isAgg4
  z4 := Try.sizeOf4
  v4 := Try.zeroValue4
  t5 := Try.underlying5
  a5 := Try.isAgg5
  z5 := Try.sizeOf5
  v5 := Try.zeroValue5
  t9 := Try.underlying9
  a9 := Try.isAgg9
  z9 := Try.sizeOf9
  v9 := Try.zeroValue9
  t22 := Try.underlying24
  a22 := Try.isAgg24
  z22 := Try.sizeOf24
  v22 := Try.zeroValue24
  a24 := Try.isAgg3
  z24 := Try.sizeOf3
  t25 := Try.underlying109
  a25 := Try.isAgg109
  z25 := Try.sizeOf109
  v25 := Try.zeroValue109
  t39 := Try.underlying138
  a39 := Try.isAgg138
  z39 := Try.sizeOf138
  v39 := Try.zeroValue138
  t45 := Try.underlying158
  a45 := Try.isAgg158
  z45 := Try.sizeOf158
  v45 := Try.zeroValue158
  t46 := Try.underlying159
  a46 := Try.isAgg159
  z46 := Try.sizeOf159
  v46 := Try.zeroValue159
  t50 := Try.underlying85
  a50 := Try.isAgg85
  z50 := Try.sizeOf85
  v50 := Try.zeroValue85
  t53 := Try.underlying165
  a53 := Try.isAgg165
  z53 := Try.sizeOf165
  v53 := Try.zeroValue165
  t55 := Try.underlying167
  a55 := Try.isAgg167
  z55 := Try.sizeOf167
  v55 := Try.zeroValue167
  t66 := Try.underlying170
  a66 := Try.isAgg170
  z66 := Try.sizeOf170
  v66 := Try.zeroValue170
  t70 := Try.underlying174
  a70 := Try.isAgg174
  z70 := Try.sizeOf174
  v70 := Try.zeroValue174
  t76 := Try.underlying176
  a76 := Try.isAgg176
  z76 := Try.sizeOf176
  v76 := Try.zeroValue176
  t77 := Try.underlying177
  a77 := Try.isAgg177
  z77 := Try.sizeOf177
  v77 := Try.zeroValue177 }
end Go.Proofs
/-
  SortedDown of the program: slices.SortedFunc over slices.Values.
-/
namespace Go.Proofs.Ytcliiefedmiokaa
open Go.RowKit

/-- cmp.Compare on integers. -/
def cmpI (x y : Int) : Int := if x < y then -1 else if y < x then 1 else 0
theorem cmpI_neg (x y : Int) : (cmpI x y < 0) = (x < y) := by
  unfold cmpI
  by_cases h1 : x < y
  · rw [if_pos h1]; simp [h1]
  · rw [if_neg h1]
    by_cases h2 : y < x
    · rw [if_pos h2]; simp; omega
    · rw [if_neg h2]; simp; omega
theorem isNaN_any (x : Int) (w : World) : Calls Try.prog 130 #[.int .i64 x] w fun e w' => e = .returned (.bool false) ∧ w = w' := by
  go_enter Try.func130, Try.ntmps130
  go_wp2
  go_ret
  exact ⟨ret_bool (by simp), rfl⟩
set_option maxHeartbeats 400000 in
theorem compare_any (x y : Int) (w : World) : Calls Try.prog 98 #[.int .i64 x, .int .i64 y] w fun e w' => e = .returned (.int .i64 (cmpI x y)) ∧ w = w' := by
  have H1 := hide fun h : x < y => (show cmpI x y = -1 by rw [cmpI, if_pos h])
  have H2 := hide fun (h : ¬ x < y) (h2 : y < x) => (show cmpI x y = 1 by rw [cmpI, if_neg h, if_pos h2])
  have H3 := hide fun (h : ¬ x < y) (h2 : ¬ y < x) => (show cmpI x y = 0 by rw [cmpI, if_neg h, if_neg h2])
  by_cases h1 : x < y
  · rw [H1.out h1]
    go_enter Try.func98, Try.ntmps98
    go_wp2_with (first | (with_reducible refine (isNaN_any x _).mono ?_; rintro e w' ⟨rfl, rfl⟩) | (with_reducible refine (isNaN_any y _).mono ?_; rintro e w' ⟨rfl, rfl⟩))
    go_ret
    exact ⟨rfl, rfl⟩
  · by_cases h2 : y < x
    · rw [H2.out h1 h2]
      go_enter Try.func98, Try.ntmps98
      go_wp2_with (first | (with_reducible refine (isNaN_any x _).mono ?_; rintro e w' ⟨rfl, rfl⟩) | (with_reducible refine (isNaN_any y _).mono ?_; rintro e w' ⟨rfl, rfl⟩))
      go_ret
      exact ⟨rfl, rfl⟩
    · rw [H3.out h1 h2]
      go_enter Try.func98, Try.ntmps98
      go_wp2_with (first | (with_reducible refine (isNaN_any x _).mono ?_; rintro e w' ⟨rfl, rfl⟩) | (with_reducible refine (isNaN_any y _).mono ?_; rintro e w' ⟨rfl, rfl⟩))
      go_ret
      exact ⟨rfl, rfl⟩
theorem downCmp_any (x y : Int) (w : World) : Calls Try.prog 97 #[.int .i64 x, .int .i64 y] w fun e w' => e = .returned (.int .i64 (cmpI y x)) ∧ w = w' := by
  go_enter Try.func97, Try.ntmps97
  go_wp2_with ((with_reducible refine (compare_any y x _).mono ?_); rintro e w' ⟨rfl, rfl⟩)
  go_ret
  exact ⟨rfl, rfl⟩

def downC (x y : Int) : Int := cmpI y x
theorem downC_lt (x y : Int) : ltOf downC x y = decide (y < x) := by
  unfold ltOf downC; simp only [cmpI_neg]
theorem downC_swo : Go.Sort.SWO (ltOf downC) where
  irrefl x := by rw [downC_lt]; simp
  trans x y z h1 h2 := by rw [downC_lt] at *; simp at *; omega
  ntrans x y z h1 h2 := by rw [downC_lt] at *; simp at *; omega

/-- What the sort leaves of a slice that the call owns. -/
theorem own_sorted {w : World} {base E n g cap : Nat} {r : List Int} (s : List Int) (m : Nat) (os : Array Obj) (h : w.ownsRow base E 1 (.slice (some ⟨g, 0, none⟩) n cap) n (ints r)) (hs : s.length = n) :
    (sortWorld (Value.int .i64) w g 0 m s.toArray os).ownsRow base E 1 (.slice (some ⟨g, 0, none⟩) n cap) n (ints s) ∧ w.grownBy (sortWorld (Value.int .i64) w g 0 m s.toArray os) (some g) := by
  rcases h.2 with ⟨he, _⟩ | ⟨g', cap', cur, he, hbg, hg, hc, hm, hz, ht⟩
  · cases he
  cases he
  have hgl := (Array.getElem?_eq_some_iff.1 hg).1
  have hheap : (sortWorld (Value.int .i64) w g 0 m s.toArray os).heap = w.heap.modify g (Go.Sort.onCells (Go.Sort.putCells (Value.int .i64) 0 s.toArray)) ++ os := rfl
  have hsz : (w.heap.modify g (Go.Sort.onCells (Go.Sort.putCells (Value.int .i64) 0 s.toArray))).size = w.heap.size := Array.size_modify
  have hat : (sortWorld (Value.int .i64) w g 0 m s.toArray os).heap[g]? = some (.cells (Go.Sort.putCells (Value.int .i64) 0 s.toArray cur) E (0, 0)) := by
    rw [hheap, Array.getElem?_append_left (by rw [hsz]; exact hgl), Array.getElem?_modify, if_pos rfl, hg]; rfl
  refine ⟨⟨by rw [ints_len]; omega, .inr ⟨g, cap, _, rfl, hbg, hat, hc, hm, by rw [Go.Sort.putCells, Array.size_mapIdx]; exact hz, ?_⟩⟩, ⟨rfl, rfl, rfl, by rw [hheap, Array.size_append, hsz]; omega, fun k hk hne => ?_⟩⟩
  · apply List.ext_getElem
    · rw [List.length_take, Array.length_toList, Go.Sort.putCells, Array.size_mapIdx, ints_len]; omega
    · intro i h1 h2
      rw [ints_len] at h2
      have h3 := ints_at s i h2
      rw [List.getElem?_eq_getElem (by rw [ints_len]; exact h2)] at h3
      rw [Option.some.inj h3, List.getElem_take, Array.getElem_toList]
      simp only [Go.Sort.putCells, Array.getElem_mapIdx]
      rw [if_pos ⟨Nat.zero_le _, by simp; omega⟩]
      simp [h2]
  · rw [hheap, Array.getElem?_append_left (by rw [hsz]; exact hk), Array.getElem?_modify, if_neg (fun e => hne (by rw [e]))]

set_option maxHeartbeats 1000000 in
theorem sortFunc_any (base : Nat) (v : Value) (r : List Int) (w : World) (h : w.ownsRow base 3 1 v r.length (ints r)) (hr : r.length ≤ 2000000) (hb : base ≤ w.heap.size) :
    Calls Try.prog 128 #[v, .func (.func 97) #[] #[]] w fun e w' => e = .returned (.tuple #[]) ∧ w'.ownsRow base 3 1 v r.length (ints (sortD r)) ∧ Below base w w' := by
  by_cases h0 : r.length = 0
  · obtain rfl : r = [] := List.eq_nil_of_length_eq_zero h0
    obtain ⟨a, c, rfl⟩ := own_none h
    have hcon := AnyF.slices_SortFunc_none (P := Try.prog) (ρ := Try.sortI_ren) { Try.sortI with } a c (.func (.func 97) #[] #[]) w
    change Calls Try.prog 128 _ _ _ at hcon
    refine hcon.mono ?_
    rintro e w' ⟨rfl, rfl⟩
    exact ⟨rfl, by simpa [sortD] using h, Below.refl _ _⟩
  · obtain ⟨g, cap, rfl, hbg, hg, hc, hm, hcell, hfr⟩ := own_some h (by omega)
    have eg : ∀ args w, (callFunc 97 args).run Try.prog w = .ok (.enter 97 args) w := enters_of Try.func97 (by kernel_rfl) rfl
    have hcmp : CmpLays1 Try.prog 97 #[] (Value.int .i64) downC g 0 r.toArray.size w := fun m os dk _ x y =>
      (downCmp_any x y _).mono fun e w' ⟨he, hw⟩ => ⟨he, 0, #[], by rw [← hw, Go.Sort.grow_empty]; rfl⟩
    have hH : Go.Sort.Holds (Value.int .i64) w g 0 r.toArray := fun j hj => by
      have hj' : j < r.length := by simpa using hj
      rw [Nat.zero_add]
      exact ⟨by rw [hcell j hj', ints_at r j hj']; simp [hj'], hfr j⟩
    have hcon := Any.slices_SortFunc_total Try.sortI (Value.int .i64) (fun _ => rfl) downC downC_swo 97 #[] g 0 cap r.toArray w eg hcmp hH hg (by simp; omega)
      (fun x y h1 h2 => by rw [downC_lt] at h1 h2; simp at h1 h2; omega)
    change Calls Try.prog 128 _ _ _ at hcon
    rw [List.size_toArray] at hcon
    refine hcon.mono ?_
    rintro e w' ⟨rfl, m, os, rfl⟩
    have hs : (r.mergeSort fun x y => !ltOf downC y x) = sortD r := by
      rw [sortD]; congr 1; funext x y; rw [downC_lt]; by_cases hxy : x < y
      · rw [decide_eq_true hxy, decide_eq_false (by omega)]; rfl
      · rw [decide_eq_false hxy, decide_eq_true (by omega)]; rfl
    dsimp only
    rw [hs]
    obtain ⟨k1, k2⟩ := own_sorted (sortD r) m os h (sortD_len r)
    exact ⟨rfl, k1, (Below.refl _ _).grown k2 hb (fun k hk => by cases hk; exact hbg)⟩

theorem values_any (a : Option Addr) (n c : Nat) (w : World) :
    Calls Try.prog 96 #[.slice a n c] w fun e w' => e = .returned (.func (.func 129) #[] #[.pointer (some ⟨w.heap.size, 0, none⟩)]) ∧ w' = w.alloc (.cells #[.slice a n c] 24) := by
  go_enter Try.func96, Try.ntmps96
  go_wp2
  go_ret
  exact ⟨rfl, rfl⟩
set_option maxHeartbeats 400000 in
theorem sortedFunc_any (Bs : Nat) (v : Value) (r : List Int) (w : World) (hin : InRow w v r) (hr : r.length ≤ 2000000) (hB : Bs < w.heap.size) (hc : w.cell? ⟨Bs, 0, none⟩ = some v) :
    Calls Try.prog 95 #[.func (.func 129) #[] #[.pointer (some ⟨Bs, 0, none⟩)], .func (.func 97) #[] #[]] w (IntsRes (sortD r) w) := by
  have HX := hide (collectVals_any Bs v r w hin hr hB hc)
  clear hin hc
  go_enter Try.func95, Try.ntmps95
  go_wp2_with fail
  refine HX.out.mono ?_
  rintro e w1 ⟨u, rfl, ho, hb⟩
  have HS := hide (sortFunc_any w.heap.size u r w1 ho hr hb.size)
  have HB := hide hb
  clear ho hb
  go_wp2_with fail
  refine HS.out.mono ?_
  rintro e w2 ⟨rfl, ho, hb⟩
  have HO := hide ho; have HB2 := hide (HB.out.trans hb)
  clear ho hb
  go_wp2
  go_ret
  exact ⟨_, rfl, by rw [sortD_len]; exact HO.out, HB2.out⟩
set_option maxHeartbeats 400000 in
theorem implSortedDown_any (v : Value) (l : List Int) (w : World) (hin : InRow w v l) (hl : l.length ≤ 1048576) :
    Calls Try.prog 48 #[v] w (IntsRes (sortD l) w) := by
  have hb := (Below.refl w.heap.size w).alloc (Nat.le_refl _) (.cells #[v] 24)
  have HX := hide (sortedFunc_any w.heap.size v l _ (inRow_below hin hb) (by omega) (by simp) (show (w.alloc (.cells #[v] 24)).cell? ⟨w.heap.size, 0, none⟩ = some v by simp [World.cell?_alloc_new]))
  have HB := hide hb
  obtain ⟨a, c, rfl, -, -⟩ := hin
  clear hb
  go_enter Try.func48, Try.ntmps48
  go_wp2_with fail
  refine (values_any a _ c _).mono ?_
  rintro e w1 ⟨rfl, rfl⟩
  go_wp2_with fail
  refine HX.out.mono ?_
  rintro e w2 ⟨u, rfl, ho, hb⟩
  have HO := hide (own_base ho HB.out.size); have HB2 := hide (HB.out.trans (hb.mono HB.out.size))
  clear ho hb
  go_wp2
  go_ret
  exact ⟨_, rfl, HO.out, HB2.out⟩
end Go.Proofs.Ytcliiefedmiokaa
/-
  The bounds of chapter 5: slack, isBroken, and the comparison by slack.
-/
namespace Go.Proofs.Ytcliiefedmiokaa
open Go.RowKit

/-- A bound in a variable. -/
def BoundAt (w : World) (g : Nat) (s m : Int) : Prop := w.heap[g]? = some (.cells #[.int .i64 s, .int .i64 m] 152 (0, 0))
theorem boundAt_below {w w' : World} {g : Nat} {s m : Int} (h : BoundAt w g s m) (hb : Below w.heap.size w w') : BoundAt w' g s m := by
  unfold BoundAt; rw [hb.block g (Array.getElem?_eq_some_iff.1 h).1]; exact h
theorem boundAt_cells {w : World} {g : Nat} {s m : Int} (h : BoundAt w g s m) : w.cell? ⟨g, 0, none⟩ = some (.int .i64 s) ∧ w.cell? ⟨g, 1, none⟩ = some (.int .i64 m) :=
  ⟨by rw [cell_of_row w g 0 _ _ _ h]; rfl, by rw [cell_of_row w g 1 _ _ _ h]; rfl⟩
theorem boundAt_frozen {w : World} {g : Nat} {s m : Int} (h : BoundAt w g s m) : w.frozen? ⟨g, 0, none⟩ = false ∧ w.frozen? ⟨g, 1, none⟩ = false := by
  unfold BoundAt at h
  simp [World.frozen?, h]
theorem Try.sizeBound : (Try.prog.info? 152).map (·.size) = some 2 := by kernel_rfl
theorem wpList_loadBound {ops : Array Oper} {rest : List Oper} {o : Oper} {a : Act} {Q : Exit → Act → World → Prop} {W : World} {g : Nat} {s m : Int} (hb : BoundAt W g s m)
    (hgd : o.guard = none) (x : Operand) (ho : o.op = .load 152 x) (hx : a.eval x = .pointer (some ⟨g, 0, none⟩))
    (h : wpList Try.prog ops Q rest (a.put o.dst (.agg #[.int .i64 s, .int .i64 m])) W) : wpList Try.prog ops Q (o :: rest) a W :=
  wpList_load_row hgd _ x ho g hx _ _ (0, 0) _ hb Try.underlying152 rfl Try.sizeBound h

set_option maxHeartbeats 400000 in
theorem slack_any (s m : Int) (w : World) (hs : 0 ≤ s ∧ s ≤ 25) (hm : 0 ≤ m ∧ m ≤ 25) :
    Calls Try.prog 164 #[.agg #[.int .i64 s, .int .i64 m]] w fun e w' => e = .returned (.int .i64 (m - s)) ∧ GrownW w w' := by
  obtain ⟨s1, s2⟩ := hs
  obtain ⟨m1, m2⟩ := hm
  go_enter Try.func164, Try.ntmps164
  go_wp2
  go_ret
  exact ⟨rfl, grownW_alloc _ _⟩
set_option maxHeartbeats 400000 in
theorem isBroken_any (s m : Int) (w : World) (hs : 0 ≤ s ∧ s ≤ 25) (hm : 0 ≤ m ∧ m ≤ 25) :
    Calls Try.prog 149 #[.agg #[.int .i64 s, .int .i64 m]] w fun e w' => e = .returned (.bool (decide (m - s < 0))) ∧ Below w.heap.size w w' := by
  have HG := hide (show BoundAt (w.alloc (.cells #[.int .i64 s, .int .i64 m] 152)) w.heap.size s m from heap_alloc_new w _)
  have HSL := hide fun w => slack_any s m w hs hm
  go_enter Try.func149, Try.ntmps149
  go_wp2_with (first | (with_reducible refine wpList_loadBound HG.out rfl _ rfl rfl ?_) | ((with_reducible refine (HSL.out _).mono ?_); rintro e w1 ⟨rfl, hg⟩; have HB := hide (grownW_below (grownW_trans (grownW_alloc _ _) hg)); clear hg))
  go_ret
  exact ⟨rfl, HB.out⟩
theorem load_bound {w : World} {g : Nat} {s m : Int} (h : BoundAt w g s m) (n : Nat) (os : Array Obj) : BoundAt (Go.Sort.grow (w.drewN n) os) g s m := boundAt_below h (grownW_below ⟨n, os, rfl⟩)
end Go.Proofs.Ytcliiefedmiokaa
