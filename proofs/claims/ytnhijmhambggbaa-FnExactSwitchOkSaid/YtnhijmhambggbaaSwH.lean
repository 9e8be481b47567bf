/-
  The exact laws' helpers at switches: toSwitch, toSwitchS, szSwitchS, markSwitchS, heldSwitchS.
-/
import Derived.Test.YtnhijmhambggbaaSwL
import Derived.Test.YtnhijmhambggbaaIntS
import Derived.Test.YtnhijmhambggbaaOv
namespace Go.Proofs.Ytnhijmhambggbaa
open Go.RowKit

def set4 (xs : List Value) (k : Nat) (s : Sw) : List Value := (((xs.set k (.int .i64 s.y1)).set (k + 1) (.int .i64 s.y2)).set (k + 2) (.int .i64 s.x1)).set (k + 3) (.int .i64 s.x2)
theorem set4_len (xs : List Value) (k : Nat) (s : Sw) : (set4 xs k s).length = xs.length := by simp [set4]
theorem set4_fill {l : List Sw} {xs : List Value} {k : Nat} (h : xs.length = l.length * 4) (hk : k < l.length) : set4 (cellsS (l.take k) ++ xs.drop (k * 4)) (k * 4) l[k] = cellsS (l.take (k + 1)) ++ xs.drop ((k + 1) * 4) := by
  have hl : (cellsS (l.take k)).length = k * 4 := by rw [cellsS_len, List.length_take]; omega
  obtain ⟨a, b, c, d, r, hr⟩ : ∃ a b c d r, xs.drop (k * 4) = a :: b :: c :: d :: r := by
    have : 4 ≤ (xs.drop (k * 4)).length := by rw [List.length_drop]; omega
    match hx : xs.drop (k * 4), this with
    | a :: b :: c :: d :: r, _ => exact ⟨a, b, c, d, r, rfl⟩
  have hd : xs.drop ((k + 1) * 4) = r := by
    rw [show (k + 1) * 4 = k * 4 + 4 by omega, ← List.drop_drop, hr]; rfl
  rw [hd, hr, List.take_succ_eq_append_getElem hk, cellsS_snoc]
  unfold set4
  rw [List.set_append_right _ _ (by omega), List.set_append_right _ _ (by omega), List.set_append_right _ _ (by omega), List.set_append_right _ _ (by omega), hl]
  rw [show k * 4 - k * 4 = 0 by omega, show k * 4 + 1 - k * 4 = 1 by omega, show k * 4 + 2 - k * 4 = 2 by omega, show k * 4 + 3 - k * 4 = 3 by omega]
  simp [swA]
/-- A switch is stored in a slice of the call's own. -/
theorem exec_storeSwOwn {ρ : Operand → Value} {o : Oper} {w : World} {x y : Operand} {base e g n c i : Nat} {xs : List Value} {s : Sw} (ho : o.op = .store 42 x y) (hx : ρ x = .pointer (some ⟨g, i * 4, none⟩)) (hy : ρ y = swV s)
    (h : w.ownsRow base e 4 (.slice (some ⟨g, 0, none⟩) n c) n xs) (hi : i < n) : ∃ w', (execOp ρ o).run Try.prog w = .ok .skip w' ∧ w'.ownsRow base e 4 (.slice (some ⟨g, 0, none⟩) n c) n (set4 xs (i * 4) s) ∧ w.grownBy w' (some g) := by
  have hl := h.1
  have hc : ∀ j, j < n * 4 → ∃ u, w.cell? ⟨g, j, none⟩ = some u := fun j hj => ⟨xs[j], by rw [h.cellAt j hj, List.getElem?_eq_getElem (by omega)]⟩
  obtain ⟨u0, h0⟩ := hc (i * 4) (by omega); obtain ⟨u1, h1⟩ := hc (i * 4 + 1) (by omega); obtain ⟨u2, h2⟩ := hc (i * 4 + 2) (by omega); obtain ⟨u3, h3⟩ := hc (i * 4 + 3) (by omega)
  have f0 := h.frozenAt (i * 4); have f1 := h.frozenAt (i * 4 + 1); have f2 := h.frozenAt (i * 4 + 2); have f3 := h.frozenAt (i * 4 + 3)
  obtain ⟨a1, b1⟩ := h.stored (i * 4) (.int .i64 s.y1)
  obtain ⟨a2, b2⟩ := a1.stored (i * 4 + 1) (.int .i64 s.y2)
  obtain ⟨a3, b3⟩ := a2.stored (i * 4 + 2) (.int .i64 s.x1)
  obtain ⟨a4, b4⟩ := a3.stored (i * 4 + 3) (.int .i64 s.x2)
  refine ⟨_, ?_, a4, grown_trans (grown_trans (grown_trans b1 b2) b3) b4⟩
  unfold execOp
  simp only [ho, hx, hy, swV, swA]
  go_simp
theorem wpList_storeSwOwn {ops : Array Oper} {rest : List Oper} {o : Oper} {a : Act} {Q : Exit → Act → World → Prop} {W : World} {base e g n c i : Nat} {xs : List Value} {s : Sw} (h : W.ownsRow base e 4 (.slice (some ⟨g, 0, none⟩) n c) n xs) (hi : i < n)
    (hgd : o.guard = none) (x y : Operand) (ho : o.op = .store 42 x y) (hx : a.eval x = .pointer (some ⟨g, i * 4, none⟩)) (hy : a.eval y = swV s)
    (hK : ∀ w', w'.ownsRow base e 4 (.slice (some ⟨g, 0, none⟩) n c) n (set4 xs (i * 4) s) → W.grownBy w' (some g) → wpList Try.prog ops Q rest (a.put o.dst undef) w') : wpList Try.prog ops Q (o :: rest) a W := by
  refine wpList_plain hgd fun K hk => ?_
  obtain ⟨w', h1, h2, h3⟩ := exec_storeSwOwn (ρ := a.eval) ho hx hy h hi
  unfold Oper.wp
  rw [h1]
  exact hk _ _ (hK w' h2 h3)

set_option maxHeartbeats 400000 in
theorem toSwitch_any (s : Sw) (w : World) : Calls Try.prog 33 #[swV s] w fun e w' => e = .returned (swV s) ∧ Below w.heap.size w w' := by
  obtain ⟨a, b, c, d⟩ := s
  unfold swV swA
  go_enter Try.func33, Try.ntmps33
  go_wp2
  exact bodyPost_ret (v := .agg #[.int .i64 a, .int .i64 b, .int .i64 c, .int .i64 d]) (by simp [results, Try.results33, go_sem]) rfl ⟨rfl, (((Below.refl _ _).alloc (Nat.le_refl _) _).alloc (by simp) _).alloc (by simp; omega) _⟩
def SizeS (n left : Nat) (w : World) (e : Ending) (w' : World) : Prop := ∃ r : Int, e = .returned (.int .i64 r) ∧ ((r = -1) ∨ (n ≤ left ∧ r = (left - n : Nat))) ∧ w = w'
set_option maxHeartbeats 400000 in
theorem szSwitchS_any (v : Value) (l : List Sw) (left : Nat) (w : World) (hleft : left ≤ 2000000) (hin : InSws w v l) :
    Calls Try.prog 48 #[v, .int .i64 left] w (SizeS l.length left w) := by
  obtain ⟨a, c, rfl, hm, -⟩ := hin
  unfold maxLen at hm
  obtain ⟨n, hn⟩ : ∃ n, n = l.length := ⟨_, rfl⟩
  rw [← hn] at hm ⊢
  clear hn
  by_cases h : n ≤ left
  · have hlt : ¬ (left : Int) - n < 0 := by omega
    go_enter Try.func48, Try.ntmps48
    go_wp2
    go_ret
    exact ⟨_, rfl, .inr ⟨h, by omega⟩, rfl⟩
  · have hlt : (left : Int) - n < 0 := by omega
    go_enter Try.func48, Try.ntmps48
    go_wp2
    go_ret
    exact ⟨_, rfl, .inl rfl, rfl⟩
theorem wpList_loadLSw {ops : Array Oper} {rest : List Oper} {o : Oper} {a : Act} {Q : Exit → Act → World → Prop} {W : World} {g k : Nat} {s : Sw} (hb : SwC W g k s)
    (d : Tmp) (_hd : o.dst = some d) (hgd : o.guard = none) (x : Operand) (ho : o.op = .load 48 x) (hx : a.eval x = .pointer (some ⟨g, k, none⟩))
    (h : wpList Try.prog ops Q rest (a.put o.dst (swV s)) W) : wpList Try.prog ops Q (o :: rest) a W := by
  obtain ⟨h0, h1, h2, h3⟩ := hb
  refine wpList_plain hgd fun K hK => ?_
  have : (execOp a.eval o).run Try.prog W = .ok (.value (swV s)) W := by
    unfold execOp
    simp only [ho, hx]
    go_simp
    rfl
  unfold Oper.wp
  rw [this]
  exact hK _ _ h
set_option maxHeartbeats 1000000 in
theorem toSwitchS_any (v : Value) (l : List Sw) (w : World) (hn : l.length ≤ 2000000) (hin : InSws w v l) :
    Calls Try.prog 50 #[v] w (SwsRes l w) := by
  obtain ⟨a, c, rfl, hm, hpl⟩ := hin
  unfold maxLen at hm
  obtain ⟨i0, hi, hz0, hz1, hz2⟩ := info_parts Try.infoSw
  have HC := hide hpl
  obtain ⟨n, hnl⟩ : ∃ n, n = l.length := ⟨_, rfl⟩
  have HN := hide hnl
  rw [← hnl] at hn hm ⊢
  clear hpl hnl
  go_enter Try.func50, Try.ntmps50
  go_wp2_with (at_make; refine wpList_make_full _ rfl _ _ _ rfl w.heap.size 42 i0 _ 4 Try.underlying36 hi hz0 hz1 .i64 .i64 n n n rfl rfl rfl rfl (by rw [hz2]; omega) (by unfold maxLen; omega) (Nat.le_refl _) ?_; intro w1 ho hg)
  have HO : Hid (∃ xs : List Value, xs.length = n * 4 ∧ w1.ownsRow w.heap.size 42 4 (.slice (some ⟨w.heap.size, 0, none⟩) n n) n (cellsS (l.take 0) ++ xs.drop (0 * 4))) := hide ⟨_, ho.1, by simpa [cellsS] using ho⟩
  have HB := hide (grown_below hg (fun k hk => by cases hk) (Nat.le_refl w.heap.size))
  clear ho hg hz0 hz1 hz2 hi
  obtain ⟨xs, hxl, ho⟩ := HO.out
  replace HO := hide ho
  have HXL := hide hxl
  clear ho hxl
  go_wp2
  go_loopw [4] (fun i w' => ∃ k : Nat, k ≤ n ∧ i = .int .i64 k ∧ w'.ownsRow w.heap.size 42 4 (.slice (some ⟨w.heap.size, 0, none⟩) n n) n (cellsS (l.take k) ++ xs.drop (k * 4)) ∧ Below w.heap.size w w') (fun i _ => n - (intOf i).toNat)
  case atStart => exact ⟨0, Nat.zero_le _, rfl, HO.out, HB.out⟩
  case round =>
    clear HO HB
    obtain ⟨k, hk, rfl, ho, hb⟩ := hrel
    have HO := hide ho; have HB := hide hb
    clear ho hb
    by_cases hlt : k < n
    · have hltI : (k : Int) < n := by omega
      have hkl : k < l.length := by rw [← HN.out]; exact hlt
      obtain ⟨g, o, rfl, hg, hcl⟩ := HC.out.resolve_left (by omega)
      have hc := swC_below (hcl k hkl) HB.out hg
      have HF := hide (set4_fill (xs := xs) (by rw [HXL.out, HN.out]) hkl)
      obtain ⟨s, hs⟩ : ∃ s, s = l[k] := ⟨_, rfl⟩
      rw [← hs] at hc HF
      clear hs hcl
      go_wp2_with (first | (with_reducible refine wpList_loadLSw hc 19 rfl rfl _ rfl rfl ?_) | ((with_reducible refine (toSwitch_any s _).mono ?_); rintro e w9 ⟨rfl, hb9⟩; have HO9 := hide (ownA_below HO.out hb9); have HB9 := hide (HB.out.trans (hb9.mono HB.out.size)); clear hb9) | ((with_reducible refine wpList_storeSwOwn (s := s) HO9.out hlt rfl (.tmp 21) (.tmp 20) rfl rfl rfl ?_); intro wa ha ga))
      go_roundw
      case rel => exact ⟨k + 1, by omega, by go_num, by rw [← HF.out]; exact ha, HB9.out.trans (grown_below ga (fun q hq => by cases hq; exact Nat.le_refl _) HB9.out.size)⟩
      case measure => simp [intOf]; omega
    · obtain rfl : k = n := by omega
      have HE : Hid (cellsS (l.take k) ++ xs.drop (k * 4) = cellsS l) := hide (by rw [HN.out, List.take_length, List.drop_eq_nil_of_le (by rw [HXL.out, HN.out]; exact Nat.le_refl _), List.append_nil])
      go_wp2
      go_ret
      refine ⟨_, rfl, ?_, HB.out⟩
      unfold OwnSws
      rw [← HN.out, ← HE.out]
      exact HO.out

/-- The cells are marked one after the other. -/
theorem mark_cell (q j m : Nat) (xs : List Value) (hl : xs.length = m) (hj : j < m) : (ints (markR j q) ++ xs.drop j).set j (.int .i64 ((q + j : Nat) : Int)) = ints (markR (j + 1) q) ++ xs.drop (j + 1) := markR_set m q j xs hl hj
set_option maxRecDepth 100000 in
set_option maxHeartbeats 2000000 in
theorem markSwitchS_any (n q : Nat) (v : Value) (xs : List Value) (base : Nat) (w : World) (hn : n ≤ 1100000) (hq : q ≤ 2000000) (ho : w.ownsRow base 42 4 v n xs) :
    Calls Try.prog 40 #[v, .int .i64 q] w fun e w' => e = .returned (.int .i64 ((q + n * 4 : Nat) : Int)) ∧ w'.ownsRow base 42 4 v n (ints (markR (n * 4) q)) ∧ w.grownBy w' v.ownBlock := by
  have HXL := hide ho.1
  by_cases h0 : n = 0
  · subst h0
    obtain ⟨a, c, rfl⟩ := ownA_slice ho
    have HO : Hid (w.ownsRow base 42 4 (.slice a 0 c) 0 (ints (markR (0 * 4) q))) := hide (by
      have hx : xs = [] := List.eq_nil_of_length_eq_zero (by rw [HXL.out])
      rw [hx] at ho; exact ho)
    clear ho HXL
    go_enter Try.func40, Try.ntmps40
    go_wp2
    go_loop [1, 5] (fun s i => i = .int .i64 0 ∧ s = .int .i64 q) (fun _ _ => 0)
    case atStart => exact ⟨rfl, rfl⟩
    case round =>
      obtain ⟨rfl, rfl⟩ := hrel
      go_wp2
      go_ret
      exact ⟨rfl, HO.out, grown_of_below (Below.refl _ _) _⟩
  · obtain ⟨g, c, rfl, -⟩ := ownA_some ho (by omega)
    have HO : Hid (w.ownsRow base 42 4 (.slice (some ⟨g, 0, none⟩) n c) n (ints (markR (0 * 4) q) ++ xs.drop (0 * 4))) := hide (by simpa [markR, ints] using ho)
    clear ho h0
    go_enter Try.func40, Try.ntmps40
    go_wp2
    go_loopw [1, 5] (fun u i w' => ∃ k : Nat, k ≤ n ∧ i = .int .i64 k ∧ u = .int .i64 ((q + k * 4 : Nat) : Int) ∧ w'.ownsRow base 42 4 (.slice (some ⟨g, 0, none⟩) n c) n (ints (markR (k * 4) q) ++ xs.drop (k * 4)) ∧ w.grownBy w' (some g)) (fun _ i _ => n - (intOf i).toNat)
    case atStart => exact ⟨0, Nat.zero_le _, rfl, by simp, HO.out, grown_of_below (Below.refl _ _) _⟩
    case round =>
      clear HO
      obtain ⟨k, hk, rfl, rfl, ho, hg⟩ := hrel
      have HO := hide ho; have HG := hide hg
      by_cases hlt : k < n
      · have hltI : (k : Int) < n := by omega
        obtain ⟨p, hp⟩ : ∃ p, p = q + k * 4 := ⟨_, rfl⟩
        have hpb : p ≤ 10000000 := by omega
        have hlx := HXL.out
        obtain ⟨u0, h0⟩ : ∃ u, wr.cell? ⟨g, k * 4, none⟩ = some u := ⟨_, by rw [ho.cellAt _ (by omega), List.getElem?_eq_getElem (by have := ho.1; omega)]⟩
        obtain ⟨u1, h1⟩ : ∃ u, wr.cell? ⟨g, k * 4 + 1, none⟩ = some u := ⟨_, by rw [ho.cellAt _ (by omega), List.getElem?_eq_getElem (by have := ho.1; omega)]⟩
        obtain ⟨u2, h2⟩ : ∃ u, wr.cell? ⟨g, k * 4 + 2, none⟩ = some u := ⟨_, by rw [ho.cellAt _ (by omega), List.getElem?_eq_getElem (by have := ho.1; omega)]⟩
        obtain ⟨u3, h3⟩ : ∃ u, wr.cell? ⟨g, k * 4 + 3, none⟩ = some u := ⟨_, by rw [ho.cellAt _ (by omega), List.getElem?_eq_getElem (by have := ho.1; omega)]⟩
        have f0 := ho.frozenAt (k * 4); have f1 := ho.frozenAt (k * 4 + 1); have f2 := ho.frozenAt (k * 4 + 2); have f3 := ho.frozenAt (k * 4 + 3)
        obtain ⟨a1, b1⟩ := ho.stored (k * 4) (.int .i64 (p : Int))
        obtain ⟨a2, b2⟩ := a1.stored (k * 4 + 1) (.int .i64 ((p : Int) + 1))
        obtain ⟨a3, b3⟩ := a2.stored (k * 4 + 2) (.int .i64 ((p : Int) + 1 + 1))
        obtain ⟨a4, b4⟩ := a3.stored (k * 4 + 3) (.int .i64 ((p : Int) + 1 + 1 + 1))
        have HA := hide a4
        have HGG := hide (grown_trans hg (grown_trans (grown_trans (grown_trans b1 b2) b3) b4))
        have HE : Hid (((((ints (markR (k * 4) q) ++ xs.drop (k * 4)).set (k * 4) (.int .i64 (p : Int))).set (k * 4 + 1) (.int .i64 ((p : Int) + 1))).set (k * 4 + 2) (.int .i64 ((p : Int) + 1 + 1))).set (k * 4 + 3) (.int .i64 ((p : Int) + 1 + 1 + 1)) = ints (markR ((k + 1) * 4) q) ++ xs.drop ((k + 1) * 4)) := hide (by
          have e0 := mark_cell q (k * 4) (n * 4) xs hlx (by omega)
          have e1 := mark_cell q (k * 4 + 1) (n * 4) xs hlx (by omega)
          have e2 := mark_cell q (k * 4 + 2) (n * 4) xs hlx (by omega)
          have e3 := mark_cell q (k * 4 + 3) (n * 4) xs hlx (by omega)
          rw [show (p : Int) = ((q + k * 4 : Nat) : Int) by rw [hp], show ((q + k * 4 : Nat) : Int) + 1 = ((q + (k * 4 + 1) : Nat) : Int) by omega, show ((q + (k * 4 + 1) : Nat) : Int) + 1 = ((q + (k * 4 + 2) : Nat) : Int) by omega, show ((q + (k * 4 + 2) : Nat) : Int) + 1 = ((q + (k * 4 + 3) : Nat) : Int) by omega]
          rw [e0, e1, e2, e3, show (k + 1) * 4 = k * 4 + 3 + 1 by omega])
        have HP := hide hp
        rw [← hp]
        clear ho hg a1 a2 a3 a4 b1 b2 b3 b4 hp hlx
        go_wp2
        go_roundw
        case rel => exact ⟨k + 1, by omega, by go_num, by rw [HP.out]; go_num, by rw [← HE.out]; exact HA.out, HGG.out⟩
        case measure => simp [intOf]; omega
      · obtain rfl : k = n := by omega
        have HE : Hid (ints (markR (k * 4) q) ++ xs.drop (k * 4) = ints (markR (k * 4) q)) := hide (by rw [List.drop_eq_nil_of_le (by rw [HXL.out]; exact Nat.le_refl _), List.append_nil])
        go_wp2
        go_ret
        exact ⟨rfl, by rw [← HE.out]; exact HO.out, HG.out⟩
/-- A slice of n elements of four cells, each one greater than the one before. -/
def HeldC (w : World) (v : Value) (n q : Nat) : Prop := ∃ a c, v = .slice a n c ∧ n ≤ maxLen ∧ (n = 0 ∨ ∃ g o, a = some ⟨g, o, none⟩ ∧ g < w.heap.size ∧ ∀ j, j < n * 4 → w.cell? ⟨g, o + j, none⟩ = some (.int .i64 ((q + j : Nat) : Int)))
theorem heldC_below {w w' : World} {v : Value} {n q : Nat} (h : HeldC w v n q) (hb : Below w.heap.size w w') : HeldC w' v n q := by
  obtain ⟨a, c, hv, hm, hp⟩ := h
  refine ⟨a, c, hv, hm, ?_⟩
  rcases hp with h0 | ⟨g, o, ha, hg, hc⟩
  · exact .inl h0
  · exact .inr ⟨g, o, ha, Nat.lt_of_lt_of_le hg hb.size, fun j hj => below_cell hb hg (hc j hj)⟩
theorem heldC_own {w : World} {base e n q : Nat} {v : Value} (h : w.ownsRow base e 4 v n (ints (markR (n * 4) q))) : HeldC w v n q := by
  rcases h.2 with ⟨rfl, h0⟩ | ⟨g, cap, cur, rfl, hbg, hg, hc, hm, _⟩
  · exact ⟨none, 0, by rw [h0], by omega, .inl h0⟩
  · refine ⟨_, _, rfl, by omega, .inr ⟨g, 0, rfl, (Array.getElem?_eq_some_iff.1 hg).1, fun j hj => ?_⟩⟩
    rw [Nat.zero_add, h.cellAt j hj, ints_at _ j (by rw [markR_len]; exact hj), markR_at]
set_option maxRecDepth 100000 in
set_option maxHeartbeats 2000000 in
theorem heldSwitchS_any (n q : Nat) (v : Value) (w : World) (hn : n ≤ 1100000) (hq : q ≤ 2000000) (hv : HeldC w v n q) :
    Calls Try.prog 41 #[v, .int .i64 q] w fun e w' => e = .returned (.int .i64 ((q + n * 4 : Nat) : Int)) ∧ w = w' := by
  obtain ⟨a, c, rfl, hm, hp⟩ := hv
  unfold maxLen at hm
  have HP := hide hp
  clear hp
  go_enter Try.func41, Try.ntmps41
  go_wp2
  go_loop [1, 5] (fun u i => ∃ k : Nat, k ≤ n ∧ i = .int .i64 k ∧ u = .int .i64 ((q + k * 4 : Nat) : Int)) (fun _ i => n - (intOf i).toNat)
  case atStart => exact ⟨0, Nat.zero_le _, rfl, by simp⟩
  case round =>
    obtain ⟨k, hk, rfl, rfl⟩ := hrel
    by_cases hlt : k < n
    · have hltI : (k : Int) < n := by omega
      obtain ⟨g, o, rfl, hg, hcl⟩ := HP.out.resolve_left (by omega)
      obtain ⟨p, hp⟩ : ∃ p, p = q + k * 4 := ⟨_, rfl⟩
      have hpb : p ≤ 10000000 := by omega
      have h0 : w.cell? ⟨g, o + k * 4, none⟩ = some (.int .i64 (p : Int)) := by rw [hcl (k * 4) (by omega), hp]
      have h1 : w.cell? ⟨g, o + k * 4 + 1, none⟩ = some (.int .i64 ((p : Int) + 1)) := by rw [Nat.add_assoc, hcl (k * 4 + 1) (by omega), hp]; congr 2
      have h2 : w.cell? ⟨g, o + k * 4 + 2, none⟩ = some (.int .i64 ((p : Int) + 1 + 1)) := by rw [Nat.add_assoc, hcl (k * 4 + 2) (by omega), hp]; congr 2
      have h3 : w.cell? ⟨g, o + k * 4 + 3, none⟩ = some (.int .i64 ((p : Int) + 1 + 1 + 1)) := by rw [Nat.add_assoc, hcl (k * 4 + 3) (by omega), hp]; congr 2
      have HPP := hide hp
      rw [← hp]
      clear hp hcl
      go_wp2
      go_round
      case rel => exact ⟨k + 1, by omega, by go_num, by rw [HPP.out]; go_num⟩
      case measure => simp [intOf]; omega
    · obtain rfl : k = n := by omega
      go_wp2
      go_ret
      exact ⟨rfl, rfl⟩
end Go.Proofs.Ytnhijmhambggbaa
