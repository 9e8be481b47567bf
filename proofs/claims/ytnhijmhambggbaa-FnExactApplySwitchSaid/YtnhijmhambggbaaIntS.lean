/-
  The helpers of the exact laws on lists of integers: szIntS, toIntS, eqIntS, markIntS, heldIntS.
-/
import Derived.Test.YtnhijmhambggbaaMat
namespace Go.Proofs.Ytnhijmhambggbaa
open Go.RowKit

theorem szIntS_any (v : Value) (r : List Int) (left : Nat) (w : World) (hleft : left ≤ 2000000) (hin : InRow w v r) :
    Calls Try.prog 84 #[v, .int .i64 left] w fun e w' => e = .returned (.int .i64 (if left < r.length then -1 else (left - r.length : Nat))) ∧ w = w' := by
  obtain ⟨a, c, rfl, hm, -⟩ := hin
  unfold maxLen at hm
  by_cases h : left < r.length
  · go_enter Try.func84, Try.ntmps84
    go_wp2
    go_ret
    exact ⟨by simp, rfl⟩
  · go_enter Try.func84, Try.ntmps84
    go_wp2
    go_ret
    exact ⟨ret_int (by omega), rfl⟩

set_option maxHeartbeats 400000 in
theorem toIntS_any (v : Value) (r : List Int) (w : World) (hn : r.length ≤ 2000000) (hin : InRow w v r) :
    Calls Try.prog 86 #[v] w fun e w' => ∃ v', e = .returned v' ∧ w'.ownsRow w.heap.size 3 1 v' r.length (ints r) ∧ Below w.heap.size w w' := by
  obtain ⟨a, c, rfl, hm, hpl⟩ := hin
  unfold maxLen at hm
  rcases hpl with h0 | ⟨g, o, rfl, hg, hcell⟩
  · have hr : r = [] := List.eq_nil_of_length_eq_zero h0
    subst hr
    clear hm h0
    go_enter Try.func86, Try.ntmps86
    go_wp2_with (at_make; refine wpList_new w.heap.size 0 (.int .i64 0) rfl _ _ rfl Try.underlying25 Try.infoInt rfl (by decide) rfl rfl (by omega) (Nat.le_refl _) ?_; intro w1 hown1 hb1 hg1)
    have HO := hide hown1; have HB := hide hb1
    clear hown1 hb1 hg1
    go_wp2
    go_loop [4] (fun i => i = .int .i64 0) (fun _ => 0)
    case atStart => rfl
    case round =>
      obtain rfl := hrel
      go_wp2
      go_ret
      exact ⟨_, rfl, HO.out, HB.out⟩
  · have HC := hide hcell
    clear hcell
    obtain ⟨n, hnl⟩ : ∃ n, n = r.length := ⟨_, rfl⟩
    have hlen := hide hnl
    rw [← hnl] at hn hm ⊢
    clear hnl
    go_enter Try.func86, Try.ntmps86
    go_wp2_with (at_make; refine wpList_new w.heap.size n (.int .i64 0) rfl _ _ rfl Try.underlying25 Try.infoInt rfl (by decide) rfl rfl (by omega) (Nat.le_refl _) ?_; intro w1 hown1 hb1 hg1)
    have HO := hide hown1; have HB := hide hb1
    clear hown1 hb1 hg1
    go_wp2
    go_loopw [4] (fun i w' => ∃ k : Nat, k ≤ n ∧ i = .int .i64 k ∧ w'.ownsRow w.heap.size 3 1 (.slice (some ⟨w.heap.size, 0, none⟩) n n) n (fillTo (ints r) k (.int .i64 0)) ∧ Below w.heap.size w w') (fun i _ => n - (intOf i).toNat)
    case atStart => exact ⟨0, Nat.zero_le _, rfl, by rw [fill_zero, ints_len, ← hlen.out]; exact HO.out, HB.out⟩
    case round =>
      clear HO HB
      obtain ⟨k, hk, rfl, hown, hb⟩ := hrel
      have HO := hide hown; have HB := hide hb
      clear hown hb
      by_cases hlt : k < n
      · have hk' : k < r.length := by rw [← hlen.out]; exact hlt
        have hx : wr.cell? ⟨g, o + k, none⟩ = some (.int .i64 r[k]) := below_cell HB.out hg (HC.out k hk')
        have hx2 := cell_held HO.out hlt
        have hf2 := HO.out.frozenAt k
        have HS := HO.out.stored k (.int .i64 r[k])
        rw [fill_set _ k _ (by rw [ints_len]; exact hk') (.int .i64 r[k]) (by simp [ints])] at HS
        have HS := hide HS
        obtain ⟨y, hy⟩ : ∃ y, y = r[k] := ⟨_, rfl⟩
        rw [← hy] at hx HS
        clear hy
        go_wp2
        go_roundw
        case rel => exact ⟨k + 1, by omega, by go_num, HS.out.1, HB.out.setCell (Nat.le_refl _) _⟩
        case measure => simp [intOf]; omega
      · have HE : Hid (fillTo (ints r) k (.int .i64 0) = ints r) := hide (fill_all _ _ _ (by rw [ints_len, ← hlen.out]; omega))
        go_wp2
        go_ret
        exact ⟨_, rfl, by have := HO.out; rw [HE.out] at this; exact this, HB.out⟩

set_option maxHeartbeats 400000 in
theorem eqIntS_same (va vb : Value) (r : List Int) (w : World) (ha : InRow w va r) (hb : InRow w vb r) :
    Calls Try.prog 87 #[va, vb] w fun e w' => e = .returned (.bool true) ∧ Below w.heap.size w w' := by
  obtain ⟨a, ca, rfl, hm, hpa⟩ := ha
  obtain ⟨b, cb, rfl, -, hpb⟩ := hb
  unfold maxLen at hm
  by_cases h0 : r.length = 0
  · have hr : r = [] := List.eq_nil_of_length_eq_zero h0
    subst hr
    clear hpa hpb hm h0
    go_enter Try.func87, Try.ntmps87
    go_wp2
    go_loop [5] (fun i => i = .int .i64 0) (fun _ => 0)
    case atStart => rfl
    case round =>
      obtain rfl := hrel
      go_wp2
      go_ret
      exact ⟨rfl, Below.refl _ _⟩
  · obtain ⟨ga, oa, rfl, hga, hca⟩ := hpa.resolve_left h0
    obtain ⟨gb, ob, rfl, hgb, hcb⟩ := hpb.resolve_left h0
    have HA := hide hca; have HB := hide hcb
    clear hpa hpb hca hcb h0
    go_enter Try.func87, Try.ntmps87
    go_wp2
    go_loopw [5] (fun i w' => ∃ k : Nat, k ≤ r.length ∧ i = .int .i64 k ∧ Below w.heap.size w w') (fun i _ => r.length - (intOf i).toNat)
    case atStart => exact ⟨0, Nat.zero_le _, rfl, Below.refl _ _⟩
    case round =>
      obtain ⟨k, hk, rfl, hb⟩ := hrel
      by_cases hlt : k < r.length
      · have hxa : wr.cell? ⟨ga, oa + k, none⟩ = some (.int .i64 r[k]) := below_cell hb hga (HA.out k hlt)
        have hxb : wr.cell? ⟨gb, ob + k, none⟩ = some (.int .i64 r[k]) := below_cell hb hgb (HB.out k hlt)
        obtain ⟨y, hy⟩ : ∃ y, y = r[k] := ⟨_, rfl⟩
        rw [← hy] at hxa hxb
        clear hy
        have hb := hide hb
        go_wp2
        go_quiet (fail)
        go_wp2
        go_roundw
        case rel => exact ⟨k + 1, by omega, by go_num, below_draws hb.out _⟩
        case measure => simp [intOf]; omega
      · go_wp2
        go_ret
        exact ⟨rfl, hb⟩

/-- What markIntS leaves: n numbers from q on. -/
def markR (n q : Nat) : List Int := (List.range n).map fun i => ((q + i : Nat) : Int)
theorem markR_len (n q : Nat) : (markR n q).length = n := by simp [markR]
theorem markR_at (n q j : Nat) (h : j < (markR n q).length) : (markR n q)[j] = ((q + j : Nat) : Int) := by simp [markR]
theorem markR_set (n q j : Nat) (xs : List Value) (h : xs.length = n) (hj : j < n) : (ints (markR j q) ++ xs.drop j).set j (.int .i64 (q + j : Nat)) = ints (markR (j + 1) q) ++ xs.drop (j + 1) := by
  rw [List.set_append_right _ _ (by rw [ints_len, markR_len]; omega), ints_len, markR_len, Nat.sub_self, List.drop_eq_getElem_cons (by omega), List.set_cons_zero]
  rw [show markR (j + 1) q = markR j q ++ [((q + j : Nat) : Int)] by rw [markR, List.range_succ, List.map_append]; rfl, ints, ints, List.map_append, List.append_assoc]; rfl

set_option maxHeartbeats 400000 in
theorem markIntS_any (n q : Nat) (v : Value) (xs : List Value) (base : Nat) (w : World) (hn : n ≤ 2000000) (hq : q ≤ 4000000)
    (hv : w.ownsRow base 3 1 v n xs) :
    Calls Try.prog 90 #[v, .int .i64 q] w fun e w' => e = .returned (.int .i64 (q + n : Nat)) ∧ w'.ownsRow base 3 1 v n (ints (markR n q)) ∧ w.grownBy w' v.ownBlock := by
  by_cases h0 : n = 0
  · subst h0
    have hxs := hv.1
    obtain rfl : xs = [] := List.eq_nil_of_length_eq_zero (by omega)
    obtain ⟨a, c, rfl⟩ := own_none hv
    have HV := hide hv; clear hv hxs
    go_enter Try.func90, Try.ntmps90
    go_wp2
    go_loop [1, 5] (fun k i => i = .int .i64 0 ∧ k = .int .i64 q) (fun _ _ => 0)
    case atStart => exact ⟨rfl, rfl⟩
    case round =>
      obtain ⟨rfl, rfl⟩ := hrel
      go_wp2
      go_ret
      exact ⟨rfl, HV.out, ⟨rfl, rfl, rfl, Nat.le_refl _, fun _ _ _ => rfl⟩⟩
  · have hxs := hv.1
    have HV := hide hv
    obtain ⟨g, c, rfl, hbg, hg, hc, hm, -, -⟩ := own_some hv (by omega)
    clear hv
    unfold maxLen at hm
    go_enter Try.func90, Try.ntmps90
    go_wp2
    go_loopw [1, 5] (fun k i w' => ∃ j : Nat, j ≤ n ∧ i = .int .i64 j ∧ k = .int .i64 (q + j : Nat) ∧ w'.ownsRow base 3 1 (.slice (some ⟨g, 0, none⟩) n c) n (ints (markR j q) ++ xs.drop j) ∧ w.grownBy w' (some g)) (fun _ i _ => n - (intOf i).toNat)
    case atStart => exact ⟨0, Nat.zero_le _, rfl, rfl, HV.out, ⟨rfl, rfl, rfl, Nat.le_refl _, fun _ _ _ => rfl⟩⟩
    case round =>
      obtain ⟨j, hj, rfl, rfl, hown, hgr⟩ := hrel
      by_cases hlt : j < n
      · have hO := hide hown; have hG := hide hgr
        clear hown hgr
        have hxs := hide hxs
        have hx := cell_held hO.out hlt
        have hf := hO.out.frozenAt j
        go_wp2
        go_roundw
        case rel =>
          have h1 := hO.out.stored j (.int .i64 (q + j : Nat))
          rw [markR_set n q j xs (by have := hxs.out; omega) hlt] at h1
          exact ⟨j + 1, by omega, by go_num, by go_num, h1.1, grown_trans hG.out h1.2⟩
        case measure => simp [intOf]; omega
      · obtain rfl : j = n := by omega
        have hO := hide hown; have hG := hide hgr
        clear hown hgr
        have hxs := hide hxs
        go_wp2
        go_ret
        refine ⟨ret_int (by omega), ?_, hG.out⟩
        have := hO.out
        rw [List.drop_of_length_le (by have := hxs.out; omega), List.append_nil] at this
        exact this

set_option maxHeartbeats 400000 in
theorem heldIntS_any (n q : Nat) (v : Value) (w : World) (hn : n ≤ 2000000) (hq : q ≤ 4000000) (hv : InRow w v (markR n q)) :
    Calls Try.prog 91 #[v, .int .i64 q] w fun e w' => e = .returned (.int .i64 (q + n : Nat)) ∧ Below w.heap.size w w' := by
  obtain ⟨a, c, rfl, -, hp⟩ := hv
  rw [markR_len]
  by_cases h0 : n = 0
  · subst h0
    clear hp
    go_enter Try.func91, Try.ntmps91
    go_wp2
    go_loop [1, 5] (fun k i => i = .int .i64 0 ∧ k = .int .i64 q) (fun _ _ => 0)
    case atStart => exact ⟨rfl, rfl⟩
    case round =>
      obtain ⟨rfl, rfl⟩ := hrel
      go_wp2
      go_ret
      exact ⟨rfl, Below.refl _ _⟩
  · obtain ⟨g, o, rfl, hg, hcell⟩ := hp.resolve_left (by rw [markR_len]; exact h0)
    have HC := hide hcell
    clear hp hcell
    go_enter Try.func91, Try.ntmps91
    go_wp2
    go_loopw [1, 5] (fun k i w' => ∃ j : Nat, j ≤ n ∧ i = .int .i64 j ∧ k = .int .i64 (q + j : Nat) ∧ Below w.heap.size w w') (fun _ i _ => n - (intOf i).toNat)
    case atStart => exact ⟨0, Nat.zero_le _, rfl, rfl, Below.refl _ _⟩
    case round =>
      obtain ⟨j, hj, rfl, rfl, hb⟩ := hrel
      by_cases hlt : j < n
      · have hx : wr.cell? ⟨g, o + j, none⟩ = some (.int .i64 (q + j : Nat)) := below_cell hb hg (by rw [HC.out j (by rw [markR_len]; exact hlt), markR_at])
        have hb := hide hb
        go_wp2
        go_roundw
        case rel => exact ⟨j + 1, by omega, by go_num, by go_num, hb.out⟩
        case measure => simp [intOf]; omega
      · obtain rfl : j = n := by omega
        have hb := hide hb
        go_wp2
        go_ret
        exact ⟨ret_int (by omega), hb.out⟩

/-- What returns the integers r, in memory of the call's own. -/
def IntsRes (r : List Int) (w : World) (e : Ending) (w' : World) : Prop := ∃ v, e = .returned v ∧ w'.ownsRow w.heap.size 3 1 v r.length (ints r) ∧ Below w.heap.size w w'
theorem intsRes_nil {w w' : World} (h : Below w.heap.size w w') : IntsRes [] w (.returned (.slice none 0 0)) w' := ⟨_, rfl, World.ownsRow_nil _ _ _ _, h⟩
end Go.Proofs.Ytnhijmhambggbaa
