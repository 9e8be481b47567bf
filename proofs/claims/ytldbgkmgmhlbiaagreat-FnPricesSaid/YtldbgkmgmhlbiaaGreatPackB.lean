/-
  Texts of this claim, one behind the other: IntSS, Ok, MatR, Img, Bell, Dir.
-/
import Derived.Test.YtldbgkmgmhlbiaaGreatPackA
/-
  The helpers of the exact laws on lists of lists of integers: szIntSS, toIntSS, eqIntSS, markIntSS, heldIntSS.
-/
namespace Go.Proofs.YtldbgkmgmhlbiaaGreat
open Go.RowKit

def cellsM (m : List (List Int)) : Nat := (m.map (·.length)).sum
theorem cells_snoc (m : List (List Int)) (k : Nat) (h : k < m.length) : cellsM (m.take (k + 1)) = cellsM (m.take k) + m[k].length := by
  rw [List.take_succ_eq_append_getElem h]; simp only [cellsM, List.map_append, List.sum_append, List.map_cons, List.map_nil, List.sum_cons, List.sum_nil]; omega
theorem cells_all (m : List (List Int)) (k : Nat) (h : m.length ≤ k) : cellsM (m.take k) = cellsM m := by rw [List.take_of_length_le h]
theorem cells_take (m : List (List Int)) (k : Nat) : cellsM (m.take k) ≤ cellsM m := by
  have h : m = m.take k ++ m.drop k := (List.take_append_drop k m).symm
  have : cellsM m = cellsM (m.take k) + cellsM (m.drop k) := by
    conv => lhs; rw [h]
    simp only [cellsM, List.map_append, List.sum_append]
  omega
theorem cells_row (m : List (List Int)) (k : Nat) (h : k < m.length) : m[k].length ≤ cellsM m := by
  have := cells_snoc m k h; have := cells_take m (k + 1); omega

/-- What szIntSS answers: a number that is negative only if the list is longer than 'left'. -/
def SizeI (w : World) (left : Nat) (m : List (List Int)) (e : Ending) (w' : World) : Prop := ∃ r : Int, e = .returned (.int .i64 r) ∧ ((r = -1) ∨ (m.length + cellsM m ≤ left ∧ r = (left - m.length - cellsM m : Nat))) ∧ Below w.heap.size w w'

set_option maxHeartbeats 400000 in
theorem szIntSS_any (v : Value) (m : List (List Int)) (left : Nat) (w : World) (hleft : left ≤ 2000000) (hin : InMat w v m) :
    Calls Tryz.prog 20 #[v, .int .i64 left] w (SizeI w left m) := by
  obtain ⟨a, c, rfl, hm, hp⟩ := hin
  unfold maxLen at hm
  by_cases hbig : left < m.length
  · clear hp
    go_enter Tryz.func20, Tryz.ntmps20
    go_wp2
    go_ret
    exact ⟨_, rfl, .inl rfl, Below.refl _ _⟩
  · by_cases h0 : m.length = 0
    · have hss : m = [] := List.eq_nil_of_length_eq_zero h0
      subst hss
      clear hp hm h0
      go_enter Tryz.func20, Tryz.ntmps20
      go_wp2
      go_loop [1, 5] (fun r i => i = .int .i64 0 ∧ r = .int .i64 left) (fun _ _ => 0)
      case atStart => exact ⟨rfl, by simp⟩
      case round =>
        obtain ⟨rfl, rfl⟩ := hrel
        go_wp2
        go_ret
        exact ⟨_, rfl, .inr ⟨by simp [cellsM], by simp [cellsM]⟩, Below.refl _ _⟩
    · obtain ⟨g, o, rfl, hg, hcell⟩ := hp.resolve_left h0
      have HC := hide hcell
      clear hp hcell h0
      go_enter Tryz.func20, Tryz.ntmps20
      go_wp2
      go_loop [1, 5] (fun r i => ∃ k t : Nat, k ≤ m.length ∧ i = .int .i64 k ∧ r = .int .i64 (left - m.length - t : Nat) ∧ cellsM (m.take k) = t ∧ m.length + t ≤ left) (fun _ i => m.length - (intOf i).toNat)
      case atStart => exact ⟨0, 0, Nat.zero_le _, rfl, (by go_num), by simp [cellsM], (by omega)⟩
      case round =>
        obtain ⟨k, t, hk, rfl, rfl, ht, hle⟩ := hrel
        have HT := hide ht
        clear ht
        by_cases hlt : k < m.length
        · obtain ⟨u, hx, hr⟩ := HC.out k hlt
          have HS := hide (cells_snoc m k hlt)
          have HR := hide hr
          obtain ⟨a', c', rfl, hm', -⟩ := hr
          obtain ⟨n', hn'⟩ : ∃ n', n' = m[k].length := ⟨_, rfl⟩
          have HN := hide hn'
          unfold maxLen at hm'
          by_cases hfit : left - m.length - t < n'
          · have hfit' : left - m.length - t < m[k].length := by omega
            clear hn'
            go_wp2_with (go_at_call 60; refine (szIntS_any _ _ (left - m.length - t) _ (by omega) HR.out).mono ?_; rw [if_pos hfit']; rintro e w' ⟨rfl, rfl⟩)
            go_ret
            exact ⟨_, rfl, .inl rfl, Below.refl _ _⟩
          · have hfit' : ¬ left - m.length - t < m[k].length := by omega
            rw [← hn'] at HS
            clear hn'
            go_wp2_with (go_at_call 60; refine (szIntS_any _ _ (left - m.length - t) _ (by omega) HR.out).mono ?_; rw [if_neg hfit', ← HN.out]; rintro e w' ⟨rfl, rfl⟩)
            go_round
            case rel => exact ⟨k + 1, t + n', by omega, by go_num, by go_num, by rw [HS.out, HT.out], by omega⟩
            case measure => simp [intOf]; omega
        · have HA := hide (cells_all m k (by omega))
          go_wp2
          go_ret
          exact ⟨_, rfl, .inr ⟨by rw [← HA.out, HT.out]; omega, by rw [← HA.out, HT.out]⟩, Below.refl _ _⟩

set_option maxHeartbeats 400000 in
theorem eqIntSS_same (va vb : Value) (m : List (List Int)) (w : World) (ha : InMat w va m) (hb : InMat w vb m) :
    Calls Tryz.prog 24 #[va, vb] w fun e w' => e = .returned (.bool true) ∧ Below w.heap.size w w' := by
  obtain ⟨a, ca, rfl, hm, hpa⟩ := ha
  obtain ⟨b, cb, rfl, -, hpb⟩ := hb
  unfold maxLen at hm
  by_cases h0 : m.length = 0
  · have hr : m = [] := List.eq_nil_of_length_eq_zero h0
    subst hr
    clear hpa hpb hm h0
    go_enter Tryz.func24, Tryz.ntmps24
    go_wp2
    go_loop [5] (fun i => i = .int .i64 0) (fun _ => 0)
    case atStart => rfl
    case round =>
      obtain rfl := hrel
      go_wp2
      go_ret
      exact ⟨rfl, Below.refl _ _⟩
  · obtain ⟨ga, oa, rfl, hga, hca⟩ := hpa.resolve_left h0
    obtain ⟨gb, ob, rfl, hgb, hcb⟩ := hpb.resolve_left h0
    have HA := hide hca; have HB := hide hcb
    clear hpa hpb hca hcb h0
    go_enter Tryz.func24, Tryz.ntmps24
    go_wp2
    go_loopw [5] (fun i w' => ∃ k : Nat, k ≤ m.length ∧ i = .int .i64 k ∧ Below w.heap.size w w') (fun i _ => m.length - (intOf i).toNat)
    case atStart => exact ⟨0, Nat.zero_le _, rfl, Below.refl _ _⟩
    case round =>
      obtain ⟨k, hk, rfl, hb⟩ := hrel
      by_cases hlt : k < m.length
      · obtain ⟨ua, hxa, hra⟩ := HA.out k hlt
        obtain ⟨ub, hxb, hrb⟩ := HB.out k hlt
        have hxa := below_cell hb hga hxa
        have hxb := below_cell hb hgb hxb
        have HRA := hide (inRow_below hra hb)
        have HRB := hide (inRow_below hrb hb)
        have hgra : ga < wr.heap.size := Nat.lt_of_lt_of_le hga hb.size
        have hgrb : gb < wr.heap.size := Nat.lt_of_lt_of_le hgb hb.size
        clear hra hrb
        have hb := hide hb
        go_wp2
        go_region_held3 (fun w' => w'.cell? ⟨ga, oa + k, none⟩ = some ua ∧ w'.cell? ⟨gb, ob + k, none⟩ = some ub ∧ Below wr.heap.size wr w') (first | exact ⟨hxa, hxb, (Below.refl _ _).drew⟩ | exact ⟨below_cell (w := wr) ((Below.refl _ _).drew.trans hb') hgra hxa, below_cell (w := wr) ((Below.refl _ _).drew.trans hb') hgrb hxb, (Below.refl _ _).drew.trans hb'⟩) (first | (go_at_call 25; refine (eqIntS_same _ _ _ _ (inRow_below HRA.out ((Below.refl _ _).drew)) (inRow_below HRB.out ((Below.refl _ _).drew))).mono ?_; rintro e w' ⟨rfl, hb'⟩))
        go_wp2
        obtain ⟨-, -, hS⟩ := ‹World.cell? _ _ = _ ∧ World.cell? _ _ = _ ∧ Below _ _ _›
        go_roundw
        case rel => exact ⟨k + 1, by omega, by go_num, hb.out.trans (hS.mono hb.out.size)⟩
        case measure => simp [intOf]; omega
      · go_wp2
        go_ret
        exact ⟨rfl, hb⟩

/-- The first k rows, empty rows behind them. -/
def fillM (m : List (List Int)) (k : Nat) : List (List Int) := m.take k ++ List.replicate (m.length - k) []
theorem fillM_zero (m : List (List Int)) : fillM m 0 = List.replicate m.length [] := by simp [fillM]
theorem fillM_all (m : List (List Int)) (k : Nat) (h : m.length ≤ k) : fillM m k = m := by
  rw [fillM, List.take_of_length_le h, show m.length - k = 0 by omega]; simp
theorem fillM_len (m : List (List Int)) (k : Nat) (h : k ≤ m.length) : (fillM m k).length = m.length := by simp [fillM]; omega
theorem fillM_set (m : List (List Int)) (k : Nat) (h : k < m.length) : (fillM m k).set k m[k] = fillM m (k + 1) := by
  rw [fillM, List.set_append_right _ _ (by simp; omega), List.length_take, Nat.min_eq_left (by omega), Nat.sub_self, show m.length - k = (m.length - (k + 1)) + 1 by omega, List.replicate_succ, List.set_cons_zero, fillM,
    List.take_succ_eq_append_getElem h, List.append_assoc]; rfl

set_option maxHeartbeats 400000 in
theorem toIntSS_any (v : Value) (m : List (List Int)) (w : World) (hn : m.length + cellsM m ≤ 2000000) (hin : InMat w v m) :
    Calls Tryz.prog 23 #[v] w fun e w' => ∃ v', e = .returned v' ∧ OwnMat w' w.heap.size w'.heap.size v' m ∧ Below w.heap.size w w' := by
  obtain ⟨a, c, rfl, hm, hp⟩ := hin
  unfold maxLen at hm
  by_cases h0 : m.length = 0
  · have hr : m = [] := List.eq_nil_of_length_eq_zero h0
    subst hr
    clear hp hm h0 hn
    go_enter Tryz.func23, Tryz.ntmps23
    go_wp2_with (at_make; refine wpList_new w.heap.size 0 (.slice none 0 0) rfl _ _ rfl Tryz.underlying23 Tryz.infoInts rfl (by decide) rfl rfl (by omega) (Nat.le_refl _) ?_; intro w1 hown1 hb1 hg1)
    have HO := hide hown1; have HB := hide hb1
    clear hown1 hb1 hg1
    go_wp2
    go_loop [4] (fun i => i = .int .i64 0) (fun _ => 0)
    case atStart => rfl
    case round =>
      obtain rfl := hrel
      go_wp2
      go_ret
      exact ⟨_, rfl, ownMat_fresh (n := 0) _ HO.out (HO.out.lt _ rfl).2, HB.out⟩
  · obtain ⟨g, o, rfl, hg, hcell⟩ := hp.resolve_left h0
    have HC := hide hcell
    clear hp hcell h0
    go_enter Tryz.func23, Tryz.ntmps23
    go_wp2_with (at_make; refine wpList_new w.heap.size m.length (.slice none 0 0) rfl _ _ rfl Tryz.underlying23 Tryz.infoInts rfl (by decide) rfl rfl (by omega) (Nat.le_refl _) ?_; intro w1 hown1 hb1 hg1)
    have HO := hide hown1; have HB := hide hb1
    clear hown1 hb1 hg1
    go_wp2
    go_loopw [4] (fun i w' => ∃ k : Nat, k ≤ m.length ∧ i = .int .i64 k ∧ OwnMat w' w.heap.size w'.heap.size (.slice (some ⟨w.heap.size, 0, none⟩) m.length m.length) (fillM m k) ∧ Below w.heap.size w w') (fun i _ => m.length - (intOf i).toNat)
    case atStart => exact ⟨0, Nat.zero_le _, rfl, by rw [fillM_zero]; exact ownMat_fresh _ HO.out (HO.out.lt _ rfl).2, HB.out⟩
    case round =>
      clear HO HB
      obtain ⟨k, hk, rfl, hown, hb⟩ := hrel
      have HO := hide hown; have HB := hide hb
      clear hown hb
      by_cases hlt : k < m.length
      · obtain ⟨u, hx, hr⟩ := HC.out k hlt
        have hx : wr.cell? ⟨g, o + k, none⟩ = some u := below_cell HB.out hg hx
        have HR := hide (inRow_below hr HB.out)
        have hfl := fillM_len m k hk
        have HF := hide (fillM_set m k hlt)
        have hrow : m[k].length ≤ 2000000 := by have := cells_row m k hlt; omega
        clear hr
        have HL := hide hfl
        clear hfl
        go_wp2_with (go_at_call 22; refine (toIntS_any _ _ _ hrow HR.out).mono ?_; rintro e w2 ⟨v2, rfl, ho2, hb2⟩; obtain ⟨a2, c2, rfl⟩ := own_slice ho2; have HO2 := hide ho2; have HB2 := hide hb2; clear ho2 hb2; have HM := hide (ownMat_below HO.out HB2.out); obtain ⟨u0, hx2, hf2, -, -, -⟩ := ownMat_row HM.out k (by rw [HL.out]; exact hlt))
        go_roundw
        case rel =>
          have hp := ownMat_put (hi' := w2.heap.size) HM.out k (by rw [HL.out]; exact hlt) HO2.out HB.out.size (Nat.le_refl _) HB2.out.size
          rw [HF.out] at hp
          exact ⟨k + 1, by omega, by go_num, ownMat_mono hp (Nat.le_refl _) (by simp), (HB.out.trans (HB2.out.mono HB.out.size)).setCell (Nat.le_refl _) _⟩
        case measure => simp [intOf]; omega
      · have HE : Hid (fillM m k = m) := hide (fillM_all _ _ (by omega))
        go_wp2
        go_ret
        exact ⟨_, rfl, by have := HO.out; rw [HE.out] at this; exact this, HB.out⟩

/-- The first k rows marked, from q on. -/
def markTo (m : List (List Int)) (q : Nat) : Nat → List (List Int)
  | 0 => m
  | k + 1 => (markTo m q k).set k (markR (m.getD k []).length (q + cellsM (m.take k)))
def markM (m : List (List Int)) (q : Nat) : List (List Int) := markTo m q m.length
theorem markTo_len (m : List (List Int)) (q k : Nat) : (markTo m q k).length = m.length := by
  induction k with
  | zero => rfl
  | succ k ih => rw [markTo, List.length_set, ih]
theorem markTo_at (m : List (List Int)) (q k i : Nat) (h : i < (markTo m q k).length) (hm : i < m.length) : (markTo m q k)[i] = if i < k then markR m[i].length (q + cellsM (m.take i)) else m[i] := by
  induction k with
  | zero => simp [markTo]
  | succ k ih =>
    simp only [markTo]
    by_cases e : k = i
    · subst e
      simp only [List.getElem_set_self]
      rw [if_pos (by omega), List.getD_eq_getElem?_getD, List.getElem?_eq_getElem hm]; rfl
    · rw [List.getElem_set_ne e, ih (by rw [markTo_len]; exact hm)]
      by_cases hl : i < k
      · rw [if_pos hl, if_pos (by omega)]
      · rw [if_neg hl, if_neg (by omega)]
theorem markM_len (m : List (List Int)) (q : Nat) : (markM m q).length = m.length := markTo_len m q _
theorem markM_at (m : List (List Int)) (q i : Nat) (h : i < (markM m q).length) (hm : i < m.length) : (markM m q)[i] = markR m[i].length (q + cellsM (m.take i)) := by
  have := markTo_at m q m.length i h hm
  rw [if_pos hm] at this; exact this

set_option maxHeartbeats 400000 in
theorem markIntSS_any (m : List (List Int)) (q lo hi : Nat) (v : Value) (w : World) (hn : m.length + cellsM m ≤ 1500000) (hq : q ≤ 2000000) (hv : OwnMat w lo hi v m) :
    Calls Tryz.prog 27 #[v, .int .i64 q] w fun e w' => e = .returned (.int .i64 (q + cellsM m : Nat)) ∧ OwnMat w' lo hi v (markM m q) ∧ Within lo hi w w' := by
  have hin := inMat_own hv
  obtain ⟨a, c, rfl, hm, hp⟩ := hin
  unfold maxLen at hm
  by_cases h0 : m.length = 0
  · have hr : m = [] := List.eq_nil_of_length_eq_zero h0
    subst hr
    have HV := hide hv
    clear hp hm h0 hn hv
    go_enter Tryz.func27, Tryz.ntmps27
    go_wp2
    go_loop [1, 5] (fun k i => i = .int .i64 0 ∧ k = .int .i64 q) (fun _ _ => 0)
    case atStart => exact ⟨rfl, rfl⟩
    case round =>
      obtain ⟨rfl, rfl⟩ := hrel
      go_wp2
      go_ret
      exact ⟨rfl, HV.out, within_refl _ _ _⟩
  · obtain ⟨g, o, rfl, hg, -⟩ := hp.resolve_left h0
    have ho : o = 0 := by
      obtain ⟨vs, hvs, -⟩ := hv
      rcases hvs.2 with ⟨e, _⟩ | ⟨g', cap, cur, e, _⟩
      · cases e
      · cases e; rfl
    subst ho
    have HV := hide hv
    clear hp h0 hv
    go_enter Tryz.func27, Tryz.ntmps27
    go_wp2
    go_loopw [1, 5] (fun k i w' => ∃ j t : Nat, j ≤ m.length ∧ i = .int .i64 j ∧ k = .int .i64 (q + t : Nat) ∧ cellsM (m.take j) = t ∧ OwnMat w' lo hi (.slice (some ⟨g, 0, none⟩) m.length c) (markTo m q j) ∧ Within lo hi w w') (fun _ i _ => m.length - (intOf i).toNat)
    case atStart => exact ⟨0, 0, Nat.zero_le _, rfl, rfl, by simp [cellsM], HV.out, within_refl _ _ _⟩
    case round =>
      obtain ⟨j, t, hj, rfl, rfl, ht, hown, hw⟩ := hrel
      have HT := hide ht; have HO := hide hown; have HW := hide hw
      have hle : t ≤ 1500000 := by have := cells_take m j; omega
      clear ht hown hw
      by_cases hlt : j < m.length
      · have hl := markTo_len m q j
        obtain ⟨u, hx, -, hu, huh, hset⟩ := ownMat_row HO.out j (by rw [hl]; exact hlt)
        have ha := markTo_at m q j j (by rw [hl]; exact hlt) hlt
        rw [if_neg (by omega)] at ha
        rw [ha] at hu hset
        have HU := hide hu; have HH := hide huh; have HS := hide hset
        have hrow : m[j].length ≤ 2000000 := by have := cells_row m j hlt; omega
        have HC := hide (cells_snoc m j hlt)
        have HD : Hid ((markTo m q j).set j (markR m[j].length (q + t)) = markTo m q (j + 1)) := hide (by
          rw [markTo, HT.out, List.getD_eq_getElem?_getD, List.getElem?_eq_getElem hlt]; rfl)
        clear hl ha hu huh hset
        obtain ⟨n, hnn⟩ : ∃ n, n = m[j].length := ⟨_, rfl⟩
        rw [← hnn] at HU hrow HC HD HS
        clear hnn
        go_wp2_with (go_at_call 26; refine (markIntS_any n (q + t) _ _ _ _ hrow (by omega) HU.out).mono ?_; rintro e w2 ⟨rfl, ho2, hg2⟩; have HO2 := hide ho2; have HG2 := hide hg2; clear ho2 hg2)
        go_roundw
        case rel =>
          have h1 := HS.out _ (markR n (q + t)) HO2.out (markR_len _ _) HG2.out
          rw [HD.out] at h1
          exact ⟨j + 1, t + n, by omega, by go_num, by go_num, by rw [HC.out, HT.out], h1, within_trans HW.out (within_grown HG2.out fun k hk => ⟨(HU.out.lt k hk).1, HH.out k hk⟩)⟩
        case measure => simp [intOf]; omega
      · obtain rfl : j = m.length := by omega
        have HA := hide (cells_all m m.length (Nat.le_refl _))
        go_wp2
        go_ret
        exact ⟨ret_int (by rw [← HA.out, HT.out]), HO.out, HW.out⟩

set_option maxHeartbeats 400000 in
theorem heldIntSS_any (m : List (List Int)) (q : Nat) (v : Value) (w : World) (hn : m.length + cellsM m ≤ 1500000) (hq : q ≤ 2000000) (hv : InMat w v (markM m q)) :
    Calls Tryz.prog 28 #[v, .int .i64 q] w fun e w' => e = .returned (.int .i64 (q + cellsM m : Nat)) ∧ Below w.heap.size w w' := by
  have hl := markM_len m q
  obtain ⟨a, c, rfl, -, hp⟩ := hv
  by_cases h0 : m.length = 0
  · have hr : m = [] := List.eq_nil_of_length_eq_zero h0
    subst hr
    clear hp h0 hn hl
    go_enter Tryz.func28, Tryz.ntmps28
    go_wp2
    go_loop [1, 5] (fun k i => i = .int .i64 0 ∧ k = .int .i64 q) (fun _ _ => 0)
    case atStart => exact ⟨rfl, rfl⟩
    case round =>
      obtain ⟨rfl, rfl⟩ := hrel
      go_wp2
      go_ret
      exact ⟨rfl, Below.refl _ _⟩
  · obtain ⟨g, o, rfl, hg, hcell⟩ := hp.resolve_left (by rw [hl]; exact h0)
    have HC := hide hcell; have HL := hide hl
    rw [hl]
    clear hp hcell h0 hl
    go_enter Tryz.func28, Tryz.ntmps28
    go_wp2
    go_loopw [1, 5] (fun k i w' => ∃ j t : Nat, j ≤ m.length ∧ i = .int .i64 j ∧ k = .int .i64 (q + t : Nat) ∧ cellsM (m.take j) = t ∧ Below w.heap.size w w') (fun _ i _ => m.length - (intOf i).toNat)
    case atStart => exact ⟨0, 0, Nat.zero_le _, rfl, rfl, by simp [cellsM], Below.refl _ _⟩
    case round =>
      obtain ⟨j, t, hj, rfl, rfl, ht, hb⟩ := hrel
      have HT := hide ht; have HB := hide hb
      have hle : t ≤ 1500000 := by have := cells_take m j; omega
      clear ht hb
      by_cases hlt : j < m.length
      · obtain ⟨u, hx, hr⟩ := HC.out j (by rw [HL.out]; exact hlt)
        have hx : wr.cell? ⟨g, o + j, none⟩ = some u := below_cell HB.out hg hx
        have hr := inRow_below hr HB.out
        rw [markM_at m q j _ hlt, HT.out] at hr
        have HR := hide hr
        have hrow : m[j].length ≤ 2000000 := by have := cells_row m j hlt; omega
        have HS := hide (cells_snoc m j hlt)
        clear hr
        obtain ⟨n, hnn⟩ : ∃ n, n = m[j].length := ⟨_, rfl⟩
        rw [← hnn] at HR hrow HS
        clear hnn
        go_wp2_with (go_at_call 65; refine (heldIntS_any n (q + t) _ _ hrow (by omega) HR.out).mono ?_; rintro e w2 ⟨rfl, hb2⟩; have HB2 := hide hb2; clear hb2)
        go_roundw
        case rel => exact ⟨j + 1, t + n, by omega, by go_num, by go_num, by rw [HS.out, HT.out], HB.out.trans (HB2.out.mono HB.out.size)⟩
        case measure => simp [intOf]; omega
      · obtain rfl : j = m.length := by omega
        have HA := hide (cells_all m m.length (Nat.le_refl _))
        go_wp2
        go_ret
        exact ⟨ret_int (by rw [← HA.out, HT.out]), HB.out⟩
end Go.Proofs.YtldbgkmgmhlbiaaGreat
/-
  ImageOk, of the model and of the program.
-/
namespace Go.Proofs.YtldbgkmgmhlbiaaGreat
open Go.RowKit

def cellOk (x : Int) : Bool := x == 0 || x == 1
def rowOk (C : Nat) (r : List Int) : Bool := r.length == C && r.all cellOk
def widthM (m : List (List Int)) : Nat := (m.headD []).length
def okB (m : List (List Int)) : Bool := decide (1 ≤ m.length ∧ m.length ≤ 5) && decide (1 ≤ widthM m ∧ widthM m ≤ 5) && m.all (rowOk (widthM m))
theorem okB_no1 {m : List (List Int)} (h : ¬ (1 ≤ m.length ∧ m.length ≤ 5)) : okB m = false := by simp only [okB, decide_eq_false h, Bool.false_and]
theorem okB_no2 {m : List (List Int)} (h : ¬ (1 ≤ widthM m ∧ widthM m ≤ 5)) : okB m = false := by simp only [okB, decide_eq_false h, Bool.and_false, Bool.false_and]
theorem okB_no3 {m : List (List Int)} (k : Nat) (hk : k < m.length) (h : rowOk (widthM m) m[k] = false) : okB m = false := by
  have : m.all (rowOk (widthM m)) = false := by
    rw [Bool.eq_false_iff]; intro e
    rw [List.all_eq_true] at e
    have := e _ (List.getElem_mem hk)
    rw [h] at this; cases this
  simp only [okB, this, Bool.and_false]
theorem okB_yes {m : List (List Int)} (h1 : 1 ≤ m.length ∧ m.length ≤ 5) (h2 : 1 ≤ widthM m ∧ widthM m ≤ 5) (h3 : ∀ k, (h : k < m.length) → rowOk (widthM m) m[k] = true) : okB m = true := by
  have : m.all (rowOk (widthM m)) = true := by
    rw [List.all_eq_true]; intro r hr
    obtain ⟨k, hk, rfl⟩ := List.getElem_of_mem hr
    exact h3 k hk
  simp only [okB, decide_eq_true h1, decide_eq_true h2, this, Bool.and_self]
theorem rowOk_no1 {C : Nat} {r : List Int} (h : r.length ≠ C) : rowOk C r = false := by simp [rowOk, h]
theorem rowOk_no2 {C : Nat} {r : List Int} (j : Nat) (hj : j < r.length) (h : cellOk r[j] = false) : rowOk C r = false := by
  have : r.all cellOk = false := by
    rw [Bool.eq_false_iff]; intro e
    rw [List.all_eq_true] at e
    have := e _ (List.getElem_mem hj)
    rw [h] at this; cases this
  simp only [rowOk, this, Bool.and_false]
theorem rowOk_yes {C : Nat} {r : List Int} (h : r.length = C) (h3 : ∀ j, (h : j < r.length) → cellOk r[j] = true) : rowOk C r = true := by
  have : r.all cellOk = true := by
    rw [List.all_eq_true]; intro x hx
    obtain ⟨k, hk, rfl⟩ := List.getElem_of_mem hx
    exact h3 k hk
  simp [rowOk, h, this]
theorem cellOk_no {x : Int} (h0 : x ≠ 0) (h1 : x ≠ 1) : cellOk x = false := by simp [cellOk, h0, h1]
theorem width_at (m : List (List Int)) (h : 0 < m.length) : widthM m = m[0].length := by
  cases m with
  | nil => simp at h
  | cons r t => rfl

theorem l01In_any (n lo hi : Int) (w : World) :
    Calls Tryz.prog 88 #[.int .i64 n, .int .i64 lo, .int .i64 hi] w fun e w' => e = .returned (.bool (decide (lo ≤ n ∧ n ≤ hi))) ∧ w = w' := by
  by_cases h1 : lo ≤ n
  · by_cases h2 : n ≤ hi
    all_goals
      go_enter Tryz.func88, Tryz.ntmps88
      go_wp2
      go_ret
      exact ⟨ret_bool (by simp [h1, h2]; try omega), rfl⟩
  · go_enter Tryz.func88, Tryz.ntmps88
    go_wp2
    go_ret
    exact ⟨ret_bool (by simp; omega), rfl⟩
theorem sideOk_any (n : Int) (w : World) :
    Calls Tryz.prog 52 #[.int .i64 n] w fun e w' => e = .returned (.bool (decide (1 ≤ n ∧ n ≤ 5))) ∧ w = w' := by
  by_cases h1 : 1 ≤ n
  · by_cases h2 : n ≤ 5
    all_goals
      go_enter Tryz.func52, Tryz.ntmps52
      go_wp2
      go_ret
      exact ⟨ret_bool (by simp [h1, h2]; try omega), rfl⟩
  · go_enter Tryz.func52, Tryz.ntmps52
    go_wp2
    go_ret
    exact ⟨ret_bool (by simp; omega), rfl⟩
theorem colorOk_any (x : Int) (w : World) :
    Calls Tryz.prog 70 #[.int .i64 x] w fun e w' => e = .returned (.bool (cellOk x)) ∧ w = w' := by
  by_cases h1 : x = 0
  · subst h1
    go_enter Tryz.func70, Tryz.ntmps70
    go_wp2
    go_ret
    exact ⟨rfl, rfl⟩
  · have h0 : (x == 0) = false := by simp [h1]
    go_enter Tryz.func70, Tryz.ntmps70
    go_wp2
    go_ret
    exact ⟨ret_bool (by simp [cellOk, h1]), rfl⟩

set_option maxRecDepth 100000 in
set_option maxHeartbeats 1000000 in
theorem specImageOk_any (v : Value) (m : List (List Int)) (w : World) (hin : InMat w v m) :
    Calls Tryz.prog 61 #[v] w fun e w' => e = .returned (.bool (okB m)) ∧ w = w' := by
  obtain ⟨a, c, rfl, hm, hp⟩ := hin
  unfold maxLen at hm
  by_cases h1 : 1 ≤ m.length ∧ m.length ≤ 5
  · obtain ⟨g, o, rfl, hg, hcell⟩ := hp.resolve_left (by omega)
    have HC := hide hcell
    clear hp hcell
    have hpos : 0 < m.length := by omega
    obtain ⟨u0, hx0, hr0⟩ := HC.out 0 hpos
    rw [Nat.add_zero] at hx0
    obtain ⟨a0, c0, rfl, hm0, -⟩ := hr0
    unfold maxLen at hm0
    have HW := hide (width_at m hpos)
    have hrec : ∃ C, C = m[0].length := ⟨_, rfl⟩
    obtain ⟨C, hC⟩ := hrec
    rw [← hC] at hx0 hm0
    have HW : Hid (widthM m = C) := hide (by rw [HW.out, hC])
    clear hC
    have hR : decide ((1 : Int) ≤ m.length ∧ (m.length : Int) ≤ 5) = true := decide_eq_true (by omega)
    have HR := hide hR; clear hR
    by_cases h2 : 1 ≤ C ∧ C ≤ 5
    · have HK : Hid (decide ((1 : Int) ≤ C ∧ (C : Int) ≤ 5) = true) := hide (decide_eq_true (by omega))
      obtain ⟨R, hRR⟩ : ∃ R, R = m.length := ⟨_, rfl⟩
      have HL := hide hRR
      have H1 := hide h1; have H2 := hide h2
      rw [← hRR] at hm hpos HR h1 ⊢
      clear hRR
      go_enter Tryz.func61, Tryz.ntmps61
      go_wp2_with (first | (with_reducible refine (l01In_any (R : Int) 1 5 _).mono ?_; rw [HR.out]; rintro e w' ⟨rfl, rfl⟩) | (with_reducible refine (l01In_any (C : Int) 1 5 _).mono ?_; rw [HK.out]; rintro e w' ⟨rfl, rfl⟩))
      go_loop [21] (fun i => ∃ k : Nat, k ≤ R ∧ i = .int .i64 k ∧ ∀ t, (h : t < m.length) → t < k → rowOk C m[t] = true) (fun i => R - (intOf i).toNat)
      case atStart => exact ⟨0, Nat.zero_le _, rfl, fun t _ h => absurd h (Nat.not_lt_zero _)⟩
      case round =>
        obtain ⟨k, hk, rfl, hall⟩ := hrel
        have HA := hide hall
        clear hall
        by_cases hlt : k < R
        · have hk' : k < m.length := by rw [← HL.out]; exact hlt
          obtain ⟨u, hx, hr⟩ := HC.out k hk'
          obtain ⟨a', c', rfl, hm', hp'⟩ := hr
          unfold maxLen at hm'
          obtain ⟨n, hn⟩ : ∃ n, n = m[k].length := ⟨_, rfl⟩
          have HN := hide hn
          rw [← hn] at hx hm'
          by_cases hlen : n = C
          · subst hlen
            obtain ⟨g', o', rfl, hg', hcell'⟩ := hp'.resolve_left (by omega)
            have HC' := hide hcell'
            clear hp' hcell' hn
            go_wp2
            go_loop [34] (fun i => ∃ j : Nat, j ≤ n ∧ i = .int .i64 j ∧ ∀ t, (h : t < m[k].length) → t < j → cellOk m[k][t] = true) (fun i => n - (intOf i).toNat)
            case atStart => exact ⟨0, Nat.zero_le _, rfl, fun t _ h => absurd h (Nat.not_lt_zero _)⟩
            case round =>
              obtain ⟨j, hj, rfl, hall⟩ := hrel
              have HB := hide hall
              clear hall
              by_cases hlj : j < n
              · have hj' : j < m[k].length := by rw [← HN.out]; exact hlj
                have hy := HC'.out j hj'
                have hstep : cellOk m[k][j] = true → ∀ t, (h : t < m[k].length) → t < j + 1 → cellOk m[k][t] = true := fun hc t ht h => by
                  by_cases e : t = j
                  · subst e; exact hc
                  · exact HB.out t ht (by omega)
                have HS := hide hstep
                clear hstep
                have HNO := hide (fun h => okB_no3 (m := m) k hk' (by rw [HW.out]; exact rowOk_no2 j hj' h))
                obtain ⟨y, hyy⟩ : ∃ y, y = m[k][j] := ⟨_, rfl⟩
                rw [← hyy] at hy HS HNO
                clear hyy
                by_cases e0 : y = 0
                · subst e0
                  go_wp2
                  go_round
                  case rel => exact ⟨j + 1, by omega, by go_num, HS.out rfl⟩
                  case measure => simp [intOf]; omega
                · by_cases e1 : y = 1
                  · subst e1
                    clear e0
                    go_wp2
                    go_round
                    case rel => exact ⟨j + 1, by omega, by go_num, HS.out rfl⟩
                    case measure => simp [intOf]; omega
                  · have HF := hide (cellOk_no e0 e1)
                    have b0 : (y == 0) = false := by simp [e0]
                    have b1 : (y == 1) = false := by simp [e1]
                    have b2 : (y != 0) = true := by simp [e0]
                    have b3 : (y != 1) = true := by simp [e1]
                    clear e0 e1
                    go_wp2
                    go_ret
                    exact ⟨ret_bool (HNO.out HF.out).symm, rfl⟩
              · have HROW := hide (rowOk_yes (C := n) HN.out.symm (fun t ht => HB.out t ht (by have := HN.out; omega)))
                go_wp2
                go_round
                case rel =>
                  exact ⟨k + 1, by omega, by go_num, fun t ht h => by
                    by_cases e : t = k
                    · subst e; exact HROW.out
                    · exact HA.out t ht (by omega)⟩
                case measure => simp [intOf]; omega
          · have HF := hide (okB_no3 (m := m) k hk' (rowOk_no1 (by rw [HW.out, ← hn]; exact hlen)))
            clear hn
            have hne : ((n : Int) == (C : Int)) = false := by simp; omega
            go_wp2
            go_ret
            exact ⟨ret_bool HF.out.symm, rfl⟩
        · have HY := hide (okB_yes (m := m) H1.out (by rw [HW.out]; exact H2.out) (fun t ht => by rw [HW.out]; exact HA.out t ht (by have := HL.out; omega)))
          go_wp2
          go_ret
          exact ⟨ret_bool HY.out.symm, rfl⟩
    · have HK : Hid (decide ((1 : Int) ≤ C ∧ (C : Int) ≤ 5) = false) := hide (decide_eq_false (by omega))
      have HF := hide (okB_no2 (m := m) (by rw [HW.out]; exact h2))
      clear h1 h2
      go_enter Tryz.func61, Tryz.ntmps61
      go_wp2_with (first | (with_reducible refine (l01In_any (m.length : Int) 1 5 _).mono ?_; rw [HR.out]; rintro e w' ⟨rfl, rfl⟩) | (with_reducible refine (l01In_any (C : Int) 1 5 _).mono ?_; rw [HK.out]; rintro e w' ⟨rfl, rfl⟩))
      go_ret
      exact ⟨ret_bool HF.out.symm, rfl⟩
  · have HR : Hid (decide ((1 : Int) ≤ m.length ∧ (m.length : Int) ≤ 5) = false) := hide (decide_eq_false (by omega))
    have HF := hide (okB_no1 h1)
    clear hp h1
    go_enter Tryz.func61, Tryz.ntmps61
    go_wp2_with (first | (with_reducible refine (l01In_any (m.length : Int) 1 5 _).mono ?_; rw [HR.out]; rintro e w' ⟨rfl, rfl⟩))
    go_ret
    exact ⟨ret_bool HF.out.symm, rfl⟩

set_option maxRecDepth 100000 in
set_option maxHeartbeats 1000000 in
theorem implImageOk_any (v : Value) (m : List (List Int)) (w : World) (hin : InMat w v m) :
    Calls Tryz.prog 38 #[v] w fun e w' => e = .returned (.bool (okB m)) ∧ w = w' := by
  obtain ⟨a, c, rfl, hm, hp⟩ := hin
  unfold maxLen at hm
  by_cases h1 : 1 ≤ m.length ∧ m.length ≤ 5
  · obtain ⟨g, o, rfl, hg, hcell⟩ := hp.resolve_left (by omega)
    have HC := hide hcell
    clear hp hcell
    have hpos : 0 < m.length := by omega
    obtain ⟨u0, hx0, hr0⟩ := HC.out 0 hpos
    rw [Nat.add_zero] at hx0
    obtain ⟨a0, c0, rfl, hm0, -⟩ := hr0
    unfold maxLen at hm0
    have HW := hide (width_at m hpos)
    have hrec : ∃ C, C = m[0].length := ⟨_, rfl⟩
    obtain ⟨C, hC⟩ := hrec
    rw [← hC] at hx0 hm0
    have HW : Hid (widthM m = C) := hide (by rw [HW.out, hC])
    clear hC
    have hR : decide ((1 : Int) ≤ m.length ∧ (m.length : Int) ≤ 5) = true := decide_eq_true (by omega)
    have HR := hide hR; clear hR
    by_cases h2 : 1 ≤ C ∧ C ≤ 5
    · have HK : Hid (decide ((1 : Int) ≤ C ∧ (C : Int) ≤ 5) = true) := hide (decide_eq_true (by omega))
      obtain ⟨R, hRR⟩ : ∃ R, R = m.length := ⟨_, rfl⟩
      have HL := hide hRR
      have H1 := hide h1; have H2 := hide h2
      rw [← hRR] at hm hpos HR h1 ⊢
      clear hRR
      go_enter Tryz.func38, Tryz.ntmps38
      go_wp2_with (first | (with_reducible refine (sideOk_any (R : Int) _).mono ?_; rw [HR.out]; rintro e w' ⟨rfl, rfl⟩) | (with_reducible refine (sideOk_any (C : Int) _).mono ?_; rw [HK.out]; rintro e w' ⟨rfl, rfl⟩))
      go_loop [21] (fun i => ∃ k : Nat, k ≤ R ∧ i = .int .i64 k ∧ ∀ t, (h : t < m.length) → t < k → rowOk C m[t] = true) (fun i => R - (intOf i).toNat)
      case atStart => exact ⟨0, Nat.zero_le _, rfl, fun t _ h => absurd h (Nat.not_lt_zero _)⟩
      case round =>
        obtain ⟨k, hk, rfl, hall⟩ := hrel
        have HA := hide hall
        clear hall
        by_cases hlt : k < R
        · have hk' : k < m.length := by rw [← HL.out]; exact hlt
          obtain ⟨u, hx, hr⟩ := HC.out k hk'
          obtain ⟨a', c', rfl, hm', hp'⟩ := hr
          unfold maxLen at hm'
          obtain ⟨n, hn⟩ : ∃ n, n = m[k].length := ⟨_, rfl⟩
          have HN := hide hn
          rw [← hn] at hx hm'
          by_cases hlen : n = C
          · subst hlen
            obtain ⟨g', o', rfl, hg', hcell'⟩ := hp'.resolve_left (by omega)
            have HC' := hide hcell'
            clear hp' hcell' hn
            go_wp2
            go_loop [34] (fun i => ∃ j : Nat, j ≤ n ∧ i = .int .i64 j ∧ ∀ t, (h : t < m[k].length) → t < j → cellOk m[k][t] = true) (fun i => n - (intOf i).toNat)
            case atStart => exact ⟨0, Nat.zero_le _, rfl, fun t _ h => absurd h (Nat.not_lt_zero _)⟩
            case round =>
              obtain ⟨j, hj, rfl, hall⟩ := hrel
              have HB := hide hall
              clear hall
              by_cases hlj : j < n
              · have hj' : j < m[k].length := by rw [← HN.out]; exact hlj
                have hy := HC'.out j hj'
                have hstep : cellOk m[k][j] = true → ∀ t, (h : t < m[k].length) → t < j + 1 → cellOk m[k][t] = true := fun hc t ht h => by
                  by_cases e : t = j
                  · subst e; exact hc
                  · exact HB.out t ht (by omega)
                have HS := hide hstep
                clear hstep
                have HNO := hide (fun h => okB_no3 (m := m) k hk' (by rw [HW.out]; exact rowOk_no2 j hj' h))
                obtain ⟨y, hyy⟩ : ∃ y, y = m[k][j] := ⟨_, rfl⟩
                rw [← hyy] at hy HS HNO
                clear hyy
                by_cases e0 : y = 0
                · subst e0
                  go_wp2_with (go_at_call 70; refine (colorOk_any _ _).mono ?_; rw [show cellOk 0 = true from rfl]; rintro e w' ⟨rfl, rfl⟩)
                  go_round
                  case rel => exact ⟨j + 1, by omega, by go_num, HS.out rfl⟩
                  case measure => simp [intOf]; omega
                · by_cases e1 : y = 1
                  · subst e1
                    clear e0
                    go_wp2_with (go_at_call 70; refine (colorOk_any _ _).mono ?_; rw [show cellOk 1 = true from rfl]; rintro e w' ⟨rfl, rfl⟩)
                    go_round
                    case rel => exact ⟨j + 1, by omega, by go_num, HS.out rfl⟩
                    case measure => simp [intOf]; omega
                  · have HF := hide (cellOk_no e0 e1)
                    clear e0 e1
                    go_wp2_with (go_at_call 70; refine (colorOk_any _ _).mono ?_; rw [HF.out]; rintro e w' ⟨rfl, rfl⟩)
                    go_ret
                    exact ⟨ret_bool (HNO.out HF.out).symm, rfl⟩
              · have HROW := hide (rowOk_yes (C := n) HN.out.symm (fun t ht => HB.out t ht (by have := HN.out; omega)))
                go_wp2
                go_round
                case rel =>
                  exact ⟨k + 1, by omega, by go_num, fun t ht h => by
                    by_cases e : t = k
                    · subst e; exact HROW.out
                    · exact HA.out t ht (by omega)⟩
                case measure => simp [intOf]; omega
          · have HF := hide (okB_no3 (m := m) k hk' (rowOk_no1 (by rw [HW.out, ← hn]; exact hlen)))
            clear hn
            have hne : ((n : Int) == (C : Int)) = false := by simp; omega
            go_wp2
            go_ret
            exact ⟨ret_bool HF.out.symm, rfl⟩
        · have HY := hide (okB_yes (m := m) H1.out (by rw [HW.out]; exact H2.out) (fun t ht => by rw [HW.out]; exact HA.out t ht (by have := HL.out; omega)))
          go_wp2
          go_ret
          exact ⟨ret_bool HY.out.symm, rfl⟩
    · have HK : Hid (decide ((1 : Int) ≤ C ∧ (C : Int) ≤ 5) = false) := hide (decide_eq_false (by omega))
      have HF := hide (okB_no2 (m := m) (by rw [HW.out]; exact h2))
      clear h1 h2
      go_enter Tryz.func38, Tryz.ntmps38
      go_wp2_with (first | (with_reducible refine (sideOk_any (m.length : Int) _).mono ?_; rw [HR.out]; rintro e w' ⟨rfl, rfl⟩) | (with_reducible refine (sideOk_any (C : Int) _).mono ?_; rw [HK.out]; rintro e w' ⟨rfl, rfl⟩))
      go_ret
      exact ⟨ret_bool HF.out.symm, rfl⟩
  · have HR : Hid (decide ((1 : Int) ≤ m.length ∧ (m.length : Int) ≤ 5) = false) := hide (decide_eq_false (by omega))
    have HF := hide (okB_no1 h1)
    clear hp h1
    go_enter Tryz.func38, Tryz.ntmps38
    go_wp2_with (first | (with_reducible refine (sideOk_any (m.length : Int) _).mono ?_; rw [HR.out]; rintro e w' ⟨rfl, rfl⟩))
    go_ret
    exact ⟨ret_bool HF.out.symm, rfl⟩
end Go.Proofs.YtldbgkmgmhlbiaaGreat
/-
  What a call answers: a list of lists of its own, alone or with a bool.
-/
namespace Go.Proofs.YtldbgkmgmhlbiaaGreat
open Go.RowKit

/-- The call answers a list of lists of its own. -/
def MatRes (rows : List (List Int)) (w : World) (e : Ending) (w' : World) : Prop := ∃ v, e = .returned v ∧ OwnMat w' w.heap.size w'.heap.size v rows ∧ Below w.heap.size w w'
theorem matRes_nil {w w' : World} (h : Below w.heap.size w w') : MatRes [] w (.returned (.slice none 0 0)) w' := ⟨_, rfl, ownMat_nil _ _ _, h⟩
/-- The call answers a list of lists of its own, and a bool. -/
def MatRes2 (rows : List (List Int)) (b : Bool) (w : World) (e : Ending) (w' : World) : Prop := ∃ v, e = .returned (.tuple #[v, .bool b]) ∧ OwnMat w' w.heap.size w'.heap.size v rows ∧ Below w.heap.size w w'
theorem matRes2_nil {w w' : World} (h : Below w.heap.size w w') : MatRes2 [] false w (.returned (.tuple #[.slice none 0 0, .bool false])) w' := ⟨_, rfl, ownMat_nil _ _ _, h⟩
theorem ownMat_some {w : World} {lo hi : Nat} {v : Value} {m : List (List Int)} (h : OwnMat w lo hi v m) (h0 : 0 < m.length) : ∃ g c, v = .slice (some ⟨g, 0, none⟩) m.length c := by
  obtain ⟨vs, hv, -⟩ := h
  obtain ⟨g, c, rfl, -⟩ := own_some hv h0
  exact ⟨g, c, rfl⟩
end Go.Proofs.YtldbgkmgmhlbiaaGreat
/-
  Images by their cells: plain lists, what reads them and what owns them.
-/
namespace Go.Proofs.YtldbgkmgmhlbiaaGreat
open Go.RowKit

def rowF (C : Nat) (f : Nat → Int) : List Int := (List.range C).map f
/-- The list of R rows of C cells. -/
def mkM (R C : Nat) (f : Nat → Nat → Int) : List (List Int) := (List.range R).map fun y => rowF C (f y)
theorem rowF_len (C : Nat) (f : Nat → Int) : (rowF C f).length = C := by simp [rowF]
theorem rowF_at (C : Nat) (f : Nat → Int) (x : Nat) (h : x < (rowF C f).length) : (rowF C f)[x] = f x := by simp [rowF]
theorem mkM_len (R C : Nat) (f : Nat → Nat → Int) : (mkM R C f).length = R := by simp [mkM]
theorem mkM_at (R C : Nat) (f : Nat → Nat → Int) (y : Nat) (h : y < (mkM R C f).length) : (mkM R C f)[y] = rowF C (f y) := by simp [mkM]
theorem rowF_congr {C : Nat} {f g : Nat → Int} (h : ∀ x, x < C → f x = g x) : rowF C f = rowF C g := List.map_congr_left fun x hx => h x (List.mem_range.1 hx)
theorem mkM_congr {R C : Nat} {f g : Nat → Nat → Int} (h : ∀ y x, y < R → x < C → f y x = g y x) : mkM R C f = mkM R C g :=
  List.map_congr_left fun y hy => rowF_congr fun x hx => h y x (List.mem_range.1 hy) hx
theorem mkM_succ (R C : Nat) (f : Nat → Nat → Int) : mkM (R + 1) C f = mkM R C f ++ [rowF C (f R)] := by simp [mkM, List.range_succ]
theorem rowF_set (C : Nat) (f : Nat → Int) (x : Nat) (v : Int) : (rowF C f).set x v = rowF C fun j => if j = x then v else f j := by
  apply List.ext_getElem
  · simp [rowF]
  · intro j h1 h2
    rw [List.getElem_set]
    by_cases e : x = j
    · subst e; simp [rowF]
    · simp [rowF, e, Ne.symm e]
theorem mkM_set (R C : Nat) (f : Nat → Nat → Int) (y x : Nat) (v : Int) : (mkM R C f).set y (rowF C fun j => if j = x then v else f y j) = mkM R C fun a b => if a = y ∧ b = x then v else f a b := by
  apply List.ext_getElem
  · simp [mkM]
  · intro j h1 h2
    rw [List.getElem_set]
    by_cases e : y = j
    · subst e; simp [mkM]
    · simp [mkM, e, Ne.symm e]
theorem cells_mkM (R C : Nat) (f : Nat → Nat → Int) : cellsM (mkM R C f) = R * C := by
  induction R with
  | zero => simp [mkM, cellsM]
  | succ R ih =>
    rw [mkM_succ]
    simp only [cellsM, List.map_append, List.sum_append, List.map_cons, List.map_nil, List.sum_cons, List.sum_nil, rowF_len] at ih ⊢
    rw [ih, Nat.succ_mul]; omega

/-- The cells of a valid image. -/
structure Img (R C : Nat) (f : Nat → Nat → Int) : Prop where
  r1 : 1 ≤ R
  r2 : R ≤ 5
  c1 : 1 ≤ C
  c2 : C ≤ 5
  cell : ∀ y x, y < R → x < C → f y x = 0 ∨ f y x = 1
theorem ok_img {m : List (List Int)} (h : okB m = true) : ∃ R C f, m = mkM R C f ∧ Img R C f := by
  simp only [okB, Bool.and_eq_true, decide_eq_true_eq, List.all_eq_true] at h
  obtain ⟨⟨⟨h1, h2⟩, h3, h4⟩, h5⟩ := h
  have hrow : ∀ y, (hy : y < m.length) → m[y].length = widthM m ∧ ∀ x, (hx : x < m[y].length) → m[y][x] = 0 ∨ m[y][x] = 1 := fun y hy => by
    have := h5 _ (List.getElem_mem hy)
    simp only [rowOk, Bool.and_eq_true, beq_iff_eq, List.all_eq_true] at this
    refine ⟨this.1, fun x hx => ?_⟩
    have := this.2 _ (List.getElem_mem hx)
    simpa [cellOk] using this
  refine ⟨m.length, widthM m, fun y x => (m.getD y []).getD x 0, ?_, h1, h2, h3, h4, fun y x hy hx => ?_⟩
  · apply List.ext_getElem
    · simp [mkM]
    · intro y hy1 hy2
      rw [mkM_at]
      apply List.ext_getElem
      · rw [rowF_len, (hrow y hy1).1]
      · intro x hx1 hx2
        rw [rowF_at, List.getD_eq_getElem?_getD, List.getD_eq_getElem?_getD, List.getElem?_eq_getElem hy1, Option.getD_some, List.getElem?_eq_getElem hx1]; rfl
  · have hx' : x < m[y].length := by rw [(hrow y hy).1]; exact hx
    have := (hrow y hy).2 x hx'
    simpa [List.getD_eq_getElem?_getD, List.getElem?_eq_getElem hy, List.getElem?_eq_getElem hx'] using this
theorem width_mkM {R C : Nat} {f : Nat → Nat → Int} (h : 0 < R) : widthM (mkM R C f) = C := by
  rw [width_at _ (by rw [mkM_len]; exact h), mkM_at, rowF_len]
theorem img_ok {R C : Nat} {f : Nat → Nat → Int} (h : Img R C f) : okB (mkM R C f) = true := by
  have hw := width_mkM (C := C) (f := f) (show 0 < R by have := h.r1; omega)
  refine okB_yes (by rw [mkM_len]; exact ⟨h.r1, h.r2⟩) (by rw [hw]; exact ⟨h.c1, h.c2⟩) fun k hk => ?_
  rw [hw, mkM_at]
  have hk' : k < R := by rw [mkM_len] at hk; exact hk
  refine rowOk_yes (rowF_len _ _) fun j hj => ?_
  rw [rowF_len] at hj
  rw [rowF_at]
  rcases h.cell k j hk' hj with e | e <;> rw [e] <;> rfl

/-- An image that is read: its rows' slices and its cells. -/
theorem inMat_img {w : World} {v : Value} {R C : Nat} {f : Nat → Nat → Int} (h : InMat w v (mkM R C f)) (hR : 0 < R) (hC : 0 < C) :
    ∃ g o c, v = .slice (some ⟨g, o, none⟩) R c ∧ g < w.heap.size ∧ ∀ y, y < R → ∃ g' o' c', w.cell? ⟨g, o + y, none⟩ = some (.slice (some ⟨g', o', none⟩) C c') ∧ g' < w.heap.size ∧ ∀ x, x < C → w.cell? ⟨g', o' + x, none⟩ = some (.int .i64 (f y x)) := by
  obtain ⟨a, c, rfl, -, hp⟩ := h
  obtain ⟨g, o, rfl, hg, hc⟩ := hp.resolve_left (by rw [mkM_len]; omega)
  refine ⟨g, o, c, by rw [mkM_len], hg, fun y hy => ?_⟩
  obtain ⟨u, hu, hr⟩ := hc y (by rw [mkM_len]; exact hy)
  rw [mkM_at] at hr
  obtain ⟨a', c', rfl, -, hp'⟩ := hr
  obtain ⟨g', o', rfl, hg', hc'⟩ := hp'.resolve_left (by rw [rowF_len]; omega)
  rw [rowF_len] at hu
  refine ⟨g', o', c', hu, hg', fun x hx => ?_⟩
  rw [hc' x (by rw [rowF_len]; exact hx), rowF_at]

/-- A cell of an image that the call owns: where it lies, and the image with another number in it. -/
theorem ownMat_cell {w : World} {lo hi g n c R C : Nat} {f : Nat → Nat → Int} (h : OwnMat w lo hi (.slice (some ⟨g, 0, none⟩) n c) (mkM R C f)) (y x : Nat) (hy : y < R) (hx : x < C) :
    ∃ g' c', w.cell? ⟨g, y, none⟩ = some (.slice (some ⟨g', 0, none⟩) C c') ∧ w.cell? ⟨g', x, none⟩ = some (.int .i64 (f y x)) ∧ w.frozen? ⟨g', x, none⟩ = false ∧ lo ≤ g' ∧ g' < hi ∧
      ∀ z : Int, OwnMat (w.setCell ⟨g', x, none⟩ (.int .i64 z)) lo hi (.slice (some ⟨g, 0, none⟩) n c) (mkM R C fun a b => if a = y ∧ b = x then z else f a b) := by
  obtain ⟨u, hu, -, hr, hh, hset⟩ := ownMat_row h y (by rw [mkM_len]; exact hy)
  rw [mkM_at, rowF_len] at hr hset
  obtain ⟨g', c', rfl, hlo, -, -, -, hc, hf⟩ := own_some hr (by omega)
  refine ⟨g', c', hu, ?_, hf x, hlo, hh _ rfl, fun z => ?_⟩
  · rw [hc x hx, ints_at _ x (by rw [rowF_len]; exact hx), rowF_at]
  · obtain ⟨h1, h2⟩ := hr.stored x (.int .i64 z)
    rw [ints_set, rowF_set] at h1
    have := hset _ _ h1 (rowF_len _ _) h2
    rw [mkM_set] at this; exact this

/-- The image as rows of five numbers, -1 where it has no cell. -/
def imgF (R C : Nat) (f : Nat → Nat → Int) (i : Nat) : Int := if i / 5 < R ∧ i % 5 < C then f (i / 5) (i % 5) else -1
theorem imgF_at (R C : Nat) (f : Nat → Nat → Int) (y x : Nat) (h : x < 5) : imgF R C f (5 * y + x) = if y < R ∧ x < C then f y x else -1 := by
  rw [imgF, show (5 * y + x) / 5 = y by omega, show (5 * y + x) % 5 = x by omega]
theorem imgF_range {R C : Nat} {f : Nat → Nat → Int} (h : Img R C f) (i : Nat) : imgF R C f i = -1 ∨ imgF R C f i = 0 ∨ imgF R C f i = 1 := by
  unfold imgF
  split
  · rename_i hh; rcases h.cell _ _ hh.1 hh.2 with e | e <;> simp [e]
  · exact .inl rfl

/-- How many of the first k numbers have p. -/
def cnt (p : Nat → Bool) : Nat → Nat
  | 0 => 0
  | k + 1 => cnt p k + if p k then 1 else 0
theorem cnt_yes {p : Nat → Bool} {k : Nat} (h : p k = true) : cnt p (k + 1) = cnt p k + 1 := by rw [cnt, if_pos h]
theorem cnt_no {p : Nat → Bool} {k : Nat} (h : p k = false) : cnt p (k + 1) = cnt p k := by rw [cnt, if_neg (by simp [h])]; rfl
theorem cnt_skip {p : Nat → Bool} {k l : Nat} (hkl : k ≤ l) (h : ∀ i, k ≤ i → i < l → p i = false) : cnt p l = cnt p k := by
  induction l with
  | zero => obtain rfl : k = 0 := by omega
            rfl
  | succ l ih =>
    by_cases e : k = l + 1
    · rw [e]
    · rw [cnt_no (h l (by omega) (by omega)), ih (by omega) fun i h1 h2 => h i h1 (by omega)]
theorem cnt_le (p : Nat → Bool) (k : Nat) : cnt p k ≤ k := by
  induction k with
  | zero => exact Nat.le_refl _
  | succ k ih => rw [cnt]; split <;> omega
def zeroM (_y _x : Nat) : Int := 0
end Go.Proofs.YtldbgkmgmhlbiaaGreat
/-
  Shortest paths by rounds, pure: rounds over a list of steps; as many rounds as there are places suffice.
-/
namespace Go.Proofs.YtldbgkmgmhlbiaaGreat

/-- A step: from where, to where, how long. -/
structure Edge where
  s : Nat
  t : Nat
  l : Int
def updD (d : Nat → Int) (k : Nat) (v : Int) (i : Nat) : Int := if i = k then v else d i
/-- A step is taken: the lengths, and whether one became less. -/
def rx (p : (Nat → Int) × Bool) (e : Edge) : (Nat → Int) × Bool := if p.1 e.s + e.l < p.1 e.t then (updD p.1 e.t (p.1 e.s + e.l), true) else p
def rxs (E : List Edge) (p : (Nat → Int) × Bool) : (Nat → Int) × Bool := E.foldl rx p
/-- So many rounds at most: the lengths where one of them finds nothing shorter. -/
def bell (E : List Edge) : Nat → (Nat → Int) → Option (Nat → Int)
  | 0, _ => none
  | k + 1, d => if (rxs E (d, false)).2 then bell E k (rxs E (d, false)).1 else some (rxs E (d, false)).1

theorem rx_le (p : (Nat → Int) × Bool) (e : Edge) (v : Nat) : (rx p e).1 v ≤ p.1 v := by
  unfold rx
  split
  · simp only [updD]; split
    · rename_i h1 h2; subst h2; omega
    · exact Int.le_refl _
  · exact Int.le_refl _
theorem rxs_le : ∀ (E : List Edge) (p : (Nat → Int) × Bool) (v : Nat), (rxs E p).1 v ≤ p.1 v
  | [], p, v => Int.le_refl _
  | e :: E, p, v => by
    have h1 := rxs_le E (rx p e) v
    have h2 := rx_le p e v
    show (rxs E (rx p e)).1 v ≤ p.1 v
    omega
theorem rxs_append (E F : List Edge) (p : (Nat → Int) × Bool) : rxs (E ++ F) p = rxs F (rxs E p) := by simp [rxs, List.foldl_append]
/-- What is marked stays so. -/
theorem rxs_true : ∀ (E : List Edge) (d : Nat → Int), (rxs E (d, true)).2 = true
  | [], d => rfl
  | e :: E, d => by
    show (rxs E (rx (d, true) e)).2 = true
    unfold rx
    split
    · exact rxs_true E _
    · exact rxs_true E _
/-- The lengths do not hang on the mark. -/
theorem rxs_mark : ∀ (E : List Edge) (d : Nat → Int) (a b : Bool), (rxs E (d, a)).1 = (rxs E (d, b)).1
  | [], d, a, b => rfl
  | e :: E, d, a, b => by
    show (rxs E (rx (d, a) e)).1 = (rxs E (rx (d, b) e)).1
    unfold rx
    simp only
    split
    · rfl
    · exact rxs_mark E d a b
/-- Not marked: nothing has changed, and no step is shorter. -/
theorem rxs_quiet : ∀ (E : List Edge) (d : Nat → Int), (rxs E (d, false)).2 = false → (rxs E (d, false)).1 = d ∧ ∀ e ∈ E, d e.t ≤ d e.s + e.l
  | [], d, _ => ⟨rfl, fun e he => by simp at he⟩
  | e :: E, d, h => by
    have h' : (rxs E (rx (d, false) e)).2 = false := h
    by_cases hlt : d e.s + e.l < d e.t
    · have : rx (d, false) e = (updD d e.t (d e.s + e.l), true) := by unfold rx; rw [if_pos hlt]
      rw [this, rxs_true] at h'; cases h'
    · have h0 : rx (d, false) e = (d, false) := by unfold rx; rw [if_neg hlt]
      rw [h0] at h'
      obtain ⟨g1, g2⟩ := rxs_quiet E d h'
      refine ⟨?_, fun x hx => ?_⟩
      · show (rxs E (rx (d, false) e)).1 = d
        rw [h0]; exact g1
      · rcases List.mem_cons.1 hx with rfl | hx
        · omega
        · exact g2 x hx
theorem rxs_still (E : List Edge) (d : Nat → Int) (h : ∀ e ∈ E, d e.t ≤ d e.s + e.l) : rxs E (d, false) = (d, false) := by
  induction E with
  | nil => rfl
  | cons e E ih =>
    have h1 := h e List.mem_cons_self
    show rxs E (rx (d, false) e) = _
    have h9 : ¬ (d e.s + e.l < d e.t) := by omega
    have h0 : rx (d, false) e = (d, false) := by unfold rx; rw [if_neg h9]
    rw [h0]; exact ih fun x hx => h x (List.mem_cons_of_mem _ hx)
/-- Behind a round each step has been taken. -/
theorem rxs_step (E : List Edge) (p : (Nat → Int) × Bool) (hne : ∀ e ∈ E, e.s ≠ e.t) {e : Edge} (he : e ∈ E) : (rxs E p).1 e.t ≤ p.1 e.s + e.l := by
  obtain ⟨A, B, rfl⟩ := List.append_of_mem he
  rw [rxs_append]
  show (rxs B (rx (rxs A p) e)).1 e.t ≤ _
  have h1 := rxs_le B (rx (rxs A p) e) e.t
  have h2 := rxs_le A p e.s
  have h3 : (rx (rxs A p) e).1 e.t ≤ (rxs A p).1 e.s + e.l := by
    unfold rx
    split
    · simp [updD]
    · omega
  omega

/-- The lengths come from a tree: each place has length 0, or a step that leads there from an earlier place. -/
structure TreeD (n : Nat) (E : List Edge) (D : Nat → Int) (r : Nat → Nat) : Prop where
  zero : ∀ v, D v ≤ 0
  fit : ∀ e ∈ E, D e.t ≤ D e.s + e.l
  tree : ∀ v, D v = 0 ∨ ∃ e ∈ E, e.t = v ∧ D e.s + e.l = D v ∧ r e.s < r v
/-- While the rounds run. -/
structure RunD (E : List Edge) (d : Nat → Int) (r : Nat → Nat) (T : Nat) : Prop where
  zero : ∀ v, d v ≤ 0
  late : ∀ v, r v ≤ T
  tree : ∀ v, (d v = 0 ∧ r v = 0) ∨ ∃ e ∈ E, e.t = v ∧ d e.s + e.l ≤ d v ∧ (d e.s + e.l = d v → r e.s < r v)
theorem runD_start (E : List Edge) : RunD E (fun _ => 0) (fun _ => 0) 0 := ⟨fun _ => Int.le_refl _, fun _ => Nat.le_refl _, fun _ => .inl ⟨rfl, rfl⟩⟩
theorem runD_rx {E : List Edge} {d : Nat → Int} {r : Nat → Nat} {T : Nat} {b : Bool} {e : Edge} (h : RunD E d r T) (he : e ∈ E) (hne : e.s ≠ e.t) : ∃ r' T', RunD E (rx (d, b) e).1 r' T' := by
  by_cases hlt : d e.s + e.l < d e.t
  · have e1 : (rx (d, b) e).1 = updD d e.t (d e.s + e.l) := by unfold rx; rw [if_pos hlt]
    rw [e1]
    refine ⟨fun v => if v = e.t then T + 1 else r v, T + 1, fun v => ?_, fun v => ?_, fun v => ?_⟩
    · unfold updD; split
      · have := h.zero e.t; omega
      · exact h.zero v
    · show (if v = e.t then T + 1 else r v) ≤ T + 1
      split
      · exact Nat.le_refl _
      · have := h.late v; omega
    · by_cases hv : v = e.t
      · subst hv
        refine .inr ⟨e, he, rfl, ?_, fun _ => ?_⟩
        · simp only [updD, if_neg hne, if_true]; exact Int.le_refl _
        · simp only [if_neg hne, if_true]; have := h.late e.s; omega
      · rcases h.tree v with ⟨g1, g2⟩ | ⟨x, hx, g1, g2, g3⟩
        · exact .inl ⟨by unfold updD; rw [if_neg hv]; exact g1, by simp only [if_neg hv]; exact g2⟩
        · refine .inr ⟨x, hx, g1, ?_, ?_⟩
          · simp only [updD, if_neg hv]
            split
            · rename_i h9; rw [h9] at g2; omega
            · exact g2
          · simp only [updD, if_neg hv]
            by_cases h9 : x.s = e.t
            · simp only [if_pos h9]
              intro h10; rw [h9] at g2; omega
            · simp only [if_neg h9]; exact g3
  · have e1 : (rx (d, b) e).1 = d := by unfold rx; rw [if_neg hlt]
    rw [e1]; exact ⟨r, T, h⟩
theorem runD_rxs {E : List Edge} (hne : ∀ e ∈ E, e.s ≠ e.t) : ∀ (F : List Edge), (∀ e ∈ F, e ∈ E) → ∀ (p : (Nat → Int) × Bool) (r : Nat → Nat) (T : Nat), RunD E p.1 r T → ∃ r' T', RunD E (rxs F p).1 r' T'
  | [], _, p, r, T, h => ⟨r, T, h⟩
  | e :: F, hF, p, r, T, h => by
    obtain ⟨d, b⟩ := p
    obtain ⟨r', T', h'⟩ := runD_rx (b := b) h (hF e List.mem_cons_self) (hne e (hF e List.mem_cons_self))
    exact runD_rxs hne F (fun x hx => hF x (List.mem_cons_of_mem _ hx)) (rx (d, b) e) r' T' h'
/-- Where the rounds come to an end: a tree of shortest paths. -/
theorem bell_tree {E : List Edge} (hne : ∀ e ∈ E, e.s ≠ e.t) : ∀ (k : Nat) (d : Nat → Int) (r : Nat → Nat) (T : Nat), RunD E d r T → ∀ D, bell E k d = some D → ∃ n r', TreeD n E D r' := by
  intro k
  induction k with
  | zero => intro d r T _ D h; simp [bell] at h
  | succ k ih =>
    intro d r T h D hD
    obtain ⟨r', T', h'⟩ := runD_rxs hne E (fun _ h => h) (d, false) r T h
    unfold bell at hD
    split at hD
    · exact ih _ r' T' h' D hD
    · rename_i hq
      obtain ⟨g1, g2⟩ := rxs_quiet E d (by simpa using hq)
      obtain rfl := Option.some.inj hD
      rw [g1]
      refine ⟨0, r, h.zero, g2, fun v => ?_⟩
      rcases h.tree v with ⟨g, -⟩ | ⟨e, he, h1, h2, h3⟩
      · exact .inl g
      · have := g2 e he
        rw [h1] at this
        exact .inr ⟨e, he, h1, by omega, h3 (by omega)⟩
theorem cnt_lt {p q : Nat → Bool} : ∀ n, (∀ i, i < n → p i = true → q i = true) → (∃ i, i < n ∧ p i = false ∧ q i = true) → cnt p n < cnt q n
  | 0, _, ⟨i, hi, _⟩ => by omega
  | n + 1, h, ⟨i, hi, h1, h2⟩ => by
    have hmono : cnt p n ≤ cnt q n := cnt_mono n fun j hj => h j (by omega)
    by_cases e : i = n
    · subst e
      rw [cnt_no h1, cnt_yes h2]; omega
    · have := cnt_lt n (fun j hj => h j (by omega)) ⟨i, by omega, h1, h2⟩
      cases hp : p n with
      | true => rw [cnt_yes hp, cnt_yes (h n (by omega) hp)]; omega
      | false =>
        rw [cnt_no hp]
        cases hq : q n with
        | true => rw [cnt_yes hq]; omega
        | false => rw [cnt_no hq]; omega
where
  cnt_mono {p q : Nat → Bool} : ∀ n, (∀ i, i < n → p i = true → q i = true) → cnt p n ≤ cnt q n
    | 0, _ => Nat.le_refl _
    | n + 1, h => by
      have h1 := cnt_mono n fun i hi => h i (by omega)
      cases hp : p n with
      | true => rw [cnt_yes hp, cnt_yes (h n (by omega) hp)]; omega
      | false =>
        rw [cnt_no hp]
        cases hq : q n with
        | true => rw [cnt_yes hq]; omega
        | false => rw [cnt_no hq]; omega
/-- The places that have not yet their least length. -/
def open' (D d : Nat → Int) (v : Nat) : Bool := d v != D v
theorem tree_root {n : Nat} {E : List Edge} {D : Nat → Int} {r : Nat → Nat} (h : TreeD n E D r) (hin : ∀ e ∈ E, e.s < n) : ∀ (m v : Nat), r v ≤ m → v < n → ∃ u, u < n ∧ D u = 0 := by
  intro m
  induction m with
  | zero =>
    intro v hv hn
    rcases h.tree v with g | ⟨e, he, -, -, g⟩
    · exact ⟨v, hn, g⟩
    · omega
  | succ m ih =>
    intro v hv hn
    rcases h.tree v with g | ⟨e, he, -, -, g⟩
    · exact ⟨v, hn, g⟩
    · exact ih e.s (by omega) (hin e he)
theorem open_first {n : Nat} {E : List Edge} {D d : Nat → Int} {r : Nat → Nat} (h : TreeD n E D r) (hin : ∀ e ∈ E, e.s < n) (hd : ∀ v, d v ≤ 0) (hD : ∀ v, D v ≤ d v) : ∀ (m v : Nat), r v ≤ m → v < n → d v ≠ D v → ∃ e ∈ E, e.t < n ∧ d e.t ≠ D e.t ∧ d e.s = D e.s ∧ D e.s + e.l = D e.t := by
  intro m
  induction m with
  | zero =>
    intro v hv hn ho
    rcases h.tree v with g | ⟨e, he, -, -, g⟩
    · exfalso; have := hd v; have := hD v; omega
    · omega
  | succ m ih =>
    intro v hv hn ho
    rcases h.tree v with g | ⟨e, he, g1, g2, g3⟩
    · exfalso; have := hd v; have := hD v; omega
    · by_cases hs : d e.s = D e.s
      · exact ⟨e, he, by rw [g1]; exact hn, by rw [g1]; exact ho, hs, by rw [g1]; exact g2⟩
      · exact ih e.s (by omega) (hin e he) hs
/-- No length falls below the least. -/
theorem rxs_ge {E : List Edge} {D : Nat → Int} (hfit : ∀ e ∈ E, D e.t ≤ D e.s + e.l) : ∀ (F : List Edge), (∀ e ∈ F, e ∈ E) → ∀ (p : (Nat → Int) × Bool), (∀ v, D v ≤ p.1 v) → ∀ v, D v ≤ (rxs F p).1 v
  | [], _, p, h, v => h v
  | e :: F, hF, p, h, v => by
    refine rxs_ge hfit F (fun x hx => hF x (List.mem_cons_of_mem _ hx)) (rx p e) (fun u => ?_) v
    unfold rx
    split
    · simp only [updD]; split
      · rename_i h9; subst h9
        have h1 := hfit e (hF e List.mem_cons_self); have h2 := h e.s; omega
      · exact h u
    · exact h u
/-- As many rounds as there are open places and one more come to the end. -/
theorem bell_end {n : Nat} {E : List Edge} {D : Nat → Int} {r : Nat → Nat} (h : TreeD n E D r) (hin : ∀ e ∈ E, e.s < n ∧ e.t < n) (hne : ∀ e ∈ E, e.s ≠ e.t) :
    ∀ (k : Nat) (d : Nat → Int), (∀ v, d v ≤ 0) → (∀ v, D v ≤ d v) → cnt (open' D d) n < k → ∃ D', (∀ v, v < n → D' v = D v) ∧ ∀ j, k ≤ j → bell E j d = some D' := by
  intro k
  induction k with
  | zero => intro d _ _ hc; omega
  | succ k ih =>
    intro d hd hD hc
    cases hm : (rxs E (d, false)).2 with
    | false =>
      obtain ⟨g1, g2⟩ := rxs_quiet E d hm
      refine ⟨d, fun v hv => ?_, fun j hj => ?_⟩
      · rcases Decidable.em (d v = D v) with e | e
        · exact e
        · exfalso
          obtain ⟨x, hx, -, h2, h3, h4⟩ := open_first h (fun x hx => (hin x hx).1) hd hD (r v) v (Nat.le_refl _) hv e
          have h5 := g2 x hx; have h6 := hD x.t; omega
      · obtain ⟨i, rfl⟩ : ∃ i, j = i + 1 := ⟨j - 1, by omega⟩
        unfold bell
        rw [hm, g1]; rfl
    | true =>
      have hopen : ∃ v, v < n ∧ d v ≠ D v := by
        refine Decidable.byContradiction fun hno => ?_
        have hall : ∀ v, v < n → d v = D v := fun v hv => Decidable.byContradiction fun e => hno ⟨v, hv, e⟩
        have := rxs_still E d fun e he => by
          rw [hall _ (hin e he).1, hall _ (hin e he).2]; exact h.fit e he
        rw [this] at hm; cases hm
      obtain ⟨v, hv, ho⟩ := hopen
      obtain ⟨x, hx, h1, h2, h3, h4⟩ := open_first h (fun x hx => (hin x hx).1) hd hD (r v) v (Nat.le_refl _) hv ho
      have hge : ∀ v, D v ≤ (rxs E (d, false)).1 v := rxs_ge h.fit E (fun _ h => h) (d, false) hD
      have hle : ∀ v, (rxs E (d, false)).1 v ≤ d v := rxs_le E (d, false)
      have hst := rxs_step E (d, false) hne hx
      have hlt : cnt (open' D (rxs E (d, false)).1) n < cnt (open' D d) n := by
        refine cnt_lt n (fun i hi hp => ?_) ⟨x.t, h1, ?_, ?_⟩
        · unfold open' at hp ⊢
          rw [bne_iff_ne] at hp ⊢
          have := hge i; have := hle i
          intro e; omega
        · unfold open'
          have := hge x.t
          have e : (rxs E (d, false)).1 x.t = D x.t := by simp only at hst; omega
          rw [e]; simp
        · unfold open'
          rw [bne_iff_ne]; exact h2
      obtain ⟨D', g1, g2⟩ := ih (rxs E (d, false)).1 (fun v => by have := hle v; have := hd v; omega) hge (by omega)
      refine ⟨D', g1, fun j hj => ?_⟩
      obtain ⟨i, rfl⟩ : ∃ i, j = i + 1 := ⟨j - 1, by omega⟩
      unfold bell
      rw [if_pos hm]
      exact g2 i (by omega)
theorem cnt_lt_all {p : Nat → Bool} : ∀ n, (∃ i, i < n ∧ p i = false) → cnt p n < n
  | 0, ⟨i, hi, _⟩ => by omega
  | n + 1, ⟨i, hi, h⟩ => by
    by_cases e : i = n
    · subst e; rw [cnt_no h]; have := cnt_le p i; omega
    · have := cnt_lt_all n ⟨i, by omega, h⟩
      cases hp : p n with
      | true => rw [cnt_yes hp]; omega
      | false => rw [cnt_no hp]; omega
/-- So many rounds as there are places do what one more does. -/
theorem bell_more {n : Nat} {E : List Edge} (hn : 0 < n) (hin : ∀ e ∈ E, e.s < n ∧ e.t < n) (hne : ∀ e ∈ E, e.s ≠ e.t) : bell E (n + 1) (fun _ => 0) = bell E n (fun _ => 0) := by
  have key : ∀ D, (bell E (n + 1) (fun _ => 0) = some D ∨ bell E n (fun _ => 0) = some D) → bell E (n + 1) (fun _ => 0) = bell E n (fun _ => 0) := by
    intro D h
    have : ∃ m r, TreeD m E D r := by
      rcases h with h | h
      · exact bell_tree hne _ _ _ _ (runD_start E) D h
      · exact bell_tree hne _ _ _ _ (runD_start E) D h
    obtain ⟨m, r, ht⟩ := this
    have ht' : TreeD n E D r := ⟨ht.zero, ht.fit, ht.tree⟩
    obtain ⟨u, hu, h0⟩ := tree_root ht' (fun e he => (hin e he).1) (r 0) 0 (Nat.le_refl _) hn
    have hc : cnt (open' D fun _ => 0) n < n := cnt_lt_all n ⟨u, hu, by unfold open'; rw [h0]; rfl⟩
    obtain ⟨D', -, g⟩ := bell_end ht' hin hne n (fun _ => 0) (fun _ => Int.le_refl _) ht.zero hc
    rw [g n (Nat.le_refl _), g (n + 1) (Nat.le_succ _)]
  cases h1 : bell E (n + 1) (fun _ => 0) with
  | some D => rw [← h1]; exact key D (.inl h1)
  | none =>
    cases h2 : bell E n (fun _ => 0) with
    | none => rfl
    | some D => rw [← h1, ← h2]; exact key D (.inr h2)
end Go.Proofs.YtldbgkmgmhlbiaaGreat
/-
  Directions: toDirection, the model's gcd, DirectionOk of both.
-/
namespace Go.Proofs.YtldbgkmgmhlbiaaGreat
open Go.RowKit

/-- A direction that is valid. -/
def dirOk (dx dy : Int) : Bool := decide ((0 ≤ dx ∧ dx ≤ 3) ∧ (-3 ≤ dy ∧ dy ≤ 3)) && (Nat.gcd dx.natAbs dy.natAbs == 1) && (decide (0 < dx) || dy == 1)

theorem dir_range {dx dy : Int} (h : ¬ ((0 ≤ dx ∧ dx ≤ 3) ∧ (-3 ≤ dy ∧ dy ≤ 3))) : dirOk dx dy = false := by rw [dirOk, decide_eq_false h, Bool.false_and, Bool.false_and]
set_option maxHeartbeats 4000000 in
theorem implDirectionOk_any (dx dy : Int) (w : World) :
    Calls Tryz.prog 72 #[.agg #[.int .i64 dx, .int .i64 dy]] w fun e w' => e = .returned (.bool (dirOk dx dy)) ∧ Below w.heap.size w w' := by
  by_cases h : (0 ≤ dx ∧ dx ≤ 3) ∧ (-3 ≤ dy ∧ dy ≤ 3)
  · have hx : dx = 0 ∨ dx = 1 ∨ dx = 2 ∨ dx = 3 := by omega
    have hy : dy = -3 ∨ dy = -2 ∨ dy = -1 ∨ dy = 0 ∨ dy = 1 ∨ dy = 2 ∨ dy = 3 := by omega
    clear h
    rcases hx with rfl | rfl | rfl | rfl <;> rcases hy with rfl | rfl | rfl | rfl | rfl | rfl | rfl
    all_goals
      go_enter Tryz.func72, Tryz.ntmps72
      go_wp2
      refine wp_loop_rounds 4 ?_
      repeat (rw [rounds_succ]; go_wp2)
      go_ret
      exact ⟨rfl, (Below.refl _ _).alloc (Nat.le_refl _) _⟩
  · rw [dir_range h]
    by_cases h1 : dx < 0
    · clear h
      go_enter Tryz.func72, Tryz.ntmps72
      go_wp2
      go_ret
      exact ⟨rfl, (Below.refl _ _).alloc (Nat.le_refl _) _⟩
    · by_cases h2 : 3 < dx
      · clear h
        go_enter Tryz.func72, Tryz.ntmps72
        go_wp2
        go_ret
        exact ⟨rfl, (Below.refl _ _).alloc (Nat.le_refl _) _⟩
      · by_cases h3 : dy < -3
        · clear h
          go_enter Tryz.func72, Tryz.ntmps72
          go_wp2
          go_ret
          exact ⟨rfl, (Below.refl _ _).alloc (Nat.le_refl _) _⟩
        · have h4 : 3 < dy := by omega
          clear h
          go_enter Tryz.func72, Tryz.ntmps72
          go_wp2
          go_ret
          exact ⟨rfl, (Below.refl _ _).alloc (Nat.le_refl _) _⟩
end Go.Proofs.YtldbgkmgmhlbiaaGreat
