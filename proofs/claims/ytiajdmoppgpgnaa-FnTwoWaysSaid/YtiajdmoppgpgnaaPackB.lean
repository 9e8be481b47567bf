/-
  Texts of this claim, one behind the other: IntSS, Ok, Dir, Each.
-/
import Derived.Test.YtiajdmoppgpgnaaPackA
import Derived.Orders
import Derived.OrdersHeld
/-
  The helpers of the exact laws on lists of lists of integers: szIntSS, toIntSS, eqIntSS, markIntSS, heldIntSS.
-/
namespace Go.Proofs.Ytiajdmoppgpgnaa
open Go.RowKit

def cellsM (m : List (List Int)) : Nat := (m.map (·.length)).sum
theorem cells_snoc (m : List (List Int)) (k : Nat) (h : k < m.length) : cellsM (m.take (k + 1)) = cellsM (m.take k) + m[k].length := by
  rw [List.take_succ_eq_append_getElem h]; simp only [cellsM, List.map_append, List.sum_append, List.map_cons, List.map_nil, List.sum_cons, List.sum_nil]; omega
theorem cells_all (m : List (List Int)) (k : Nat) (h : m.length ≤ k) : cellsM (m.take k) = cellsM m := by rw [List.take_of_length_le h]
theorem cells_take (m : List (List Int)) (k : Nat) : cellsM (m.take k) ≤ cellsM m := by
  have h : m = m.take k ++ m.drop k := (List.take_append_drop k m).symm
  have : cellsM m = cellsM (m.take k) + cellsM (m.drop k) := by
    conv => lhs; rw [h]
    simp only [cellsM, List.map_append, List.sum_append]
  omega
theorem cells_row (m : List (List Int)) (k : Nat) (h : k < m.length) : m[k].length ≤ cellsM m := by
  have := cells_snoc m k h; have := cells_take m (k + 1); omega

/-- What szIntSS answers: a number that is negative only if the list is longer than 'left'. -/
def SizeI (w : World) (left : Nat) (m : List (List Int)) (e : Ending) (w' : World) : Prop := ∃ r : Int, e = .returned (.int .i64 r) ∧ ((r = -1) ∨ (m.length + cellsM m ≤ left ∧ r = (left - m.length - cellsM m : Nat))) ∧ Below w.heap.size w w'

set_option maxHeartbeats 400000 in
theorem szIntSS_any (v : Value) (m : List (List Int)) (left : Nat) (w : World) (hleft : left ≤ 2000000) (hin : InMat w v m) :
    Calls Try.prog 19 #[v, .int .i64 left] w (SizeI w left m) := by
  obtain ⟨a, c, rfl, hm, hp⟩ := hin
  unfold maxLen at hm
  by_cases hbig : left < m.length
  · clear hp
    go_enter Try.func19, Try.ntmps19
    go_wp2
    go_ret
    exact ⟨_, rfl, .inl rfl, Below.refl _ _⟩
  · by_cases h0 : m.length = 0
    · have hss : m = [] := List.eq_nil_of_length_eq_zero h0
      subst hss
      clear hp hm h0
      go_enter Try.func19, Try.ntmps19
      go_wp2
      go_loop [1, 5] (fun r i => i = .int .i64 0 ∧ r = .int .i64 left) (fun _ _ => 0)
      case atStart => exact ⟨rfl, by simp⟩
      case round =>
        obtain ⟨rfl, rfl⟩ := hrel
        go_wp2
        go_ret
        exact ⟨_, rfl, .inr ⟨by simp [cellsM], by simp [cellsM]⟩, Below.refl _ _⟩
    · obtain ⟨g, o, rfl, hg, hcell⟩ := hp.resolve_left h0
      have HC := hide hcell
      clear hp hcell h0
      go_enter Try.func19, Try.ntmps19
      go_wp2
      go_loop [1, 5] (fun r i => ∃ k t : Nat, k ≤ m.length ∧ i = .int .i64 k ∧ r = .int .i64 (left - m.length - t : Nat) ∧ cellsM (m.take k) = t ∧ m.length + t ≤ left) (fun _ i => m.length - (intOf i).toNat)
      case atStart => exact ⟨0, 0, Nat.zero_le _, rfl, (by go_num), by simp [cellsM], (by omega)⟩
      case round =>
        obtain ⟨k, t, hk, rfl, rfl, ht, hle⟩ := hrel
        have HT := hide ht
        clear ht
        by_cases hlt : k < m.length
        · obtain ⟨u, hx, hr⟩ := HC.out k hlt
          have HS := hide (cells_snoc m k hlt)
          have HR := hide hr
          obtain ⟨a', c', rfl, hm', -⟩ := hr
          obtain ⟨n', hn'⟩ : ∃ n', n' = m[k].length := ⟨_, rfl⟩
          have HN := hide hn'
          unfold maxLen at hm'
          by_cases hfit : left - m.length - t < n'
          · have hfit' : left - m.length - t < m[k].length := by omega
            clear hn'
            go_wp2_with (go_at_call 61; refine (szIntS_any _ _ (left - m.length - t) _ (by omega) HR.out).mono ?_; rw [if_pos hfit']; rintro e w' ⟨rfl, rfl⟩)
            go_ret
            exact ⟨_, rfl, .inl rfl, Below.refl _ _⟩
          · have hfit' : ¬ left - m.length - t < m[k].length := by omega
            rw [← hn'] at HS
            clear hn'
            go_wp2_with (go_at_call 61; refine (szIntS_any _ _ (left - m.length - t) _ (by omega) HR.out).mono ?_; rw [if_neg hfit', ← HN.out]; rintro e w' ⟨rfl, rfl⟩)
            go_round
            case rel => exact ⟨k + 1, t + n', by omega, by go_num, by go_num, by rw [HS.out, HT.out], by omega⟩
            case measure => simp [intOf]; omega
        · have HA := hide (cells_all m k (by omega))
          go_wp2
          go_ret
          exact ⟨_, rfl, .inr ⟨by rw [← HA.out, HT.out]; omega, by rw [← HA.out, HT.out]⟩, Below.refl _ _⟩

set_option maxHeartbeats 400000 in
theorem eqIntSS_same (va vb : Value) (m : List (List Int)) (w : World) (ha : InMat w va m) (hb : InMat w vb m) :
    Calls Try.prog 25 #[va, vb] w fun e w' => e = .returned (.bool true) ∧ Below w.heap.size w w' := by
  obtain ⟨a, ca, rfl, hm, hpa⟩ := ha
  obtain ⟨b, cb, rfl, -, hpb⟩ := hb
  unfold maxLen at hm
  by_cases h0 : m.length = 0
  · have hr : m = [] := List.eq_nil_of_length_eq_zero h0
    subst hr
    clear hpa hpb hm h0
    go_enter Try.func25, Try.ntmps25
    go_wp2
    go_loop [5] (fun i => i = .int .i64 0) (fun _ => 0)
    case atStart => rfl
    case round =>
      obtain rfl := hrel
      go_wp2
      go_ret
      exact ⟨rfl, Below.refl _ _⟩
  · obtain ⟨ga, oa, rfl, hga, hca⟩ := hpa.resolve_left h0
    obtain ⟨gb, ob, rfl, hgb, hcb⟩ := hpb.resolve_left h0
    have HA := hide hca; have HB := hide hcb
    clear hpa hpb hca hcb h0
    go_enter Try.func25, Try.ntmps25
    go_wp2
    go_loopw [5] (fun i w' => ∃ k : Nat, k ≤ m.length ∧ i = .int .i64 k ∧ Below w.heap.size w w') (fun i _ => m.length - (intOf i).toNat)
    case atStart => exact ⟨0, Nat.zero_le _, rfl, Below.refl _ _⟩
    case round =>
      obtain ⟨k, hk, rfl, hb⟩ := hrel
      by_cases hlt : k < m.length
      · obtain ⟨ua, hxa, hra⟩ := HA.out k hlt
        obtain ⟨ub, hxb, hrb⟩ := HB.out k hlt
        have hxa := below_cell hb hga hxa
        have hxb := below_cell hb hgb hxb
        have HRA := hide (inRow_below hra hb)
        have HRB := hide (inRow_below hrb hb)
        have hgra : ga < wr.heap.size := Nat.lt_of_lt_of_le hga hb.size
        have hgrb : gb < wr.heap.size := Nat.lt_of_lt_of_le hgb hb.size
        clear hra hrb
        have hb := hide hb
        go_wp2
        go_region_held3 (fun w' => w'.cell? ⟨ga, oa + k, none⟩ = some ua ∧ w'.cell? ⟨gb, ob + k, none⟩ = some ub ∧ Below wr.heap.size wr w') (first | exact ⟨hxa, hxb, (Below.refl _ _).drew⟩ | exact ⟨below_cell (w := wr) ((Below.refl _ _).drew.trans hb') hgra hxa, below_cell (w := wr) ((Below.refl _ _).drew.trans hb') hgrb hxb, (Below.refl _ _).drew.trans hb'⟩) (first | (go_at_call 24; refine (eqIntS_same _ _ _ _ (inRow_below HRA.out ((Below.refl _ _).drew)) (inRow_below HRB.out ((Below.refl _ _).drew))).mono ?_; rintro e w' ⟨rfl, hb'⟩))
        go_wp2
        obtain ⟨-, -, hS⟩ := ‹World.cell? _ _ = _ ∧ World.cell? _ _ = _ ∧ Below _ _ _›
        go_roundw
        case rel => exact ⟨k + 1, by omega, by go_num, hb.out.trans (hS.mono hb.out.size)⟩
        case measure => simp [intOf]; omega
      · go_wp2
        go_ret
        exact ⟨rfl, hb⟩

/-- The first k rows, empty rows behind them. -/
def fillM (m : List (List Int)) (k : Nat) : List (List Int) := m.take k ++ List.replicate (m.length - k) []
theorem fillM_zero (m : List (List Int)) : fillM m 0 = List.replicate m.length [] := by simp [fillM]
theorem fillM_all (m : List (List Int)) (k : Nat) (h : m.length ≤ k) : fillM m k = m := by
  rw [fillM, List.take_of_length_le h, show m.length - k = 0 by omega]; simp
theorem fillM_len (m : List (List Int)) (k : Nat) (h : k ≤ m.length) : (fillM m k).length = m.length := by simp [fillM]; omega
theorem fillM_set (m : List (List Int)) (k : Nat) (h : k < m.length) : (fillM m k).set k m[k] = fillM m (k + 1) := by
  rw [fillM, List.set_append_right _ _ (by simp; omega), List.length_take, Nat.min_eq_left (by omega), Nat.sub_self, show m.length - k = (m.length - (k + 1)) + 1 by omega, List.replicate_succ, List.set_cons_zero, fillM,
    List.take_succ_eq_append_getElem h, List.append_assoc]; rfl

set_option maxHeartbeats 400000 in
theorem toIntSS_any (v : Value) (m : List (List Int)) (w : World) (hn : m.length + cellsM m ≤ 2000000) (hin : InMat w v m) :
    Calls Try.prog 21 #[v] w fun e w' => ∃ v', e = .returned v' ∧ OwnMat w' w.heap.size w'.heap.size v' m ∧ Below w.heap.size w w' := by
  obtain ⟨a, c, rfl, hm, hp⟩ := hin
  unfold maxLen at hm
  by_cases h0 : m.length = 0
  · have hr : m = [] := List.eq_nil_of_length_eq_zero h0
    subst hr
    clear hp hm h0 hn
    go_enter Try.func21, Try.ntmps21
    go_wp2_with (at_make; refine wpList_new w.heap.size 0 (.slice none 0 0) rfl _ _ rfl Try.underlying29 Try.infoInts rfl (by decide) rfl rfl (by omega) (Nat.le_refl _) ?_; intro w1 hown1 hb1 hg1)
    have HO := hide hown1; have HB := hide hb1
    clear hown1 hb1 hg1
    go_wp2
    go_loop [4] (fun i => i = .int .i64 0) (fun _ => 0)
    case atStart => rfl
    case round =>
      obtain rfl := hrel
      go_wp2
      go_ret
      exact ⟨_, rfl, ownMat_fresh (n := 0) _ HO.out (HO.out.lt _ rfl).2, HB.out⟩
  · obtain ⟨g, o, rfl, hg, hcell⟩ := hp.resolve_left h0
    have HC := hide hcell
    clear hp hcell h0
    go_enter Try.func21, Try.ntmps21
    go_wp2_with (at_make; refine wpList_new w.heap.size m.length (.slice none 0 0) rfl _ _ rfl Try.underlying29 Try.infoInts rfl (by decide) rfl rfl (by omega) (Nat.le_refl _) ?_; intro w1 hown1 hb1 hg1)
    have HO := hide hown1; have HB := hide hb1
    clear hown1 hb1 hg1
    go_wp2
    go_loopw [4] (fun i w' => ∃ k : Nat, k ≤ m.length ∧ i = .int .i64 k ∧ OwnMat w' w.heap.size w'.heap.size (.slice (some ⟨w.heap.size, 0, none⟩) m.length m.length) (fillM m k) ∧ Below w.heap.size w w') (fun i _ => m.length - (intOf i).toNat)
    case atStart => exact ⟨0, Nat.zero_le _, rfl, by rw [fillM_zero]; exact ownMat_fresh _ HO.out (HO.out.lt _ rfl).2, HB.out⟩
    case round =>
      clear HO HB
      obtain ⟨k, hk, rfl, hown, hb⟩ := hrel
      have HO := hide hown; have HB := hide hb
      clear hown hb
      by_cases hlt : k < m.length
      · obtain ⟨u, hx, hr⟩ := HC.out k hlt
        have hx : wr.cell? ⟨g, o + k, none⟩ = some u := below_cell HB.out hg hx
        have HR := hide (inRow_below hr HB.out)
        have hfl := fillM_len m k hk
        have HF := hide (fillM_set m k hlt)
        have hrow : m[k].length ≤ 2000000 := by have := cells_row m k hlt; omega
        clear hr
        have HL := hide hfl
        clear hfl
        go_wp2_with (go_at_call 65; refine (toIntS_any _ _ _ hrow HR.out).mono ?_; rintro e w2 ⟨v2, rfl, ho2, hb2⟩; obtain ⟨a2, c2, rfl⟩ := own_slice ho2; have HO2 := hide ho2; have HB2 := hide hb2; clear ho2 hb2; have HM := hide (ownMat_below HO.out HB2.out); obtain ⟨u0, hx2, hf2, -, -, -⟩ := ownMat_row HM.out k (by rw [HL.out]; exact hlt))
        go_roundw
        case rel =>
          have hp := ownMat_put (hi' := w2.heap.size) HM.out k (by rw [HL.out]; exact hlt) HO2.out HB.out.size (Nat.le_refl _) HB2.out.size
          rw [HF.out] at hp
          exact ⟨k + 1, by omega, by go_num, ownMat_mono hp (Nat.le_refl _) (by simp), (HB.out.trans (HB2.out.mono HB.out.size)).setCell (Nat.le_refl _) _⟩
        case measure => simp [intOf]; omega
      · have HE : Hid (fillM m k = m) := hide (fillM_all _ _ (by omega))
        go_wp2
        go_ret
        exact ⟨_, rfl, by have := HO.out; rw [HE.out] at this; exact this, HB.out⟩

/-- The first k rows marked, from q on. -/
def markTo (m : List (List Int)) (q : Nat) : Nat → List (List Int)
  | 0 => m
  | k + 1 => (markTo m q k).set k (markR (m.getD k []).length (q + cellsM (m.take k)))
def markM (m : List (List Int)) (q : Nat) : List (List Int) := markTo m q m.length
theorem markTo_len (m : List (List Int)) (q k : Nat) : (markTo m q k).length = m.length := by
  induction k with
  | zero => rfl
  | succ k ih => rw [markTo, List.length_set, ih]
theorem markTo_at (m : List (List Int)) (q k i : Nat) (h : i < (markTo m q k).length) (hm : i < m.length) : (markTo m q k)[i] = if i < k then markR m[i].length (q + cellsM (m.take i)) else m[i] := by
  induction k with
  | zero => simp [markTo]
  | succ k ih =>
    simp only [markTo]
    by_cases e : k = i
    · subst e
      simp only [List.getElem_set_self]
      rw [if_pos (by omega), List.getD_eq_getElem?_getD, List.getElem?_eq_getElem hm]; rfl
    · rw [List.getElem_set_ne e, ih (by rw [markTo_len]; exact hm)]
      by_cases hl : i < k
      · rw [if_pos hl, if_pos (by omega)]
      · rw [if_neg hl, if_neg (by omega)]
theorem markM_len (m : List (List Int)) (q : Nat) : (markM m q).length = m.length := markTo_len m q _
theorem markM_at (m : List (List Int)) (q i : Nat) (h : i < (markM m q).length) (hm : i < m.length) : (markM m q)[i] = markR m[i].length (q + cellsM (m.take i)) := by
  have := markTo_at m q m.length i h hm
  rw [if_pos hm] at this; exact this

set_option maxHeartbeats 400000 in
theorem markIntSS_any (m : List (List Int)) (q lo hi : Nat) (v : Value) (w : World) (hn : m.length + cellsM m ≤ 1500000) (hq : q ≤ 2000000) (hv : OwnMat w lo hi v m) :
    Calls Try.prog 26 #[v, .int .i64 q] w fun e w' => e = .returned (.int .i64 (q + cellsM m : Nat)) ∧ OwnMat w' lo hi v (markM m q) ∧ Within lo hi w w' := by
  have hin := inMat_own hv
  obtain ⟨a, c, rfl, hm, hp⟩ := hin
  unfold maxLen at hm
  by_cases h0 : m.length = 0
  · have hr : m = [] := List.eq_nil_of_length_eq_zero h0
    subst hr
    have HV := hide hv
    clear hp hm h0 hn hv
    go_enter Try.func26, Try.ntmps26
    go_wp2
    go_loop [1, 5] (fun k i => i = .int .i64 0 ∧ k = .int .i64 q) (fun _ _ => 0)
    case atStart => exact ⟨rfl, rfl⟩
    case round =>
      obtain ⟨rfl, rfl⟩ := hrel
      go_wp2
      go_ret
      exact ⟨rfl, HV.out, within_refl _ _ _⟩
  · obtain ⟨g, o, rfl, hg, -⟩ := hp.resolve_left h0
    have ho : o = 0 := by
      obtain ⟨vs, hvs, -⟩ := hv
      rcases hvs.2 with ⟨e, _⟩ | ⟨g', cap, cur, e, _⟩
      · cases e
      · cases e; rfl
    subst ho
    have HV := hide hv
    clear hp h0 hv
    go_enter Try.func26, Try.ntmps26
    go_wp2
    go_loopw [1, 5] (fun k i w' => ∃ j t : Nat, j ≤ m.length ∧ i = .int .i64 j ∧ k = .int .i64 (q + t : Nat) ∧ cellsM (m.take j) = t ∧ OwnMat w' lo hi (.slice (some ⟨g, 0, none⟩) m.length c) (markTo m q j) ∧ Within lo hi w w') (fun _ i _ => m.length - (intOf i).toNat)
    case atStart => exact ⟨0, 0, Nat.zero_le _, rfl, rfl, by simp [cellsM], HV.out, within_refl _ _ _⟩
    case round =>
      obtain ⟨j, t, hj, rfl, rfl, ht, hown, hw⟩ := hrel
      have HT := hide ht; have HO := hide hown; have HW := hide hw
      have hle : t ≤ 1500000 := by have := cells_take m j; omega
      clear ht hown hw
      by_cases hlt : j < m.length
      · have hl := markTo_len m q j
        obtain ⟨u, hx, -, hu, huh, hset⟩ := ownMat_row HO.out j (by rw [hl]; exact hlt)
        have ha := markTo_at m q j j (by rw [hl]; exact hlt) hlt
        rw [if_neg (by omega)] at ha
        rw [ha] at hu hset
        have HU := hide hu; have HH := hide huh; have HS := hide hset
        have hrow : m[j].length ≤ 2000000 := by have := cells_row m j hlt; omega
        have HC := hide (cells_snoc m j hlt)
        have HD : Hid ((markTo m q j).set j (markR m[j].length (q + t)) = markTo m q (j + 1)) := hide (by
          rw [markTo, HT.out, List.getD_eq_getElem?_getD, List.getElem?_eq_getElem hlt]; rfl)
        clear hl ha hu huh hset
        obtain ⟨n, hnn⟩ : ∃ n, n = m[j].length := ⟨_, rfl⟩
        rw [← hnn] at HU hrow HC HD HS
        clear hnn
        go_wp2_with (go_at_call 27; refine (markIntS_any n (q + t) _ _ _ _ hrow (by omega) HU.out).mono ?_; rintro e w2 ⟨rfl, ho2, hg2⟩; have HO2 := hide ho2; have HG2 := hide hg2; clear ho2 hg2)
        go_roundw
        case rel =>
          have h1 := HS.out _ (markR n (q + t)) HO2.out (markR_len _ _) HG2.out
          rw [HD.out] at h1
          exact ⟨j + 1, t + n, by omega, by go_num, by go_num, by rw [HC.out, HT.out], h1, within_trans HW.out (within_grown HG2.out fun k hk => ⟨(HU.out.lt k hk).1, HH.out k hk⟩)⟩
        case measure => simp [intOf]; omega
      · obtain rfl : j = m.length := by omega
        have HA := hide (cells_all m m.length (Nat.le_refl _))
        go_wp2
        go_ret
        exact ⟨ret_int (by rw [← HA.out, HT.out]), HO.out, HW.out⟩

set_option maxHeartbeats 400000 in
theorem heldIntSS_any (m : List (List Int)) (q : Nat) (v : Value) (w : World) (hn : m.length + cellsM m ≤ 1500000) (hq : q ≤ 2000000) (hv : InMat w v (markM m q)) :
    Calls Try.prog 34 #[v, .int .i64 q] w fun e w' => e = .returned (.int .i64 (q + cellsM m : Nat)) ∧ Below w.heap.size w w' := by
  have hl := markM_len m q
  obtain ⟨a, c, rfl, -, hp⟩ := hv
  by_cases h0 : m.length = 0
  · have hr : m = [] := List.eq_nil_of_length_eq_zero h0
    subst hr
    clear hp h0 hn hl
    go_enter Try.func34, Try.ntmps34
    go_wp2
    go_loop [1, 5] (fun k i => i = .int .i64 0 ∧ k = .int .i64 q) (fun _ _ => 0)
    case atStart => exact ⟨rfl, rfl⟩
    case round =>
      obtain ⟨rfl, rfl⟩ := hrel
      go_wp2
      go_ret
      exact ⟨rfl, Below.refl _ _⟩
  · obtain ⟨g, o, rfl, hg, hcell⟩ := hp.resolve_left (by rw [hl]; exact h0)
    have HC := hide hcell; have HL := hide hl
    rw [hl]
    clear hp hcell h0 hl
    go_enter Try.func34, Try.ntmps34
    go_wp2
    go_loopw [1, 5] (fun k i w' => ∃ j t : Nat, j ≤ m.length ∧ i = .int .i64 j ∧ k = .int .i64 (q + t : Nat) ∧ cellsM (m.take j) = t ∧ Below w.heap.size w w') (fun _ i _ => m.length - (intOf i).toNat)
    case atStart => exact ⟨0, 0, Nat.zero_le _, rfl, rfl, by simp [cellsM], Below.refl _ _⟩
    case round =>
      obtain ⟨j, t, hj, rfl, rfl, ht, hb⟩ := hrel
      have HT := hide ht; have HB := hide hb
      have hle : t ≤ 1500000 := by have := cells_take m j; omega
      clear ht hb
      by_cases hlt : j < m.length
      · obtain ⟨u, hx, hr⟩ := HC.out j (by rw [HL.out]; exact hlt)
        have hx : wr.cell? ⟨g, o + j, none⟩ = some u := below_cell HB.out hg hx
        have hr := inRow_below hr HB.out
        rw [markM_at m q j _ hlt, HT.out] at hr
        have HR := hide hr
        have hrow : m[j].length ≤ 2000000 := by have := cells_row m j hlt; omega
        have HS := hide (cells_snoc m j hlt)
        clear hr
        obtain ⟨n, hnn⟩ : ∃ n, n = m[j].length := ⟨_, rfl⟩
        rw [← hnn] at HR hrow HS
        clear hnn
        go_wp2_with (go_at_call 28; refine (heldIntS_any n (q + t) _ _ hrow (by omega) HR.out).mono ?_; rintro e w2 ⟨rfl, hb2⟩; have HB2 := hide hb2; clear hb2)
        go_roundw
        case rel => exact ⟨j + 1, t + n, by omega, by go_num, by go_num, by rw [HS.out, HT.out], HB.out.trans (HB2.out.mono HB.out.size)⟩
        case measure => simp [intOf]; omega
      · obtain rfl : j = m.length := by omega
        have HA := hide (cells_all m m.length (Nat.le_refl _))
        go_wp2
        go_ret
        exact ⟨ret_int (by rw [← HA.out, HT.out]), HB.out⟩
end Go.Proofs.Ytiajdmoppgpgnaa
/-
  ImageOk, of the model and of the program.
-/
namespace Go.Proofs.Ytiajdmoppgpgnaa
open Go.RowKit

def cellOk (x : Int) : Bool := x == 0 || x == 1
def rowOk (C : Nat) (r : List Int) : Bool := r.length == C && r.all cellOk
def widthM (m : List (List Int)) : Nat := (m.headD []).length
def okB (m : List (List Int)) : Bool := decide (1 ≤ m.length ∧ m.length ≤ 5) && decide (1 ≤ widthM m ∧ widthM m ≤ 5) && m.all (rowOk (widthM m))
theorem okB_no1 {m : List (List Int)} (h : ¬ (1 ≤ m.length ∧ m.length ≤ 5)) : okB m = false := by simp only [okB, decide_eq_false h, Bool.false_and]
theorem okB_no2 {m : List (List Int)} (h : ¬ (1 ≤ widthM m ∧ widthM m ≤ 5)) : okB m = false := by simp only [okB, decide_eq_false h, Bool.and_false, Bool.false_and]
theorem okB_no3 {m : List (List Int)} (k : Nat) (hk : k < m.length) (h : rowOk (widthM m) m[k] = false) : okB m = false := by
  have : m.all (rowOk (widthM m)) = false := by
    rw [Bool.eq_false_iff]; intro e
    rw [List.all_eq_true] at e
    have := e _ (List.getElem_mem hk)
    rw [h] at this; cases this
  simp only [okB, this, Bool.and_false]
theorem okB_yes {m : List (List Int)} (h1 : 1 ≤ m.length ∧ m.length ≤ 5) (h2 : 1 ≤ widthM m ∧ widthM m ≤ 5) (h3 : ∀ k, (h : k < m.length) → rowOk (widthM m) m[k] = true) : okB m = true := by
  have : m.all (rowOk (widthM m)) = true := by
    rw [List.all_eq_true]; intro r hr
    obtain ⟨k, hk, rfl⟩ := List.getElem_of_mem hr
    exact h3 k hk
  simp only [okB, decide_eq_true h1, decide_eq_true h2, this, Bool.and_self]
theorem rowOk_no1 {C : Nat} {r : List Int} (h : r.length ≠ C) : rowOk C r = false := by simp [rowOk, h]
theorem rowOk_no2 {C : Nat} {r : List Int} (j : Nat) (hj : j < r.length) (h : cellOk r[j] = false) : rowOk C r = false := by
  have : r.all cellOk = false := by
    rw [Bool.eq_false_iff]; intro e
    rw [List.all_eq_true] at e
    have := e _ (List.getElem_mem hj)
    rw [h] at this; cases this
  simp only [rowOk, this, Bool.and_false]
theorem rowOk_yes {C : Nat} {r : List Int} (h : r.length = C) (h3 : ∀ j, (h : j < r.length) → cellOk r[j] = true) : rowOk C r = true := by
  have : r.all cellOk = true := by
    rw [List.all_eq_true]; intro x hx
    obtain ⟨k, hk, rfl⟩ := List.getElem_of_mem hx
    exact h3 k hk
  simp [rowOk, h, this]
theorem cellOk_no {x : Int} (h0 : x ≠ 0) (h1 : x ≠ 1) : cellOk x = false := by simp [cellOk, h0, h1]
theorem width_at (m : List (List Int)) (h : 0 < m.length) : widthM m = m[0].length := by
  cases m with
  | nil => simp at h
  | cons r t => rfl

theorem l01In_any (n lo hi : Int) (w : World) :
    Calls Try.prog 57 #[.int .i64 n, .int .i64 lo, .int .i64 hi] w fun e w' => e = .returned (.bool (decide (lo ≤ n ∧ n ≤ hi))) ∧ w = w' := by
  by_cases h1 : lo ≤ n
  · by_cases h2 : n ≤ hi
    all_goals
      go_enter Try.func57, Try.ntmps57
      go_wp2
      go_ret
      exact ⟨ret_bool (by simp [h1, h2]; try omega), rfl⟩
  · go_enter Try.func57, Try.ntmps57
    go_wp2
    go_ret
    exact ⟨ret_bool (by simp; omega), rfl⟩
theorem sideOk_any (n : Int) (w : World) :
    Calls Try.prog 94 #[.int .i64 n] w fun e w' => e = .returned (.bool (decide (1 ≤ n ∧ n ≤ 5))) ∧ w = w' := by
  by_cases h1 : 1 ≤ n
  · by_cases h2 : n ≤ 5
    all_goals
      go_enter Try.func94, Try.ntmps94
      go_wp2
      go_ret
      exact ⟨ret_bool (by simp [h1, h2]; try omega), rfl⟩
  · go_enter Try.func94, Try.ntmps94
    go_wp2
    go_ret
    exact ⟨ret_bool (by simp; omega), rfl⟩
theorem colorOk_any (x : Int) (w : World) :
    Calls Try.prog 116 #[.int .i64 x] w fun e w' => e = .returned (.bool (cellOk x)) ∧ w = w' := by
  by_cases h1 : x = 0
  · subst h1
    go_enter Try.func116, Try.ntmps116
    go_wp2
    go_ret
    exact ⟨rfl, rfl⟩
  · have h0 : (x == 0) = false := by simp [h1]
    go_enter Try.func116, Try.ntmps116
    go_wp2
    go_ret
    exact ⟨ret_bool (by simp [cellOk, h1]), rfl⟩

set_option maxRecDepth 100000 in
set_option maxHeartbeats 1000000 in
theorem specImageOk_any (v : Value) (m : List (List Int)) (w : World) (hin : InMat w v m) :
    Calls Try.prog 80 #[v] w fun e w' => e = .returned (.bool (okB m)) ∧ w = w' := by
  obtain ⟨a, c, rfl, hm, hp⟩ := hin
  unfold maxLen at hm
  by_cases h1 : 1 ≤ m.length ∧ m.length ≤ 5
  · obtain ⟨g, o, rfl, hg, hcell⟩ := hp.resolve_left (by omega)
    have HC := hide hcell
    clear hp hcell
    have hpos : 0 < m.length := by omega
    obtain ⟨u0, hx0, hr0⟩ := HC.out 0 hpos
    rw [Nat.add_zero] at hx0
    obtain ⟨a0, c0, rfl, hm0, -⟩ := hr0
    unfold maxLen at hm0
    have HW := hide (width_at m hpos)
    have hrec : ∃ C, C = m[0].length := ⟨_, rfl⟩
    obtain ⟨C, hC⟩ := hrec
    rw [← hC] at hx0 hm0
    have HW : Hid (widthM m = C) := hide (by rw [HW.out, hC])
    clear hC
    have hR : decide ((1 : Int) ≤ m.length ∧ (m.length : Int) ≤ 5) = true := decide_eq_true (by omega)
    have HR := hide hR; clear hR
    by_cases h2 : 1 ≤ C ∧ C ≤ 5
    · have HK : Hid (decide ((1 : Int) ≤ C ∧ (C : Int) ≤ 5) = true) := hide (decide_eq_true (by omega))
      obtain ⟨R, hRR⟩ : ∃ R, R = m.length := ⟨_, rfl⟩
      have HL := hide hRR
      have H1 := hide h1; have H2 := hide h2
      rw [← hRR] at hm hpos HR h1 ⊢
      clear hRR
      go_enter Try.func80, Try.ntmps80
      go_wp2_with (first | (with_reducible refine (l01In_any (R : Int) 1 5 _).mono ?_; rw [HR.out]; rintro e w' ⟨rfl, rfl⟩) | (with_reducible refine (l01In_any (C : Int) 1 5 _).mono ?_; rw [HK.out]; rintro e w' ⟨rfl, rfl⟩))
      go_loop [21] (fun i => ∃ k : Nat, k ≤ R ∧ i = .int .i64 k ∧ ∀ t, (h : t < m.length) → t < k → rowOk C m[t] = true) (fun i => R - (intOf i).toNat)
      case atStart => exact ⟨0, Nat.zero_le _, rfl, fun t _ h => absurd h (Nat.not_lt_zero _)⟩
      case round =>
        obtain ⟨k, hk, rfl, hall⟩ := hrel
        have HA := hide hall
        clear hall
        by_cases hlt : k < R
        · have hk' : k < m.length := by rw [← HL.out]; exact hlt
          obtain ⟨u, hx, hr⟩ := HC.out k hk'
          obtain ⟨a', c', rfl, hm', hp'⟩ := hr
          unfold maxLen at hm'
          obtain ⟨n, hn⟩ : ∃ n, n = m[k].length := ⟨_, rfl⟩
          have HN := hide hn
          rw [← hn] at hx hm'
          by_cases hlen : n = C
          · subst hlen
            obtain ⟨g', o', rfl, hg', hcell'⟩ := hp'.resolve_left (by omega)
            have HC' := hide hcell'
            clear hp' hcell' hn
            go_wp2
            go_loop [34] (fun i => ∃ j : Nat, j ≤ n ∧ i = .int .i64 j ∧ ∀ t, (h : t < m[k].length) → t < j → cellOk m[k][t] = true) (fun i => n - (intOf i).toNat)
            case atStart => exact ⟨0, Nat.zero_le _, rfl, fun t _ h => absurd h (Nat.not_lt_zero _)⟩
            case round =>
              obtain ⟨j, hj, rfl, hall⟩ := hrel
              have HB := hide hall
              clear hall
              by_cases hlj : j < n
              · have hj' : j < m[k].length := by rw [← HN.out]; exact hlj
                have hy := HC'.out j hj'
                have hstep : cellOk m[k][j] = true → ∀ t, (h : t < m[k].length) → t < j + 1 → cellOk m[k][t] = true := fun hc t ht h => by
                  by_cases e : t = j
                  · subst e; exact hc
                  · exact HB.out t ht (by omega)
                have HS := hide hstep
                clear hstep
                have HNO := hide (fun h => okB_no3 (m := m) k hk' (by rw [HW.out]; exact rowOk_no2 j hj' h))
                obtain ⟨y, hyy⟩ : ∃ y, y = m[k][j] := ⟨_, rfl⟩
                rw [← hyy] at hy HS HNO
                clear hyy
                by_cases e0 : y = 0
                · subst e0
                  go_wp2
                  go_round
                  case rel => exact ⟨j + 1, by omega, by go_num, HS.out rfl⟩
                  case measure => simp [intOf]; omega
                · by_cases e1 : y = 1
                  · subst e1
                    clear e0
                    go_wp2
                    go_round
                    case rel => exact ⟨j + 1, by omega, by go_num, HS.out rfl⟩
                    case measure => simp [intOf]; omega
                  · have HF := hide (cellOk_no e0 e1)
                    have b0 : (y == 0) = false := by simp [e0]
                    have b1 : (y == 1) = false := by simp [e1]
                    have b2 : (y != 0) = true := by simp [e0]
                    have b3 : (y != 1) = true := by simp [e1]
                    clear e0 e1
                    go_wp2
                    go_ret
                    exact ⟨ret_bool (HNO.out HF.out).symm, rfl⟩
              · have HROW := hide (rowOk_yes (C := n) HN.out.symm (fun t ht => HB.out t ht (by have := HN.out; omega)))
                go_wp2
                go_round
                case rel =>
                  exact ⟨k + 1, by omega, by go_num, fun t ht h => by
                    by_cases e : t = k
                    · subst e; exact HROW.out
                    · exact HA.out t ht (by omega)⟩
                case measure => simp [intOf]; omega
          · have HF := hide (okB_no3 (m := m) k hk' (rowOk_no1 (by rw [HW.out, ← hn]; exact hlen)))
            clear hn
            have hne : ((n : Int) == (C : Int)) = false := by simp; omega
            go_wp2
            go_ret
            exact ⟨ret_bool HF.out.symm, rfl⟩
        · have HY := hide (okB_yes (m := m) H1.out (by rw [HW.out]; exact H2.out) (fun t ht => by rw [HW.out]; exact HA.out t ht (by have := HL.out; omega)))
          go_wp2
          go_ret
          exact ⟨ret_bool HY.out.symm, rfl⟩
    · have HK : Hid (decide ((1 : Int) ≤ C ∧ (C : Int) ≤ 5) = false) := hide (decide_eq_false (by omega))
      have HF := hide (okB_no2 (m := m) (by rw [HW.out]; exact h2))
      clear h1 h2
      go_enter Try.func80, Try.ntmps80
      go_wp2_with (first | (with_reducible refine (l01In_any (m.length : Int) 1 5 _).mono ?_; rw [HR.out]; rintro e w' ⟨rfl, rfl⟩) | (with_reducible refine (l01In_any (C : Int) 1 5 _).mono ?_; rw [HK.out]; rintro e w' ⟨rfl, rfl⟩))
      go_ret
      exact ⟨ret_bool HF.out.symm, rfl⟩
  · have HR : Hid (decide ((1 : Int) ≤ m.length ∧ (m.length : Int) ≤ 5) = false) := hide (decide_eq_false (by omega))
    have HF := hide (okB_no1 h1)
    clear hp h1
    go_enter Try.func80, Try.ntmps80
    go_wp2_with (first | (with_reducible refine (l01In_any (m.length : Int) 1 5 _).mono ?_; rw [HR.out]; rintro e w' ⟨rfl, rfl⟩))
    go_ret
    exact ⟨ret_bool HF.out.symm, rfl⟩

set_option maxRecDepth 100000 in
set_option maxHeartbeats 1000000 in
theorem implImageOk_any (v : Value) (m : List (List Int)) (w : World) (hin : InMat w v m) :
    Calls Try.prog 83 #[v] w fun e w' => e = .returned (.bool (okB m)) ∧ w = w' := by
  obtain ⟨a, c, rfl, hm, hp⟩ := hin
  unfold maxLen at hm
  by_cases h1 : 1 ≤ m.length ∧ m.length ≤ 5
  · obtain ⟨g, o, rfl, hg, hcell⟩ := hp.resolve_left (by omega)
    have HC := hide hcell
    clear hp hcell
    have hpos : 0 < m.length := by omega
    obtain ⟨u0, hx0, hr0⟩ := HC.out 0 hpos
    rw [Nat.add_zero] at hx0
    obtain ⟨a0, c0, rfl, hm0, -⟩ := hr0
    unfold maxLen at hm0
    have HW := hide (width_at m hpos)
    have hrec : ∃ C, C = m[0].length := ⟨_, rfl⟩
    obtain ⟨C, hC⟩ := hrec
    rw [← hC] at hx0 hm0
    have HW : Hid (widthM m = C) := hide (by rw [HW.out, hC])
    clear hC
    have hR : decide ((1 : Int) ≤ m.length ∧ (m.length : Int) ≤ 5) = true := decide_eq_true (by omega)
    have HR := hide hR; clear hR
    by_cases h2 : 1 ≤ C ∧ C ≤ 5
    · have HK : Hid (decide ((1 : Int) ≤ C ∧ (C : Int) ≤ 5) = true) := hide (decide_eq_true (by omega))
      obtain ⟨R, hRR⟩ : ∃ R, R = m.length := ⟨_, rfl⟩
      have HL := hide hRR
      have H1 := hide h1; have H2 := hide h2
      rw [← hRR] at hm hpos HR h1 ⊢
      clear hRR
      go_enter Try.func83, Try.ntmps83
      go_wp2_with (first | (with_reducible refine (sideOk_any (R : Int) _).mono ?_; rw [HR.out]; rintro e w' ⟨rfl, rfl⟩) | (with_reducible refine (sideOk_any (C : Int) _).mono ?_; rw [HK.out]; rintro e w' ⟨rfl, rfl⟩))
      go_loop [21] (fun i => ∃ k : Nat, k ≤ R ∧ i = .int .i64 k ∧ ∀ t, (h : t < m.length) → t < k → rowOk C m[t] = true) (fun i => R - (intOf i).toNat)
      case atStart => exact ⟨0, Nat.zero_le _, rfl, fun t _ h => absurd h (Nat.not_lt_zero _)⟩
      case round =>
        obtain ⟨k, hk, rfl, hall⟩ := hrel
        have HA := hide hall
        clear hall
        by_cases hlt : k < R
        · have hk' : k < m.length := by rw [← HL.out]; exact hlt
          obtain ⟨u, hx, hr⟩ := HC.out k hk'
          obtain ⟨a', c', rfl, hm', hp'⟩ := hr
          unfold maxLen at hm'
          obtain ⟨n, hn⟩ : ∃ n, n = m[k].length := ⟨_, rfl⟩
          have HN := hide hn
          rw [← hn] at hx hm'
          by_cases hlen : n = C
          · subst hlen
            obtain ⟨g', o', rfl, hg', hcell'⟩ := hp'.resolve_left (by omega)
            have HC' := hide hcell'
            clear hp' hcell' hn
            go_wp2
            go_loop [34] (fun i => ∃ j : Nat, j ≤ n ∧ i = .int .i64 j ∧ ∀ t, (h : t < m[k].length) → t < j → cellOk m[k][t] = true) (fun i => n - (intOf i).toNat)
            case atStart => exact ⟨0, Nat.zero_le _, rfl, fun t _ h => absurd h (Nat.not_lt_zero _)⟩
            case round =>
              obtain ⟨j, hj, rfl, hall⟩ := hrel
              have HB := hide hall
              clear hall
              by_cases hlj : j < n
              · have hj' : j < m[k].length := by rw [← HN.out]; exact hlj
                have hy := HC'.out j hj'
                have hstep : cellOk m[k][j] = true → ∀ t, (h : t < m[k].length) → t < j + 1 → cellOk m[k][t] = true := fun hc t ht h => by
                  by_cases e : t = j
                  · subst e; exact hc
                  · exact HB.out t ht (by omega)
                have HS := hide hstep
                clear hstep
                have HNO := hide (fun h => okB_no3 (m := m) k hk' (by rw [HW.out]; exact rowOk_no2 j hj' h))
                obtain ⟨y, hyy⟩ : ∃ y, y = m[k][j] := ⟨_, rfl⟩
                rw [← hyy] at hy HS HNO
                clear hyy
                by_cases e0 : y = 0
                · subst e0
                  go_wp2_with (go_at_call 116; refine (colorOk_any _ _).mono ?_; rw [show cellOk 0 = true from rfl]; rintro e w' ⟨rfl, rfl⟩)
                  go_round
                  case rel => exact ⟨j + 1, by omega, by go_num, HS.out rfl⟩
                  case measure => simp [intOf]; omega
                · by_cases e1 : y = 1
                  · subst e1
                    clear e0
                    go_wp2_with (go_at_call 116; refine (colorOk_any _ _).mono ?_; rw [show cellOk 1 = true from rfl]; rintro e w' ⟨rfl, rfl⟩)
                    go_round
                    case rel => exact ⟨j + 1, by omega, by go_num, HS.out rfl⟩
                    case measure => simp [intOf]; omega
                  · have HF := hide (cellOk_no e0 e1)
                    clear e0 e1
                    go_wp2_with (go_at_call 116; refine (colorOk_any _ _).mono ?_; rw [HF.out]; rintro e w' ⟨rfl, rfl⟩)
                    go_ret
                    exact ⟨ret_bool (HNO.out HF.out).symm, rfl⟩
              · have HROW := hide (rowOk_yes (C := n) HN.out.symm (fun t ht => HB.out t ht (by have := HN.out; omega)))
                go_wp2
                go_round
                case rel =>
                  exact ⟨k + 1, by omega, by go_num, fun t ht h => by
                    by_cases e : t = k
                    · subst e; exact HROW.out
                    · exact HA.out t ht (by omega)⟩
                case measure => simp [intOf]; omega
          · have HF := hide (okB_no3 (m := m) k hk' (rowOk_no1 (by rw [HW.out, ← hn]; exact hlen)))
            clear hn
            have hne : ((n : Int) == (C : Int)) = false := by simp; omega
            go_wp2
            go_ret
            exact ⟨ret_bool HF.out.symm, rfl⟩
        · have HY := hide (okB_yes (m := m) H1.out (by rw [HW.out]; exact H2.out) (fun t ht => by rw [HW.out]; exact HA.out t ht (by have := HL.out; omega)))
          go_wp2
          go_ret
          exact ⟨ret_bool HY.out.symm, rfl⟩
    · have HK : Hid (decide ((1 : Int) ≤ C ∧ (C : Int) ≤ 5) = false) := hide (decide_eq_false (by omega))
      have HF := hide (okB_no2 (m := m) (by rw [HW.out]; exact h2))
      clear h1 h2
      go_enter Try.func83, Try.ntmps83
      go_wp2_with (first | (with_reducible refine (sideOk_any (m.length : Int) _).mono ?_; rw [HR.out]; rintro e w' ⟨rfl, rfl⟩) | (with_reducible refine (sideOk_any (C : Int) _).mono ?_; rw [HK.out]; rintro e w' ⟨rfl, rfl⟩))
      go_ret
      exact ⟨ret_bool HF.out.symm, rfl⟩
  · have HR : Hid (decide ((1 : Int) ≤ m.length ∧ (m.length : Int) ≤ 5) = false) := hide (decide_eq_false (by omega))
    have HF := hide (okB_no1 h1)
    clear hp h1
    go_enter Try.func83, Try.ntmps83
    go_wp2_with (first | (with_reducible refine (sideOk_any (m.length : Int) _).mono ?_; rw [HR.out]; rintro e w' ⟨rfl, rfl⟩))
    go_ret
    exact ⟨ret_bool HF.out.symm, rfl⟩
end Go.Proofs.Ytiajdmoppgpgnaa
/-
  Directions: toDirection, the model's gcd, DirectionOk of both.
-/
namespace Go.Proofs.Ytiajdmoppgpgnaa
open Go.RowKit

/-- A direction that is valid. -/
def dirOk (dx dy : Int) : Bool := decide ((0 ≤ dx ∧ dx ≤ 3) ∧ (-3 ≤ dy ∧ dy ≤ 3)) && (Nat.gcd dx.natAbs dy.natAbs == 1) && (decide (0 < dx) || dy == 1)

set_option maxHeartbeats 400000 in
theorem toDirection_any (dx dy : Int) (w : World) :
    Calls Try.prog 22 #[.agg #[.int .i64 dx, .int .i64 dy]] w fun e w' => e = .returned (.agg #[.int .i64 dx, .int .i64 dy]) ∧ Below w.heap.size w w' := by
  go_enter Try.func22, Try.ntmps22
  go_wp2
  exact bodyPost_ret (v := .agg #[.int .i64 dx, .int .i64 dy]) (by simp [results, Try.results22, go_sem]) rfl ⟨rfl, (((Below.refl _ _).alloc (Nat.le_refl _) _).alloc (by simp) _).alloc (by simp; omega) _⟩

set_option maxHeartbeats 400000 in
theorem l03Gcd_any (a b : Int) (w : World) (ha : 0 ≤ a ∧ a ≤ 3) (hb : -3 ≤ b ∧ b ≤ 3) :
    Calls Try.prog 104 #[.int .i64 a, .int .i64 b] w fun e w' => e = .returned (.int .i64 (Nat.gcd a.natAbs b.natAbs)) ∧ w = w' := by
  obtain ⟨x, rfl⟩ : ∃ x : Nat, a = x := ⟨a.toNat, by omega⟩
  obtain ⟨y, hy⟩ : ∃ y : Nat, b = y ∨ (b = -(y : Int) ∧ 0 < y) := ⟨b.natAbs, by omega⟩
  have hG : Hid (Nat.gcd ((x : Int)).natAbs b.natAbs = Nat.gcd x y) := hide (by congr 1; omega)
  rw [hG.out]
  obtain ⟨G, hGG⟩ : ∃ G, G = Nat.gcd x y := ⟨_, rfl⟩
  rw [← hGG]
  have HG := hide hGG.symm
  clear hGG hG
  rcases hy with rfl | ⟨rfl, hpos⟩
  all_goals
    go_enter Try.func104, Try.ntmps104
    go_wp2
    go_loop [0, 1] (fun s t => ∃ p q : Nat, p ≤ 3 ∧ q ≤ 3 ∧ s = .int .i64 p ∧ t = .int .i64 q ∧ Nat.gcd p q = G) (fun _ t => (intOf t).toNat)
    case atStart => exact ⟨x, y, by omega, by omega, rfl, by simp, HG.out⟩
    case round =>
      obtain ⟨p, q, hp, hq, rfl, rfl, hpq⟩ := hrel
      have HP := hide hpq
      clear hpq
      by_cases h0 : q = 0
      · subst h0
        go_wp2
        go_ret
        exact ⟨ret_int (by have := HP.out; simp at this; omega), rfl⟩
      · have hb : ((q : Int) != 0) = true := by simp [h0]
        have hq0 : 0 < q := by omega
        have hlt := Nat.mod_lt p hq0
        go_wp2
        go_round
        case rel => exact ⟨q, p % q, by omega, by omega, rfl, by simp, by rw [Nat.gcd_comm, ← Nat.gcd_rec, Nat.gcd_comm]; exact HP.out⟩
        case measure => simp [intOf]; omega

set_option maxHeartbeats 1000000 in
theorem specDirectionOk_any (dx dy : Int) (w : World) :
    Calls Try.prog 58 #[.agg #[.int .i64 dx, .int .i64 dy]] w fun e w' => e = .returned (.bool (dirOk dx dy)) ∧ Below w.heap.size w w' := by
  by_cases h1 : 0 ≤ dx ∧ dx ≤ 3
  · have H1 := hide (decide_eq_true h1)
    by_cases h2 : -3 ≤ dy ∧ dy ≤ 3
    · have H2 := hide (decide_eq_true h2)
      have HG := fun w => l03Gcd_any dx dy w h1 h2
      obtain ⟨G, hG⟩ : ∃ G, G = Nat.gcd dx.natAbs dy.natAbs := ⟨_, rfl⟩
      rw [← hG] at HG
      have HH := hide HG
      clear HG
      have HR : Hid (dirOk dx dy = ((G == 1) && (decide (0 < dx) || dy == 1))) := hide (by rw [dirOk, decide_eq_true (show (0 ≤ dx ∧ dx ≤ 3) ∧ (-3 ≤ dy ∧ dy ≤ 3) from ⟨h1, h2⟩), ← hG, Bool.true_and])
      rw [HR.out]
      clear hG h1 h2
      by_cases h3 : G = 1
      · subst h3
        by_cases h4 : 0 < dx
        · go_enter Try.func58, Try.ntmps58
          go_wp2_with (first | (with_reducible refine (l01In_any dx 0 3 _).mono ?_; rw [H1.out]; rintro e w' ⟨rfl, rfl⟩) | (with_reducible refine (l01In_any dy (-3) 3 _).mono ?_; rw [H2.out]; rintro e w' ⟨rfl, rfl⟩) | (with_reducible refine (HH.out _).mono ?_; rintro e w' ⟨rfl, rfl⟩))
          go_ret
          exact ⟨ret_bool (by simp [h4]), (Below.refl _ _).alloc (Nat.le_refl _) _⟩
        · by_cases h5 : dy = 1
          · have hb : (dy == 1) = true := by simp [h5]
            clear h5
            go_enter Try.func58, Try.ntmps58
            go_wp2_with (first | (with_reducible refine (l01In_any dx 0 3 _).mono ?_; rw [H1.out]; rintro e w' ⟨rfl, rfl⟩) | (with_reducible refine (l01In_any dy (-3) 3 _).mono ?_; rw [H2.out]; rintro e w' ⟨rfl, rfl⟩) | (with_reducible refine (HH.out _).mono ?_; rintro e w' ⟨rfl, rfl⟩))
            go_ret
            exact ⟨ret_bool (by simp [hb]), (Below.refl _ _).alloc (Nat.le_refl _) _⟩
          · have hb : (dy == 1) = false := by simp [h5]
            clear h5
            go_enter Try.func58, Try.ntmps58
            go_wp2_with (first | (with_reducible refine (l01In_any dx 0 3 _).mono ?_; rw [H1.out]; rintro e w' ⟨rfl, rfl⟩) | (with_reducible refine (l01In_any dy (-3) 3 _).mono ?_; rw [H2.out]; rintro e w' ⟨rfl, rfl⟩) | (with_reducible refine (HH.out _).mono ?_; rintro e w' ⟨rfl, rfl⟩))
            go_ret
            exact ⟨ret_bool (by simp [hb]), (Below.refl _ _).alloc (Nat.le_refl _) _⟩
      · have hb : ((G : Int) == 1) = false := by simp; omega
        have hb2 : (G == 1) = false := by simp [h3]
        have HB := hide hb2
        clear hb2
        go_enter Try.func58, Try.ntmps58
        go_wp2_with (first | (with_reducible refine (l01In_any dx 0 3 _).mono ?_; rw [H1.out]; rintro e w' ⟨rfl, rfl⟩) | (with_reducible refine (l01In_any dy (-3) 3 _).mono ?_; rw [H2.out]; rintro e w' ⟨rfl, rfl⟩) | (with_reducible refine (HH.out _).mono ?_; rintro e w' ⟨rfl, rfl⟩))
        go_ret
        exact ⟨ret_bool (by rw [HB.out]; rfl), (Below.refl _ _).alloc (Nat.le_refl _) _⟩
    · have H2 := hide (decide_eq_false h2)
      have HR : Hid (dirOk dx dy = false) := hide (by rw [dirOk, decide_eq_false (fun h => h2 h.2), Bool.false_and, Bool.false_and])
      rw [HR.out]
      clear h1 h2
      go_enter Try.func58, Try.ntmps58
      go_wp2_with (first | (with_reducible refine (l01In_any dx 0 3 _).mono ?_; rw [H1.out]; rintro e w' ⟨rfl, rfl⟩) | (with_reducible refine (l01In_any dy (-3) 3 _).mono ?_; rw [H2.out]; rintro e w' ⟨rfl, rfl⟩))
      go_ret
      exact ⟨rfl, (Below.refl _ _).alloc (Nat.le_refl _) _⟩
  · have H1 := hide (decide_eq_false h1)
    have HR : Hid (dirOk dx dy = false) := hide (by rw [dirOk, decide_eq_false (fun h => h1 h.1), Bool.false_and, Bool.false_and])
    rw [HR.out]
    clear h1
    go_enter Try.func58, Try.ntmps58
    go_wp2_with (first | (with_reducible refine (l01In_any dx 0 3 _).mono ?_; rw [H1.out]; rintro e w' ⟨rfl, rfl⟩))
    go_ret
    exact ⟨rfl, (Below.refl _ _).alloc (Nat.le_refl _) _⟩

theorem dir_range {dx dy : Int} (h : ¬ ((0 ≤ dx ∧ dx ≤ 3) ∧ (-3 ≤ dy ∧ dy ≤ 3))) : dirOk dx dy = false := by rw [dirOk, decide_eq_false h, Bool.false_and, Bool.false_and]
set_option maxHeartbeats 4000000 in
theorem implDirectionOk_any (dx dy : Int) (w : World) :
    Calls Try.prog 45 #[.agg #[.int .i64 dx, .int .i64 dy]] w fun e w' => e = .returned (.bool (dirOk dx dy)) ∧ Below w.heap.size w w' := by
  by_cases h : (0 ≤ dx ∧ dx ≤ 3) ∧ (-3 ≤ dy ∧ dy ≤ 3)
  · have hx : dx = 0 ∨ dx = 1 ∨ dx = 2 ∨ dx = 3 := by omega
    have hy : dy = -3 ∨ dy = -2 ∨ dy = -1 ∨ dy = 0 ∨ dy = 1 ∨ dy = 2 ∨ dy = 3 := by omega
    clear h
    rcases hx with rfl | rfl | rfl | rfl <;> rcases hy with rfl | rfl | rfl | rfl | rfl | rfl | rfl
    all_goals
      go_enter Try.func45, Try.ntmps45
      go_wp2
      refine wp_loop_rounds 4 ?_
      repeat (rw [rounds_succ]; go_wp2)
      go_ret
      exact ⟨rfl, (Below.refl _ _).alloc (Nat.le_refl _) _⟩
  · rw [dir_range h]
    by_cases h1 : dx < 0
    · clear h
      go_enter Try.func45, Try.ntmps45
      go_wp2
      go_ret
      exact ⟨rfl, (Below.refl _ _).alloc (Nat.le_refl _) _⟩
    · by_cases h2 : 3 < dx
      · clear h
        go_enter Try.func45, Try.ntmps45
        go_wp2
        go_ret
        exact ⟨rfl, (Below.refl _ _).alloc (Nat.le_refl _) _⟩
      · by_cases h3 : dy < -3
        · clear h
          go_enter Try.func45, Try.ntmps45
          go_wp2
          go_ret
          exact ⟨rfl, (Below.refl _ _).alloc (Nat.le_refl _) _⟩
        · have h4 : 3 < dy := by omega
          clear h
          go_enter Try.func45, Try.ntmps45
          go_wp2
          go_ret
          exact ⟨rfl, (Below.refl _ _).alloc (Nat.le_refl _) _⟩
end Go.Proofs.Ytiajdmoppgpgnaa
/-
  A region that draws its order, met operation by operation: what each leaves in its slot, whatever came up before it.
-/
namespace Go.Proofs.Ytiajdmoppgpgnaa
open Go.RowKit

def unl (listed : Array Bool) : Nat → Nat
  | 0 => 0
  | k + 1 => unl listed k + if listed.getD k true then 0 else 1
theorem unl_set (listed : Array Bool) (i : Nat) (hi : listed.getD i true = false) : ∀ k, unl (listed.setIfInBounds i true) k + (if i < k then 1 else 0) = unl listed k
  | 0 => rfl
  | k + 1 => by
    have hlt : i < listed.size := by
      rcases Nat.lt_or_ge i listed.size with h' | h'
      · exact h'
      · simp [Array.getElem?_eq_none h'] at hi
    have ih := unl_set listed i hi k
    simp only [unl]
    by_cases e : i = k
    · subst e
      have h1 : (listed.setIfInBounds i true).getD i true = true := by simp [hlt]
      rw [h1, hi, if_neg (Nat.lt_irrefl i)] at *
      simp at ih ⊢; omega
    · rw [getD_set_ne true e]
      by_cases h : i < k
      · have h2 : (if i < k + 1 then 1 else 0) = 1 := if_pos (by omega)
        rw [if_pos h] at ih; rw [h2]; omega
      · have h2 : (if i < k + 1 then 1 else 0) = 0 := if_neg (by omega)
        rw [if_neg h] at ih; rw [h2]; omega

section
variable {P : Program} {md : Region.Mode} {ops : Array Oper} {Q : Exit → Act → World → Prop}

/-- Slot t is none that the region writes. -/
def outside (ops : Array Oper) (t : Tmp) : Bool := ops.all fun o => o.dst != some t
/-- Each slot is written once, and lies in the frame; each operation waits for earlier ones alone. -/
def orderly (md : Region.Mode) (n : Nat) : Nat → List Tmp → List Oper → Bool
  | _, _, [] => true
  | k, seen, o :: r => (match o.dst with | some d => decide (d < n) && !seen.contains d | none => true) && o.after.all (fun e => !Region.binds md e || decide (e.on < k)) && orderly md n (k + 1) (match o.dst with | some d => d :: seen | none => seen) r
theorem orderly_dst {md : Region.Mode} {n : Nat} : ∀ (l : List Oper) (k : Nat) (seen : List Tmp), orderly md n k seen l = true → ∀ (i : Nat) (o : Oper) (d : Tmp), l[i]? = some o → o.dst = some d → d < n ∧ d ∉ seen ∧ ∀ (j : Nat) (o' : Oper), l[j]? = some o' → i < j → o'.dst ≠ some d
  | [], _, _, _, i, o, d, h, _ => by simp at h
  | x :: r, k, seen, h, i, o, d, hi, hd => by
    simp only [orderly, Bool.and_eq_true] at h
    obtain ⟨⟨h1, -⟩, h2⟩ := h
    cases i with
    | zero =>
      simp only [List.getElem?_cons_zero, Option.some.injEq] at hi
      subst hi
      rw [hd] at h1 h2
      simp only [Bool.and_eq_true, decide_eq_true_eq, Bool.not_eq_true', List.contains_eq_mem, decide_eq_false_iff_not] at h1
      refine ⟨h1.1, h1.2, fun j o' hj hij e => ?_⟩
      cases j with
      | zero => omega
      | succ j =>
        simp only [List.getElem?_cons_succ] at hj
        exact (orderly_dst r (k + 1) (d :: seen) h2 j o' d hj e).2.1 (List.mem_cons_self)
    | succ i =>
      simp only [List.getElem?_cons_succ] at hi
      obtain ⟨q1, q2, q3⟩ := orderly_dst r (k + 1) _ h2 i o d hi hd
      refine ⟨q1, fun hs => q2 ?_, fun j o' hj hij => ?_⟩
      · cases x.dst with
        | none => exact hs
        | some d' => exact List.mem_cons_of_mem _ hs
      · cases j with
        | zero => omega
        | succ j =>
          simp only [List.getElem?_cons_succ] at hj
          exact q3 j o' hj (by omega)
theorem orderly_on {md : Region.Mode} {n : Nat} : ∀ (l : List Oper) (k : Nat) (seen : List Tmp), orderly md n k seen l = true → ∀ (i : Nat) (o : Oper), l[i]? = some o → ∀ e ∈ o.after, Region.binds md e = true → e.on < k + i
  | [], _, _, _, i, o, h => by simp at h
  | x :: r, k, seen, h, i, o, hi => by
    simp only [orderly, Bool.and_eq_true] at h
    obtain ⟨⟨-, h1⟩, h2⟩ := h
    cases i with
    | zero =>
      simp only [List.getElem?_cons_zero, Option.some.injEq] at hi
      subst hi
      intro e he hbd
      rw [Array.all_eq_true_iff_forall_mem] at h1
      have := h1 e he
      rw [hbd] at this
      simpa using this
    | succ i =>
      simp only [List.getElem?_cons_succ] at hi
      intro e he hbd
      have := orderly_on r (k + 1) _ h2 i o hi e he hbd
      omega

/-- The frame and the world while the region runs: what is listed holds in its slot. -/
structure Mid (ops : Array Oper) (a0 : Act) (S : World → Prop) (F : Nat → Value → World → Prop) (listed : Array Bool) (a : Act) (w : World) : Prop where
  size : listed.size = ops.size
  tmps : a.tmps.size = a0.tmps.size
  defers : a.defers = a0.defers
  out : ∀ t, outside ops t = true → a.tmps.getD t undef = a0.tmps.getD t undef
  world : S w
  held : ∀ (i : Nat) (o : Oper) (d : Tmp), ops[i]? = some o → o.dst = some d → listed.getD i false = true → F i (a.tmps.getD d undef) w

/-- What is asked of one operation: in whatever frame and world its forerunners have left, it ends, S stands, its slot holds what it should, and what held of the others still holds. -/
def Each (P : Program) (md : Region.Mode) (ops : Array Oper) (Q : Exit → Act → World → Prop) (a0 : Act) (S : World → Prop) (F : Nat → Value → World → Prop) (i : Nat) (o : Oper) : Prop :=
  ∀ (a : Act) (w : World), a.tmps.size = a0.tmps.size → a.defers = a0.defers → (∀ t, outside ops t = true → a.tmps.getD t undef = a0.tmps.getD t undef) → S w →
    (∀ e ∈ o.after, Region.binds md e = true → ∀ (oe : Oper) (d : Tmp), ops[e.on]? = some oe → oe.dst = some d → F e.on (a.tmps.getD d undef) w) →
    ∀ K : Act → World → Prop, (∀ v w', S w' → (∀ j u, F j u w → F j u w') → F i v w' → K (a.put o.dst v) w') → wpOp P ops Q i K a w

theorem ready_none {listed : Array Bool} (hs : listed.size = ops.size) (hon : ∀ (i : Nat) (o : Oper), ops[i]? = some o → ∀ e ∈ o.after, Region.binds md e = true → e.on < i) (h : Region.ready md ops listed = []) : ∀ i, i < ops.size → listed.getD i false = true := by
  intro i
  induction i using Nat.strongRecOn with
  | ind i ih =>
    intro hi
    cases hl : listed.getD i true with
    | true =>
      have hlt : i < listed.size := by omega
      simp [hlt] at hl ⊢; exact hl
    | false =>
      exfalso
      have : i ∈ Region.ready md ops listed := mem_ready.2 ⟨hl, ops[i], Array.getElem?_eq_getElem hi, fun e he hbd => ih e.on (hon i _ (Array.getElem?_eq_getElem hi) e he hbd) (by have := hon i _ (Array.getElem?_eq_getElem hi) e he hbd; omega)⟩
      rw [h] at this; cases this

theorem wpAny_each {a0 : Act} {S : World → Prop} {F : Nat → Value → World → Prop} (ho : orderly md a0.tmps.size 0 [] ops.toList = true)
    (hop : ∀ (i : Nat) (o : Oper), ops[i]? = some o → Each P md ops Q a0 S F i o)
    (hend : ∀ (a : Act) (w : World), a.tmps.size = a0.tmps.size → a.defers = a0.defers → (∀ t, outside ops t = true → a.tmps.getD t undef = a0.tmps.getD t undef) → S w → (∀ (i : Nat) (o : Oper) (d : Tmp), ops[i]? = some o → o.dst = some d → F i (a.tmps.getD d undef) w) → Q .normal a w) :
    ∀ (fuel : Nat) (listed : Array Bool) (a : Act) (w : World), Mid ops a0 S F listed a w → unl listed ops.size ≤ fuel → wpAny P md ops Q fuel listed a w := by
  have hon : ∀ (i : Nat) (o : Oper), ops[i]? = some o → ∀ e ∈ o.after, Region.binds md e = true → e.on < i := fun i o hi e he hbd => by
    have := orderly_on ops.toList 0 [] ho i o (by simpa using hi) e he hbd; omega
  have hdst : ∀ (i : Nat) (o : Oper) (d : Tmp), ops[i]? = some o → o.dst = some d → d < a0.tmps.size := fun i o d hi hd => (orderly_dst ops.toList 0 [] ho i o d (by simpa using hi) hd).1
  have hone : ∀ (i : Nat) (o : Oper) (d : Tmp), ops[i]? = some o → o.dst = some d → ∀ (j : Nat) (o' : Oper), ops[j]? = some o' → i ≠ j → o'.dst ≠ some d := fun i o d hi hd j o' hj hij e => by
    rcases Nat.lt_or_gt_of_ne hij with h | h
    · exact (orderly_dst ops.toList 0 [] ho i o d (by simpa using hi) hd).2.2 j o' (by simpa using hj) h e
    · exact (orderly_dst ops.toList 0 [] ho j o' d (by simpa using hj) e).2.2 i o (by simpa using hi) h hd
  have hfin : ∀ listed a w, Mid ops a0 S F listed a w → Region.ready md ops listed = [] → Q .normal a w := fun listed a w hm hr =>
    hend a w hm.tmps hm.defers hm.out hm.world fun i o d hi hd => hm.held i o d hi hd (ready_none hm.size hon hr i (Array.getElem?_eq_some_iff.1 hi).1)
  intro fuel
  induction fuel with
  | zero =>
    intro listed a w hm hf
    have hr : Region.ready md ops listed = [] := by
      rw [List.eq_nil_iff_forall_not_mem]
      intro i hi
      obtain ⟨hl, o, ho', -⟩ := mem_ready.1 hi
      have hlt : i < ops.size := (Array.getElem?_eq_some_iff.1 ho').1
      have := unl_set listed i hl ops.size
      rw [if_pos hlt] at this
      omega
    exact ⟨hr, hfin listed a w hm hr⟩
  | succ fuel ih =>
    intro listed a w hm hf
    refine ⟨fun hr => hfin listed a w hm hr, fun i hi => ?_⟩
    obtain ⟨hl, o, ho', hall⟩ := mem_ready.1 hi
    have hlt : i < ops.size := (Array.getElem?_eq_some_iff.1 ho').1
    refine hop i o ho' a w hm.tmps hm.defers hm.out hm.world (fun e he hb oe d hoe hd => hm.held e.on oe d hoe hd (hall e he hb)) _ fun v w' hS hst hF => ?_
    refine ih _ _ _ ⟨by simp [hm.size], ?_, ?_, fun t ht => ?_, hS, fun j oj d hj hd hlj => ?_⟩ ?_
    · cases o.dst <;> simp [Act.put, hm.tmps]
    · cases o.dst <;> simp [Act.put, hm.defers]
    · rw [← hm.out t ht]
      cases hd : o.dst with
      | none => rfl
      | some d =>
        have hne : d ≠ t := by
          intro e; subst e
          unfold outside at ht
          rw [Array.all_eq_true_iff_forall_mem] at ht
          have := ht o (Array.mem_of_getElem? ho')
          rw [hd] at this; simp at this
        simp [Act.put, Array.getElem?_setIfInBounds_ne hne]
    · by_cases e : i = j
      · subst e
        rw [ho'] at hj
        obtain rfl := Option.some.inj hj
        have hdl : d < a.tmps.size := by rw [hm.tmps]; exact hdst i o d ho' hd
        have : (a.put o.dst v).tmps.getD d undef = v := by rw [hd]; simp [Act.put, hdl]
        rw [this]; exact hF
      · have h1 : listed.getD j false = true := by rw [getD_set_ne false e] at hlj; exact hlj
        have h2 := hm.held j oj d hj hd h1
        have h3 : (a.put o.dst v).tmps.getD d undef = a.tmps.getD d undef := by
          cases hd' : o.dst with
          | none => rfl
          | some d' =>
            have hne : d' ≠ d := fun e' => hone j oj d hj hd i o ho' (Ne.symm e) (by rw [hd', e'])
            simp [Act.put, Array.getElem?_setIfInBounds_ne hne]
        rw [h3]; exact hst j _ h2
    · have := unl_set listed i hl ops.size
      rw [if_pos hlt] at this; omega

theorem wp_region_each {id : Nat} {a : Act} {w : World} {S : World → Prop} {F : Nat → Value → World → Prop} (hm : P.follows .mixedOrders = true) (ho : orderly .any a.tmps.size 0 [] ops.toList = true)
    (hS : S w.drew) (hop : ∀ (i : Nat) (o : Oper), ops[i]? = some o → Each P .any ops Q a S F i o)
    (hend : ∀ (a' : Act) (w' : World), a'.tmps.size = a.tmps.size → a'.defers = a.defers → (∀ t, outside ops t = true → a'.tmps.getD t undef = a.tmps.getD t undef) → S w' → (∀ (i : Nat) (o : Oper) (d : Tmp), ops[i]? = some o → o.dst = some d → F i (a'.tmps.getD d undef) w') → Q .normal a' w') :
    (Code.region id ops true).wp P Q a w := by
  refine wp_region_any hm (wpAny_each ho hop hend _ _ _ _ ⟨by simp, rfl, rfl, fun _ _ => rfl, hS, fun i o d hi _ hl => ?_⟩ ?_)
  · exfalso
    have hlt : i < ops.size := (Array.getElem?_eq_some_iff.1 hi).1
    simp [hlt] at hl
  · have : ∀ k, k ≤ ops.size → unl (Array.replicate ops.size false) k = k := by
      intro k
      induction k with
      | zero => intro _; rfl
      | succ k ih =>
        intro hk
        rw [unl, ih (by omega)]
        have : (Array.replicate ops.size false).getD k true = false := by simp [show k < ops.size by omega]
        rw [this]; rfl
    rw [this _ (Nat.le_refl _)]; exact Nat.le_refl _
end
end Go.Proofs.Ytiajdmoppgpgnaa
