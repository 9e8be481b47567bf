/-
  Texts of this claim, one behind the other: IntSS, Ok, MatR, Img, White, Arr, SpecE.
-/
import Derived.Test.YtpfaaglaeholbaaPackA
import Derived.Laws.CopyOwn
/-
  The helpers of the exact laws on lists of lists of integers: szIntSS, toIntSS, eqIntSS, markIntSS, heldIntSS.
-/
namespace Go.Proofs.Ytpfaaglaeholbaa
open Go.RowKit

def cellsM (m : List (List Int)) : Nat := (m.map (·.length)).sum
theorem cells_snoc (m : List (List Int)) (k : Nat) (h : k < m.length) : cellsM (m.take (k + 1)) = cellsM (m.take k) + m[k].length := by
  rw [List.take_succ_eq_append_getElem h]; simp only [cellsM, List.map_append, List.sum_append, List.map_cons, List.map_nil, List.sum_cons, List.sum_nil]; omega
theorem cells_all (m : List (List Int)) (k : Nat) (h : m.length ≤ k) : cellsM (m.take k) = cellsM m := by rw [List.take_of_length_le h]
theorem cells_take (m : List (List Int)) (k : Nat) : cellsM (m.take k) ≤ cellsM m := by
  have h : m = m.take k ++ m.drop k := (List.take_append_drop k m).symm
  have : cellsM m = cellsM (m.take k) + cellsM (m.drop k) := by
    conv => lhs; rw [h]
    simp only [cellsM, List.map_append, List.sum_append]
  omega
theorem cells_row (m : List (List Int)) (k : Nat) (h : k < m.length) : m[k].length ≤ cellsM m := by
  have := cells_snoc m k h; have := cells_take m (k + 1); omega

/-- What szIntSS answers: a number that is negative only if the list is longer than 'left'. -/
def SizeI (w : World) (left : Nat) (m : List (List Int)) (e : Ending) (w' : World) : Prop := ∃ r : Int, e = .returned (.int .i64 r) ∧ ((r = -1) ∨ (m.length + cellsM m ≤ left ∧ r = (left - m.length - cellsM m : Nat))) ∧ Below w.heap.size w w'

set_option maxHeartbeats 400000 in
theorem szIntSS_any (v : Value) (m : List (List Int)) (left : Nat) (w : World) (hleft : left ≤ 2000000) (hin : InMat w v m) :
    Calls Try.prog 18 #[v, .int .i64 left] w (SizeI w left m) := by
  obtain ⟨a, c, rfl, hm, hp⟩ := hin
  unfold maxLen at hm
  by_cases hbig : left < m.length
  · clear hp
    go_enter Try.func18, Try.ntmps18
    go_wp2
    go_ret
    exact ⟨_, rfl, .inl rfl, Below.refl _ _⟩
  · by_cases h0 : m.length = 0
    · have hss : m = [] := List.eq_nil_of_length_eq_zero h0
      subst hss
      clear hp hm h0
      go_enter Try.func18, Try.ntmps18
      go_wp2
      go_loop [1, 5] (fun r i => i = .int .i64 0 ∧ r = .int .i64 left) (fun _ _ => 0)
      case atStart => exact ⟨rfl, by simp⟩
      case round =>
        obtain ⟨rfl, rfl⟩ := hrel
        go_wp2
        go_ret
        exact ⟨_, rfl, .inr ⟨by simp [cellsM], by simp [cellsM]⟩, Below.refl _ _⟩
    · obtain ⟨g, o, rfl, hg, hcell⟩ := hp.resolve_left h0
      have HC := hide hcell
      clear hp hcell h0
      go_enter Try.func18, Try.ntmps18
      go_wp2
      go_loop [1, 5] (fun r i => ∃ k t : Nat, k ≤ m.length ∧ i = .int .i64 k ∧ r = .int .i64 (left - m.length - t : Nat) ∧ cellsM (m.take k) = t ∧ m.length + t ≤ left) (fun _ i => m.length - (intOf i).toNat)
      case atStart => exact ⟨0, 0, Nat.zero_le _, rfl, (by go_num), by simp [cellsM], (by omega)⟩
      case round =>
        obtain ⟨k, t, hk, rfl, rfl, ht, hle⟩ := hrel
        have HT := hide ht
        clear ht
        by_cases hlt : k < m.length
        · obtain ⟨u, hx, hr⟩ := HC.out k hlt
          have HS := hide (cells_snoc m k hlt)
          have HR := hide hr
          obtain ⟨a', c', rfl, hm', -⟩ := hr
          obtain ⟨n', hn'⟩ : ∃ n', n' = m[k].length := ⟨_, rfl⟩
          have HN := hide hn'
          unfold maxLen at hm'
          by_cases hfit : left - m.length - t < n'
          · have hfit' : left - m.length - t < m[k].length := by omega
            clear hn'
            go_wp2_with (go_at_call 62; refine (szIntS_any _ _ (left - m.length - t) _ (by omega) HR.out).mono ?_; rw [if_pos hfit']; rintro e w' ⟨rfl, rfl⟩)
            go_ret
            exact ⟨_, rfl, .inl rfl, Below.refl _ _⟩
          · have hfit' : ¬ left - m.length - t < m[k].length := by omega
            rw [← hn'] at HS
            clear hn'
            go_wp2_with (go_at_call 62; refine (szIntS_any _ _ (left - m.length - t) _ (by omega) HR.out).mono ?_; rw [if_neg hfit', ← HN.out]; rintro e w' ⟨rfl, rfl⟩)
            go_round
            case rel => exact ⟨k + 1, t + n', by omega, by go_num, by go_num, by rw [HS.out, HT.out], by omega⟩
            case measure => simp [intOf]; omega
        · have HA := hide (cells_all m k (by omega))
          go_wp2
          go_ret
          exact ⟨_, rfl, .inr ⟨by rw [← HA.out, HT.out]; omega, by rw [← HA.out, HT.out]⟩, Below.refl _ _⟩

set_option maxHeartbeats 400000 in
theorem eqIntSS_same (va vb : Value) (m : List (List Int)) (w : World) (ha : InMat w va m) (hb : InMat w vb m) :
    Calls Try.prog 22 #[va, vb] w fun e w' => e = .returned (.bool true) ∧ Below w.heap.size w w' := by
  obtain ⟨a, ca, rfl, hm, hpa⟩ := ha
  obtain ⟨b, cb, rfl, -, hpb⟩ := hb
  unfold maxLen at hm
  by_cases h0 : m.length = 0
  · have hr : m = [] := List.eq_nil_of_length_eq_zero h0
    subst hr
    clear hpa hpb hm h0
    go_enter Try.func22, Try.ntmps22
    go_wp2
    go_loop [5] (fun i => i = .int .i64 0) (fun _ => 0)
    case atStart => rfl
    case round =>
      obtain rfl := hrel
      go_wp2
      go_ret
      exact ⟨rfl, Below.refl _ _⟩
  · obtain ⟨ga, oa, rfl, hga, hca⟩ := hpa.resolve_left h0
    obtain ⟨gb, ob, rfl, hgb, hcb⟩ := hpb.resolve_left h0
    have HA := hide hca; have HB := hide hcb
    clear hpa hpb hca hcb h0
    go_enter Try.func22, Try.ntmps22
    go_wp2
    go_loopw [5] (fun i w' => ∃ k : Nat, k ≤ m.length ∧ i = .int .i64 k ∧ Below w.heap.size w w') (fun i _ => m.length - (intOf i).toNat)
    case atStart => exact ⟨0, Nat.zero_le _, rfl, Below.refl _ _⟩
    case round =>
      obtain ⟨k, hk, rfl, hb⟩ := hrel
      by_cases hlt : k < m.length
      · obtain ⟨ua, hxa, hra⟩ := HA.out k hlt
        obtain ⟨ub, hxb, hrb⟩ := HB.out k hlt
        have hxa := below_cell hb hga hxa
        have hxb := below_cell hb hgb hxb
        have HRA := hide (inRow_below hra hb)
        have HRB := hide (inRow_below hrb hb)
        have hgra : ga < wr.heap.size := Nat.lt_of_lt_of_le hga hb.size
        have hgrb : gb < wr.heap.size := Nat.lt_of_lt_of_le hgb hb.size
        clear hra hrb
        have hb := hide hb
        go_wp2
        go_region_held3 (fun w' => w'.cell? ⟨ga, oa + k, none⟩ = some ua ∧ w'.cell? ⟨gb, ob + k, none⟩ = some ub ∧ Below wr.heap.size wr w') (first | exact ⟨hxa, hxb, (Below.refl _ _).drew⟩ | exact ⟨below_cell (w := wr) ((Below.refl _ _).drew.trans hb') hgra hxa, below_cell (w := wr) ((Below.refl _ _).drew.trans hb') hgrb hxb, (Below.refl _ _).drew.trans hb'⟩) (first | (go_at_call 32; refine (eqIntS_same _ _ _ _ (inRow_below HRA.out ((Below.refl _ _).drew)) (inRow_below HRB.out ((Below.refl _ _).drew))).mono ?_; rintro e w' ⟨rfl, hb'⟩))
        go_wp2
        obtain ⟨-, -, hS⟩ := ‹World.cell? _ _ = _ ∧ World.cell? _ _ = _ ∧ Below _ _ _›
        go_roundw
        case rel => exact ⟨k + 1, by omega, by go_num, hb.out.trans (hS.mono hb.out.size)⟩
        case measure => simp [intOf]; omega
      · go_wp2
        go_ret
        exact ⟨rfl, hb⟩

/-- The first k rows, empty rows behind them. -/
def fillM (m : List (List Int)) (k : Nat) : List (List Int) := m.take k ++ List.replicate (m.length - k) []
theorem fillM_zero (m : List (List Int)) : fillM m 0 = List.replicate m.length [] := by simp [fillM]
theorem fillM_all (m : List (List Int)) (k : Nat) (h : m.length ≤ k) : fillM m k = m := by
  rw [fillM, List.take_of_length_le h, show m.length - k = 0 by omega]; simp
theorem fillM_len (m : List (List Int)) (k : Nat) (h : k ≤ m.length) : (fillM m k).length = m.length := by simp [fillM]; omega
theorem fillM_set (m : List (List Int)) (k : Nat) (h : k < m.length) : (fillM m k).set k m[k] = fillM m (k + 1) := by
  rw [fillM, List.set_append_right _ _ (by simp; omega), List.length_take, Nat.min_eq_left (by omega), Nat.sub_self, show m.length - k = (m.length - (k + 1)) + 1 by omega, List.replicate_succ, List.set_cons_zero, fillM,
    List.take_succ_eq_append_getElem h, List.append_assoc]; rfl

set_option maxHeartbeats 400000 in
theorem toIntSS_any (v : Value) (m : List (List Int)) (w : World) (hn : m.length + cellsM m ≤ 2000000) (hin : InMat w v m) :
    Calls Try.prog 20 #[v] w fun e w' => ∃ v', e = .returned v' ∧ OwnMat w' w.heap.size w'.heap.size v' m ∧ Below w.heap.size w w' := by
  obtain ⟨a, c, rfl, hm, hp⟩ := hin
  unfold maxLen at hm
  by_cases h0 : m.length = 0
  · have hr : m = [] := List.eq_nil_of_length_eq_zero h0
    subst hr
    clear hp hm h0 hn
    go_enter Try.func20, Try.ntmps20
    go_wp2_with (at_make; refine wpList_new w.heap.size 0 (.slice none 0 0) rfl _ _ rfl Try.underlying23 Try.infoInts rfl (by decide) rfl rfl (by omega) (Nat.le_refl _) ?_; intro w1 hown1 hb1 hg1)
    have HO := hide hown1; have HB := hide hb1
    clear hown1 hb1 hg1
    go_wp2
    go_loop [4] (fun i => i = .int .i64 0) (fun _ => 0)
    case atStart => rfl
    case round =>
      obtain rfl := hrel
      go_wp2
      go_ret
      exact ⟨_, rfl, ownMat_fresh (n := 0) _ HO.out (HO.out.lt _ rfl).2, HB.out⟩
  · obtain ⟨g, o, rfl, hg, hcell⟩ := hp.resolve_left h0
    have HC := hide hcell
    clear hp hcell h0
    go_enter Try.func20, Try.ntmps20
    go_wp2_with (at_make; refine wpList_new w.heap.size m.length (.slice none 0 0) rfl _ _ rfl Try.underlying23 Try.infoInts rfl (by decide) rfl rfl (by omega) (Nat.le_refl _) ?_; intro w1 hown1 hb1 hg1)
    have HO := hide hown1; have HB := hide hb1
    clear hown1 hb1 hg1
    go_wp2
    go_loopw [4] (fun i w' => ∃ k : Nat, k ≤ m.length ∧ i = .int .i64 k ∧ OwnMat w' w.heap.size w'.heap.size (.slice (some ⟨w.heap.size, 0, none⟩) m.length m.length) (fillM m k) ∧ Below w.heap.size w w') (fun i _ => m.length - (intOf i).toNat)
    case atStart => exact ⟨0, Nat.zero_le _, rfl, by rw [fillM_zero]; exact ownMat_fresh _ HO.out (HO.out.lt _ rfl).2, HB.out⟩
    case round =>
      clear HO HB
      obtain ⟨k, hk, rfl, hown, hb⟩ := hrel
      have HO := hide hown; have HB := hide hb
      clear hown hb
      by_cases hlt : k < m.length
      · obtain ⟨u, hx, hr⟩ := HC.out k hlt
        have hx : wr.cell? ⟨g, o + k, none⟩ = some u := below_cell HB.out hg hx
        have HR := hide (inRow_below hr HB.out)
        have hfl := fillM_len m k hk
        have HF := hide (fillM_set m k hlt)
        have hrow : m[k].length ≤ 2000000 := by have := cells_row m k hlt; omega
        clear hr
        have HL := hide hfl
        clear hfl
        go_wp2_with (go_at_call 29; refine (toIntS_any _ _ _ hrow HR.out).mono ?_; rintro e w2 ⟨v2, rfl, ho2, hb2⟩; obtain ⟨a2, c2, rfl⟩ := own_slice ho2; have HO2 := hide ho2; have HB2 := hide hb2; clear ho2 hb2; have HM := hide (ownMat_below HO.out HB2.out); obtain ⟨u0, hx2, hf2, -, -, -⟩ := ownMat_row HM.out k (by rw [HL.out]; exact hlt))
        go_roundw
        case rel =>
          have hp := ownMat_put (hi' := w2.heap.size) HM.out k (by rw [HL.out]; exact hlt) HO2.out HB.out.size (Nat.le_refl _) HB2.out.size
          rw [HF.out] at hp
          exact ⟨k + 1, by omega, by go_num, ownMat_mono hp (Nat.le_refl _) (by simp), (HB.out.trans (HB2.out.mono HB.out.size)).setCell (Nat.le_refl _) _⟩
        case measure => simp [intOf]; omega
      · have HE : Hid (fillM m k = m) := hide (fillM_all _ _ (by omega))
        go_wp2
        go_ret
        exact ⟨_, rfl, by have := HO.out; rw [HE.out] at this; exact this, HB.out⟩

/-- The first k rows marked, from q on. -/
def markTo (m : List (List Int)) (q : Nat) : Nat → List (List Int)
  | 0 => m
  | k + 1 => (markTo m q k).set k (markR (m.getD k []).length (q + cellsM (m.take k)))
def markM (m : List (List Int)) (q : Nat) : List (List Int) := markTo m q m.length
theorem markTo_len (m : List (List Int)) (q k : Nat) : (markTo m q k).length = m.length := by
  induction k with
  | zero => rfl
  | succ k ih => rw [markTo, List.length_set, ih]
theorem markTo_at (m : List (List Int)) (q k i : Nat) (h : i < (markTo m q k).length) (hm : i < m.length) : (markTo m q k)[i] = if i < k then markR m[i].length (q + cellsM (m.take i)) else m[i] := by
  induction k with
  | zero => simp [markTo]
  | succ k ih =>
    simp only [markTo]
    by_cases e : k = i
    · subst e
      simp only [List.getElem_set_self]
      rw [if_pos (by omega), List.getD_eq_getElem?_getD, List.getElem?_eq_getElem hm]; rfl
    · rw [List.getElem_set_ne e, ih (by rw [markTo_len]; exact hm)]
      by_cases hl : i < k
      · rw [if_pos hl, if_pos (by omega)]
      · rw [if_neg hl, if_neg (by omega)]
theorem markM_len (m : List (List Int)) (q : Nat) : (markM m q).length = m.length := markTo_len m q _
theorem markM_at (m : List (List Int)) (q i : Nat) (h : i < (markM m q).length) (hm : i < m.length) : (markM m q)[i] = markR m[i].length (q + cellsM (m.take i)) := by
  have := markTo_at m q m.length i h hm
  rw [if_pos hm] at this; exact this

set_option maxHeartbeats 400000 in
theorem markIntSS_any (m : List (List Int)) (q lo hi : Nat) (v : Value) (w : World) (hn : m.length + cellsM m ≤ 1500000) (hq : q ≤ 2000000) (hv : OwnMat w lo hi v m) :
    Calls Try.prog 25 #[v, .int .i64 q] w fun e w' => e = .returned (.int .i64 (q + cellsM m : Nat)) ∧ OwnMat w' lo hi v (markM m q) ∧ Within lo hi w w' := by
  have hin := inMat_own hv
  obtain ⟨a, c, rfl, hm, hp⟩ := hin
  unfold maxLen at hm
  by_cases h0 : m.length = 0
  · have hr : m = [] := List.eq_nil_of_length_eq_zero h0
    subst hr
    have HV := hide hv
    clear hp hm h0 hn hv
    go_enter Try.func25, Try.ntmps25
    go_wp2
    go_loop [1, 5] (fun k i => i = .int .i64 0 ∧ k = .int .i64 q) (fun _ _ => 0)
    case atStart => exact ⟨rfl, rfl⟩
    case round =>
      obtain ⟨rfl, rfl⟩ := hrel
      go_wp2
      go_ret
      exact ⟨rfl, HV.out, within_refl _ _ _⟩
  · obtain ⟨g, o, rfl, hg, -⟩ := hp.resolve_left h0
    have ho : o = 0 := by
      obtain ⟨vs, hvs, -⟩ := hv
      rcases hvs.2 with ⟨e, _⟩ | ⟨g', cap, cur, e, _⟩
      · cases e
      · cases e; rfl
    subst ho
    have HV := hide hv
    clear hp h0 hv
    go_enter Try.func25, Try.ntmps25
    go_wp2
    go_loopw [1, 5] (fun k i w' => ∃ j t : Nat, j ≤ m.length ∧ i = .int .i64 j ∧ k = .int .i64 (q + t : Nat) ∧ cellsM (m.take j) = t ∧ OwnMat w' lo hi (.slice (some ⟨g, 0, none⟩) m.length c) (markTo m q j) ∧ Within lo hi w w') (fun _ i _ => m.length - (intOf i).toNat)
    case atStart => exact ⟨0, 0, Nat.zero_le _, rfl, rfl, by simp [cellsM], HV.out, within_refl _ _ _⟩
    case round =>
      obtain ⟨j, t, hj, rfl, rfl, ht, hown, hw⟩ := hrel
      have HT := hide ht; have HO := hide hown; have HW := hide hw
      have hle : t ≤ 1500000 := by have := cells_take m j; omega
      clear ht hown hw
      by_cases hlt : j < m.length
      · have hl := markTo_len m q j
        obtain ⟨u, hx, -, hu, huh, hset⟩ := ownMat_row HO.out j (by rw [hl]; exact hlt)
        have ha := markTo_at m q j j (by rw [hl]; exact hlt) hlt
        rw [if_neg (by omega)] at ha
        rw [ha] at hu hset
        have HU := hide hu; have HH := hide huh; have HS := hide hset
        have hrow : m[j].length ≤ 2000000 := by have := cells_row m j hlt; omega
        have HC := hide (cells_snoc m j hlt)
        have HD : Hid ((markTo m q j).set j (markR m[j].length (q + t)) = markTo m q (j + 1)) := hide (by
          rw [markTo, HT.out, List.getD_eq_getElem?_getD, List.getElem?_eq_getElem hlt]; rfl)
        clear hl ha hu huh hset
        obtain ⟨n, hnn⟩ : ∃ n, n = m[j].length := ⟨_, rfl⟩
        rw [← hnn] at HU hrow HC HD HS
        clear hnn
        go_wp2_with (go_at_call 33; refine (markIntS_any n (q + t) _ _ _ _ hrow (by omega) HU.out).mono ?_; rintro e w2 ⟨rfl, ho2, hg2⟩; have HO2 := hide ho2; have HG2 := hide hg2; clear ho2 hg2)
        go_roundw
        case rel =>
          have h1 := HS.out _ (markR n (q + t)) HO2.out (markR_len _ _) HG2.out
          rw [HD.out] at h1
          exact ⟨j + 1, t + n, by omega, by go_num, by go_num, by rw [HC.out, HT.out], h1, within_trans HW.out (within_grown HG2.out fun k hk => ⟨(HU.out.lt k hk).1, HH.out k hk⟩)⟩
        case measure => simp [intOf]; omega
      · obtain rfl : j = m.length := by omega
        have HA := hide (cells_all m m.length (Nat.le_refl _))
        go_wp2
        go_ret
        exact ⟨ret_int (by rw [← HA.out, HT.out]), HO.out, HW.out⟩

set_option maxHeartbeats 400000 in
theorem heldIntSS_any (m : List (List Int)) (q : Nat) (v : Value) (w : World) (hn : m.length + cellsM m ≤ 1500000) (hq : q ≤ 2000000) (hv : InMat w v (markM m q)) :
    Calls Try.prog 40 #[v, .int .i64 q] w fun e w' => e = .returned (.int .i64 (q + cellsM m : Nat)) ∧ Below w.heap.size w w' := by
  have hl := markM_len m q
  obtain ⟨a, c, rfl, -, hp⟩ := hv
  by_cases h0 : m.length = 0
  · have hr : m = [] := List.eq_nil_of_length_eq_zero h0
    subst hr
    clear hp h0 hn hl
    go_enter Try.func40, Try.ntmps40
    go_wp2
    go_loop [1, 5] (fun k i => i = .int .i64 0 ∧ k = .int .i64 q) (fun _ _ => 0)
    case atStart => exact ⟨rfl, rfl⟩
    case round =>
      obtain ⟨rfl, rfl⟩ := hrel
      go_wp2
      go_ret
      exact ⟨rfl, Below.refl _ _⟩
  · obtain ⟨g, o, rfl, hg, hcell⟩ := hp.resolve_left (by rw [hl]; exact h0)
    have HC := hide hcell; have HL := hide hl
    rw [hl]
    clear hp hcell h0 hl
    go_enter Try.func40, Try.ntmps40
    go_wp2
    go_loopw [1, 5] (fun k i w' => ∃ j t : Nat, j ≤ m.length ∧ i = .int .i64 j ∧ k = .int .i64 (q + t : Nat) ∧ cellsM (m.take j) = t ∧ Below w.heap.size w w') (fun _ i _ => m.length - (intOf i).toNat)
    case atStart => exact ⟨0, 0, Nat.zero_le _, rfl, rfl, by simp [cellsM], Below.refl _ _⟩
    case round =>
      obtain ⟨j, t, hj, rfl, rfl, ht, hb⟩ := hrel
      have HT := hide ht; have HB := hide hb
      have hle : t ≤ 1500000 := by have := cells_take m j; omega
      clear ht hb
      by_cases hlt : j < m.length
      · obtain ⟨u, hx, hr⟩ := HC.out j (by rw [HL.out]; exact hlt)
        have hx : wr.cell? ⟨g, o + j, none⟩ = some u := below_cell HB.out hg hx
        have hr := inRow_below hr HB.out
        rw [markM_at m q j _ hlt, HT.out] at hr
        have HR := hide hr
        have hrow : m[j].length ≤ 2000000 := by have := cells_row m j hlt; omega
        have HS := hide (cells_snoc m j hlt)
        clear hr
        obtain ⟨n, hnn⟩ : ∃ n, n = m[j].length := ⟨_, rfl⟩
        rw [← hnn] at HR hrow HS
        clear hnn
        go_wp2_with (go_at_call 76; refine (heldIntS_any n (q + t) _ _ hrow (by omega) HR.out).mono ?_; rintro e w2 ⟨rfl, hb2⟩; have HB2 := hide hb2; clear hb2)
        go_roundw
        case rel => exact ⟨j + 1, t + n, by omega, by go_num, by go_num, by rw [HS.out, HT.out], HB.out.trans (HB2.out.mono HB.out.size)⟩
        case measure => simp [intOf]; omega
      · obtain rfl : j = m.length := by omega
        have HA := hide (cells_all m m.length (Nat.le_refl _))
        go_wp2
        go_ret
        exact ⟨ret_int (by rw [← HA.out, HT.out]), HB.out⟩
end Go.Proofs.Ytpfaaglaeholbaa
/-
  ImageOk, of the model and of the program.
-/
namespace Go.Proofs.Ytpfaaglaeholbaa
open Go.RowKit

def cellOk (x : Int) : Bool := x == 0 || x == 1
def rowOk (C : Nat) (r : List Int) : Bool := r.length == C && r.all cellOk
def widthM (m : List (List Int)) : Nat := (m.headD []).length
def okB (m : List (List Int)) : Bool := decide (1 ≤ m.length ∧ m.length ≤ 5) && decide (1 ≤ widthM m ∧ widthM m ≤ 5) && m.all (rowOk (widthM m))
theorem okB_no1 {m : List (List Int)} (h : ¬ (1 ≤ m.length ∧ m.length ≤ 5)) : okB m = false := by simp only [okB, decide_eq_false h, Bool.false_and]
theorem okB_no2 {m : List (List Int)} (h : ¬ (1 ≤ widthM m ∧ widthM m ≤ 5)) : okB m = false := by simp only [okB, decide_eq_false h, Bool.and_false, Bool.false_and]
theorem okB_no3 {m : List (List Int)} (k : Nat) (hk : k < m.length) (h : rowOk (widthM m) m[k] = false) : okB m = false := by
  have : m.all (rowOk (widthM m)) = false := by
    rw [Bool.eq_false_iff]; intro e
    rw [List.all_eq_true] at e
    have := e _ (List.getElem_mem hk)
    rw [h] at this; cases this
  simp only [okB, this, Bool.and_false]
theorem okB_yes {m : List (List Int)} (h1 : 1 ≤ m.length ∧ m.length ≤ 5) (h2 : 1 ≤ widthM m ∧ widthM m ≤ 5) (h3 : ∀ k, (h : k < m.length) → rowOk (widthM m) m[k] = true) : okB m = true := by
  have : m.all (rowOk (widthM m)) = true := by
    rw [List.all_eq_true]; intro r hr
    obtain ⟨k, hk, rfl⟩ := List.getElem_of_mem hr
    exact h3 k hk
  simp only [okB, decide_eq_true h1, decide_eq_true h2, this, Bool.and_self]
theorem rowOk_no1 {C : Nat} {r : List Int} (h : r.length ≠ C) : rowOk C r = false := by simp [rowOk, h]
theorem rowOk_no2 {C : Nat} {r : List Int} (j : Nat) (hj : j < r.length) (h : cellOk r[j] = false) : rowOk C r = false := by
  have : r.all cellOk = false := by
    rw [Bool.eq_false_iff]; intro e
    rw [List.all_eq_true] at e
    have := e _ (List.getElem_mem hj)
    rw [h] at this; cases this
  simp only [rowOk, this, Bool.and_false]
theorem rowOk_yes {C : Nat} {r : List Int} (h : r.length = C) (h3 : ∀ j, (h : j < r.length) → cellOk r[j] = true) : rowOk C r = true := by
  have : r.all cellOk = true := by
    rw [List.all_eq_true]; intro x hx
    obtain ⟨k, hk, rfl⟩ := List.getElem_of_mem hx
    exact h3 k hk
  simp [rowOk, h, this]
theorem cellOk_no {x : Int} (h0 : x ≠ 0) (h1 : x ≠ 1) : cellOk x = false := by simp [cellOk, h0, h1]
theorem width_at (m : List (List Int)) (h : 0 < m.length) : widthM m = m[0].length := by
  cases m with
  | nil => simp at h
  | cons r t => rfl

theorem l01In_any (n lo hi : Int) (w : World) :
    Calls Try.prog 102 #[.int .i64 n, .int .i64 lo, .int .i64 hi] w fun e w' => e = .returned (.bool (decide (lo ≤ n ∧ n ≤ hi))) ∧ w = w' := by
  by_cases h1 : lo ≤ n
  · by_cases h2 : n ≤ hi
    all_goals
      go_enter Try.func102, Try.ntmps102
      go_wp2
      go_ret
      exact ⟨ret_bool (by simp [h1, h2]; try omega), rfl⟩
  · go_enter Try.func102, Try.ntmps102
    go_wp2
    go_ret
    exact ⟨ret_bool (by simp; omega), rfl⟩
theorem sideOk_any (n : Int) (w : World) :
    Calls Try.prog 90 #[.int .i64 n] w fun e w' => e = .returned (.bool (decide (1 ≤ n ∧ n ≤ 5))) ∧ w = w' := by
  by_cases h1 : 1 ≤ n
  · by_cases h2 : n ≤ 5
    all_goals
      go_enter Try.func90, Try.ntmps90
      go_wp2
      go_ret
      exact ⟨ret_bool (by simp [h1, h2]; try omega), rfl⟩
  · go_enter Try.func90, Try.ntmps90
    go_wp2
    go_ret
    exact ⟨ret_bool (by simp; omega), rfl⟩
theorem colorOk_any (x : Int) (w : World) :
    Calls Try.prog 91 #[.int .i64 x] w fun e w' => e = .returned (.bool (cellOk x)) ∧ w = w' := by
  by_cases h1 : x = 0
  · subst h1
    go_enter Try.func91, Try.ntmps91
    go_wp2
    go_ret
    exact ⟨rfl, rfl⟩
  · have h0 : (x == 0) = false := by simp [h1]
    go_enter Try.func91, Try.ntmps91
    go_wp2
    go_ret
    exact ⟨ret_bool (by simp [cellOk, h1]), rfl⟩

set_option maxRecDepth 100000 in
set_option maxHeartbeats 1000000 in
theorem specImageOk_any (v : Value) (m : List (List Int)) (w : World) (hin : InMat w v m) :
    Calls Try.prog 85 #[v] w fun e w' => e = .returned (.bool (okB m)) ∧ w = w' := by
  obtain ⟨a, c, rfl, hm, hp⟩ := hin
  unfold maxLen at hm
  by_cases h1 : 1 ≤ m.length ∧ m.length ≤ 5
  · obtain ⟨g, o, rfl, hg, hcell⟩ := hp.resolve_left (by omega)
    have HC := hide hcell
    clear hp hcell
    have hpos : 0 < m.length := by omega
    obtain ⟨u0, hx0, hr0⟩ := HC.out 0 hpos
    rw [Nat.add_zero] at hx0
    obtain ⟨a0, c0, rfl, hm0, -⟩ := hr0
    unfold maxLen at hm0
    have HW := hide (width_at m hpos)
    have hrec : ∃ C, C = m[0].length := ⟨_, rfl⟩
    obtain ⟨C, hC⟩ := hrec
    rw [← hC] at hx0 hm0
    have HW : Hid (widthM m = C) := hide (by rw [HW.out, hC])
    clear hC
    have hR : decide ((1 : Int) ≤ m.length ∧ (m.length : Int) ≤ 5) = true := decide_eq_true (by omega)
    have HR := hide hR; clear hR
    by_cases h2 : 1 ≤ C ∧ C ≤ 5
    · have HK : Hid (decide ((1 : Int) ≤ C ∧ (C : Int) ≤ 5) = true) := hide (decide_eq_true (by omega))
      obtain ⟨R, hRR⟩ : ∃ R, R = m.length := ⟨_, rfl⟩
      have HL := hide hRR
      have H1 := hide h1; have H2 := hide h2
      rw [← hRR] at hm hpos HR h1 ⊢
      clear hRR
      go_enter Try.func85, Try.ntmps85
      go_wp2_with (first | (with_reducible refine (l01In_any (R : Int) 1 5 _).mono ?_; rw [HR.out]; rintro e w' ⟨rfl, rfl⟩) | (with_reducible refine (l01In_any (C : Int) 1 5 _).mono ?_; rw [HK.out]; rintro e w' ⟨rfl, rfl⟩))
      go_loop [21] (fun i => ∃ k : Nat, k ≤ R ∧ i = .int .i64 k ∧ ∀ t, (h : t < m.length) → t < k → rowOk C m[t] = true) (fun i => R - (intOf i).toNat)
      case atStart => exact ⟨0, Nat.zero_le _, rfl, fun t _ h => absurd h (Nat.not_lt_zero _)⟩
      case round =>
        obtain ⟨k, hk, rfl, hall⟩ := hrel
        have HA := hide hall
        clear hall
        by_cases hlt : k < R
        · have hk' : k < m.length := by rw [← HL.out]; exact hlt
          obtain ⟨u, hx, hr⟩ := HC.out k hk'
          obtain ⟨a', c', rfl, hm', hp'⟩ := hr
          unfold maxLen at hm'
          obtain ⟨n, hn⟩ : ∃ n, n = m[k].length := ⟨_, rfl⟩
          have HN := hide hn
          rw [← hn] at hx hm'
          by_cases hlen : n = C
          · subst hlen
            obtain ⟨g', o', rfl, hg', hcell'⟩ := hp'.resolve_left (by omega)
            have HC' := hide hcell'
            clear hp' hcell' hn
            go_wp2
            go_loop [34] (fun i => ∃ j : Nat, j ≤ n ∧ i = .int .i64 j ∧ ∀ t, (h : t < m[k].length) → t < j → cellOk m[k][t] = true) (fun i => n - (intOf i).toNat)
            case atStart => exact ⟨0, Nat.zero_le _, rfl, fun t _ h => absurd h (Nat.not_lt_zero _)⟩
            case round =>
              obtain ⟨j, hj, rfl, hall⟩ := hrel
              have HB := hide hall
              clear hall
              by_cases hlj : j < n
              · have hj' : j < m[k].length := by rw [← HN.out]; exact hlj
                have hy := HC'.out j hj'
                have hstep : cellOk m[k][j] = true → ∀ t, (h : t < m[k].length) → t < j + 1 → cellOk m[k][t] = true := fun hc t ht h => by
                  by_cases e : t = j
                  · subst e; exact hc
                  · exact HB.out t ht (by omega)
                have HS := hide hstep
                clear hstep
                have HNO := hide (fun h => okB_no3 (m := m) k hk' (by rw [HW.out]; exact rowOk_no2 j hj' h))
                obtain ⟨y, hyy⟩ : ∃ y, y = m[k][j] := ⟨_, rfl⟩
                rw [← hyy] at hy HS HNO
                clear hyy
                by_cases e0 : y = 0
                · subst e0
                  go_wp2
                  go_round
                  case rel => exact ⟨j + 1, by omega, by go_num, HS.out rfl⟩
                  case measure => simp [intOf]; omega
                · by_cases e1 : y = 1
                  · subst e1
                    clear e0
                    go_wp2
                    go_round
                    case rel => exact ⟨j + 1, by omega, by go_num, HS.out rfl⟩
                    case measure => simp [intOf]; omega
                  · have HF := hide (cellOk_no e0 e1)
                    have b0 : (y == 0) = false := by simp [e0]
                    have b1 : (y == 1) = false := by simp [e1]
                    have b2 : (y != 0) = true := by simp [e0]
                    have b3 : (y != 1) = true := by simp [e1]
                    clear e0 e1
                    go_wp2
                    go_ret
                    exact ⟨ret_bool (HNO.out HF.out).symm, rfl⟩
              · have HROW := hide (rowOk_yes (C := n) HN.out.symm (fun t ht => HB.out t ht (by have := HN.out; omega)))
                go_wp2
                go_round
                case rel =>
                  exact ⟨k + 1, by omega, by go_num, fun t ht h => by
                    by_cases e : t = k
                    · subst e; exact HROW.out
                    · exact HA.out t ht (by omega)⟩
                case measure => simp [intOf]; omega
          · have HF := hide (okB_no3 (m := m) k hk' (rowOk_no1 (by rw [HW.out, ← hn]; exact hlen)))
            clear hn
            have hne : ((n : Int) == (C : Int)) = false := by simp; omega
            go_wp2
            go_ret
            exact ⟨ret_bool HF.out.symm, rfl⟩
        · have HY := hide (okB_yes (m := m) H1.out (by rw [HW.out]; exact H2.out) (fun t ht => by rw [HW.out]; exact HA.out t ht (by have := HL.out; omega)))
          go_wp2
          go_ret
          exact ⟨ret_bool HY.out.symm, rfl⟩
    · have HK : Hid (decide ((1 : Int) ≤ C ∧ (C : Int) ≤ 5) = false) := hide (decide_eq_false (by omega))
      have HF := hide (okB_no2 (m := m) (by rw [HW.out]; exact h2))
      clear h1 h2
      go_enter Try.func85, Try.ntmps85
      go_wp2_with (first | (with_reducible refine (l01In_any (m.length : Int) 1 5 _).mono ?_; rw [HR.out]; rintro e w' ⟨rfl, rfl⟩) | (with_reducible refine (l01In_any (C : Int) 1 5 _).mono ?_; rw [HK.out]; rintro e w' ⟨rfl, rfl⟩))
      go_ret
      exact ⟨ret_bool HF.out.symm, rfl⟩
  · have HR : Hid (decide ((1 : Int) ≤ m.length ∧ (m.length : Int) ≤ 5) = false) := hide (decide_eq_false (by omega))
    have HF := hide (okB_no1 h1)
    clear hp h1
    go_enter Try.func85, Try.ntmps85
    go_wp2_with (first | (with_reducible refine (l01In_any (m.length : Int) 1 5 _).mono ?_; rw [HR.out]; rintro e w' ⟨rfl, rfl⟩))
    go_ret
    exact ⟨ret_bool HF.out.symm, rfl⟩

set_option maxRecDepth 100000 in
set_option maxHeartbeats 1000000 in
theorem implImageOk_any (v : Value) (m : List (List Int)) (w : World) (hin : InMat w v m) :
    Calls Try.prog 52 #[v] w fun e w' => e = .returned (.bool (okB m)) ∧ w = w' := by
  obtain ⟨a, c, rfl, hm, hp⟩ := hin
  unfold maxLen at hm
  by_cases h1 : 1 ≤ m.length ∧ m.length ≤ 5
  · obtain ⟨g, o, rfl, hg, hcell⟩ := hp.resolve_left (by omega)
    have HC := hide hcell
    clear hp hcell
    have hpos : 0 < m.length := by omega
    obtain ⟨u0, hx0, hr0⟩ := HC.out 0 hpos
    rw [Nat.add_zero] at hx0
    obtain ⟨a0, c0, rfl, hm0, -⟩ := hr0
    unfold maxLen at hm0
    have HW := hide (width_at m hpos)
    have hrec : ∃ C, C = m[0].length := ⟨_, rfl⟩
    obtain ⟨C, hC⟩ := hrec
    rw [← hC] at hx0 hm0
    have HW : Hid (widthM m = C) := hide (by rw [HW.out, hC])
    clear hC
    have hR : decide ((1 : Int) ≤ m.length ∧ (m.length : Int) ≤ 5) = true := decide_eq_true (by omega)
    have HR := hide hR; clear hR
    by_cases h2 : 1 ≤ C ∧ C ≤ 5
    · have HK : Hid (decide ((1 : Int) ≤ C ∧ (C : Int) ≤ 5) = true) := hide (decide_eq_true (by omega))
      obtain ⟨R, hRR⟩ : ∃ R, R = m.length := ⟨_, rfl⟩
      have HL := hide hRR
      have H1 := hide h1; have H2 := hide h2
      rw [← hRR] at hm hpos HR h1 ⊢
      clear hRR
      go_enter Try.func52, Try.ntmps52
      go_wp2_with (first | (with_reducible refine (sideOk_any (R : Int) _).mono ?_; rw [HR.out]; rintro e w' ⟨rfl, rfl⟩) | (with_reducible refine (sideOk_any (C : Int) _).mono ?_; rw [HK.out]; rintro e w' ⟨rfl, rfl⟩))
      go_loop [21] (fun i => ∃ k : Nat, k ≤ R ∧ i = .int .i64 k ∧ ∀ t, (h : t < m.length) → t < k → rowOk C m[t] = true) (fun i => R - (intOf i).toNat)
      case atStart => exact ⟨0, Nat.zero_le _, rfl, fun t _ h => absurd h (Nat.not_lt_zero _)⟩
      case round =>
        obtain ⟨k, hk, rfl, hall⟩ := hrel
        have HA := hide hall
        clear hall
        by_cases hlt : k < R
        · have hk' : k < m.length := by rw [← HL.out]; exact hlt
          obtain ⟨u, hx, hr⟩ := HC.out k hk'
          obtain ⟨a', c', rfl, hm', hp'⟩ := hr
          unfold maxLen at hm'
          obtain ⟨n, hn⟩ : ∃ n, n = m[k].length := ⟨_, rfl⟩
          have HN := hide hn
          rw [← hn] at hx hm'
          by_cases hlen : n = C
          · subst hlen
            obtain ⟨g', o', rfl, hg', hcell'⟩ := hp'.resolve_left (by omega)
            have HC' := hide hcell'
            clear hp' hcell' hn
            go_wp2
            go_loop [34] (fun i => ∃ j : Nat, j ≤ n ∧ i = .int .i64 j ∧ ∀ t, (h : t < m[k].length) → t < j → cellOk m[k][t] = true) (fun i => n - (intOf i).toNat)
            case atStart => exact ⟨0, Nat.zero_le _, rfl, fun t _ h => absurd h (Nat.not_lt_zero _)⟩
            case round =>
              obtain ⟨j, hj, rfl, hall⟩ := hrel
              have HB := hide hall
              clear hall
              by_cases hlj : j < n
              · have hj' : j < m[k].length := by rw [← HN.out]; exact hlj
                have hy := HC'.out j hj'
                have hstep : cellOk m[k][j] = true → ∀ t, (h : t < m[k].length) → t < j + 1 → cellOk m[k][t] = true := fun hc t ht h => by
                  by_cases e : t = j
                  · subst e; exact hc
                  · exact HB.out t ht (by omega)
                have HS := hide hstep
                clear hstep
                have HNO := hide (fun h => okB_no3 (m := m) k hk' (by rw [HW.out]; exact rowOk_no2 j hj' h))
                obtain ⟨y, hyy⟩ : ∃ y, y = m[k][j] := ⟨_, rfl⟩
                rw [← hyy] at hy HS HNO
                clear hyy
                by_cases e0 : y = 0
                · subst e0
                  go_wp2_with (go_at_call 91; refine (colorOk_any _ _).mono ?_; rw [show cellOk 0 = true from rfl]; rintro e w' ⟨rfl, rfl⟩)
                  go_round
                  case rel => exact ⟨j + 1, by omega, by go_num, HS.out rfl⟩
                  case measure => simp [intOf]; omega
                · by_cases e1 : y = 1
                  · subst e1
                    clear e0
                    go_wp2_with (go_at_call 91; refine (colorOk_any _ _).mono ?_; rw [show cellOk 1 = true from rfl]; rintro e w' ⟨rfl, rfl⟩)
                    go_round
                    case rel => exact ⟨j + 1, by omega, by go_num, HS.out rfl⟩
                    case measure => simp [intOf]; omega
                  · have HF := hide (cellOk_no e0 e1)
                    clear e0 e1
                    go_wp2_with (go_at_call 91; refine (colorOk_any _ _).mono ?_; rw [HF.out]; rintro e w' ⟨rfl, rfl⟩)
                    go_ret
                    exact ⟨ret_bool (HNO.out HF.out).symm, rfl⟩
              · have HROW := hide (rowOk_yes (C := n) HN.out.symm (fun t ht => HB.out t ht (by have := HN.out; omega)))
                go_wp2
                go_round
                case rel =>
                  exact ⟨k + 1, by omega, by go_num, fun t ht h => by
                    by_cases e : t = k
                    · subst e; exact HROW.out
                    · exact HA.out t ht (by omega)⟩
                case measure => simp [intOf]; omega
          · have HF := hide (okB_no3 (m := m) k hk' (rowOk_no1 (by rw [HW.out, ← hn]; exact hlen)))
            clear hn
            have hne : ((n : Int) == (C : Int)) = false := by simp; omega
            go_wp2
            go_ret
            exact ⟨ret_bool HF.out.symm, rfl⟩
        · have HY := hide (okB_yes (m := m) H1.out (by rw [HW.out]; exact H2.out) (fun t ht => by rw [HW.out]; exact HA.out t ht (by have := HL.out; omega)))
          go_wp2
          go_ret
          exact ⟨ret_bool HY.out.symm, rfl⟩
    · have HK : Hid (decide ((1 : Int) ≤ C ∧ (C : Int) ≤ 5) = false) := hide (decide_eq_false (by omega))
      have HF := hide (okB_no2 (m := m) (by rw [HW.out]; exact h2))
      clear h1 h2
      go_enter Try.func52, Try.ntmps52
      go_wp2_with (first | (with_reducible refine (sideOk_any (m.length : Int) _).mono ?_; rw [HR.out]; rintro e w' ⟨rfl, rfl⟩) | (with_reducible refine (sideOk_any (C : Int) _).mono ?_; rw [HK.out]; rintro e w' ⟨rfl, rfl⟩))
      go_ret
      exact ⟨ret_bool HF.out.symm, rfl⟩
  · have HR : Hid (decide ((1 : Int) ≤ m.length ∧ (m.length : Int) ≤ 5) = false) := hide (decide_eq_false (by omega))
    have HF := hide (okB_no1 h1)
    clear hp h1
    go_enter Try.func52, Try.ntmps52
    go_wp2_with (first | (with_reducible refine (sideOk_any (m.length : Int) _).mono ?_; rw [HR.out]; rintro e w' ⟨rfl, rfl⟩))
    go_ret
    exact ⟨ret_bool HF.out.symm, rfl⟩
end Go.Proofs.Ytpfaaglaeholbaa
/-
  What a call answers: a list of lists of its own, alone or with a bool.
-/
namespace Go.Proofs.Ytpfaaglaeholbaa
open Go.RowKit

/-- The call answers a list of lists of its own. -/
def MatRes (rows : List (List Int)) (w : World) (e : Ending) (w' : World) : Prop := ∃ v, e = .returned v ∧ OwnMat w' w.heap.size w'.heap.size v rows ∧ Below w.heap.size w w'
theorem matRes_nil {w w' : World} (h : Below w.heap.size w w') : MatRes [] w (.returned (.slice none 0 0)) w' := ⟨_, rfl, ownMat_nil _ _ _, h⟩
/-- The call answers a list of lists of its own, and a bool. -/
def MatRes2 (rows : List (List Int)) (b : Bool) (w : World) (e : Ending) (w' : World) : Prop := ∃ v, e = .returned (.tuple #[v, .bool b]) ∧ OwnMat w' w.heap.size w'.heap.size v rows ∧ Below w.heap.size w w'
theorem matRes2_nil {w w' : World} (h : Below w.heap.size w w') : MatRes2 [] false w (.returned (.tuple #[.slice none 0 0, .bool false])) w' := ⟨_, rfl, ownMat_nil _ _ _, h⟩
theorem ownMat_some {w : World} {lo hi : Nat} {v : Value} {m : List (List Int)} (h : OwnMat w lo hi v m) (h0 : 0 < m.length) : ∃ g c, v = .slice (some ⟨g, 0, none⟩) m.length c := by
  obtain ⟨vs, hv, -⟩ := h
  obtain ⟨g, c, rfl, -⟩ := own_some hv h0
  exact ⟨g, c, rfl⟩
end Go.Proofs.Ytpfaaglaeholbaa
/-
  Images by their cells: plain lists, what reads them and what owns them.
-/
namespace Go.Proofs.Ytpfaaglaeholbaa
open Go.RowKit

def rowF (C : Nat) (f : Nat → Int) : List Int := (List.range C).map f
/-- The list of R rows of C cells. -/
def mkM (R C : Nat) (f : Nat → Nat → Int) : List (List Int) := (List.range R).map fun y => rowF C (f y)
theorem rowF_len (C : Nat) (f : Nat → Int) : (rowF C f).length = C := by simp [rowF]
theorem rowF_at (C : Nat) (f : Nat → Int) (x : Nat) (h : x < (rowF C f).length) : (rowF C f)[x] = f x := by simp [rowF]
theorem mkM_len (R C : Nat) (f : Nat → Nat → Int) : (mkM R C f).length = R := by simp [mkM]
theorem mkM_at (R C : Nat) (f : Nat → Nat → Int) (y : Nat) (h : y < (mkM R C f).length) : (mkM R C f)[y] = rowF C (f y) := by simp [mkM]
theorem rowF_congr {C : Nat} {f g : Nat → Int} (h : ∀ x, x < C → f x = g x) : rowF C f = rowF C g := List.map_congr_left fun x hx => h x (List.mem_range.1 hx)
theorem mkM_congr {R C : Nat} {f g : Nat → Nat → Int} (h : ∀ y x, y < R → x < C → f y x = g y x) : mkM R C f = mkM R C g :=
  List.map_congr_left fun y hy => rowF_congr fun x hx => h y x (List.mem_range.1 hy) hx
theorem mkM_succ (R C : Nat) (f : Nat → Nat → Int) : mkM (R + 1) C f = mkM R C f ++ [rowF C (f R)] := by simp [mkM, List.range_succ]
theorem rowF_set (C : Nat) (f : Nat → Int) (x : Nat) (v : Int) : (rowF C f).set x v = rowF C fun j => if j = x then v else f j := by
  apply List.ext_getElem
  · simp [rowF]
  · intro j h1 h2
    rw [List.getElem_set]
    by_cases e : x = j
    · subst e; simp [rowF]
    · simp [rowF, e, Ne.symm e]
theorem mkM_set (R C : Nat) (f : Nat → Nat → Int) (y x : Nat) (v : Int) : (mkM R C f).set y (rowF C fun j => if j = x then v else f y j) = mkM R C fun a b => if a = y ∧ b = x then v else f a b := by
  apply List.ext_getElem
  · simp [mkM]
  · intro j h1 h2
    rw [List.getElem_set]
    by_cases e : y = j
    · subst e; simp [mkM]
    · simp [mkM, e, Ne.symm e]
theorem cells_mkM (R C : Nat) (f : Nat → Nat → Int) : cellsM (mkM R C f) = R * C := by
  induction R with
  | zero => simp [mkM, cellsM]
  | succ R ih =>
    rw [mkM_succ]
    simp only [cellsM, List.map_append, List.sum_append, List.map_cons, List.map_nil, List.sum_cons, List.sum_nil, rowF_len] at ih ⊢
    rw [ih, Nat.succ_mul]; omega

/-- The cells of a valid image. -/
structure Img (R C : Nat) (f : Nat → Nat → Int) : Prop where
  r1 : 1 ≤ R
  r2 : R ≤ 5
  c1 : 1 ≤ C
  c2 : C ≤ 5
  cell : ∀ y x, y < R → x < C → f y x = 0 ∨ f y x = 1
theorem ok_img {m : List (List Int)} (h : okB m = true) : ∃ R C f, m = mkM R C f ∧ Img R C f := by
  simp only [okB, Bool.and_eq_true, decide_eq_true_eq, List.all_eq_true] at h
  obtain ⟨⟨⟨h1, h2⟩, h3, h4⟩, h5⟩ := h
  have hrow : ∀ y, (hy : y < m.length) → m[y].length = widthM m ∧ ∀ x, (hx : x < m[y].length) → m[y][x] = 0 ∨ m[y][x] = 1 := fun y hy => by
    have := h5 _ (List.getElem_mem hy)
    simp only [rowOk, Bool.and_eq_true, beq_iff_eq, List.all_eq_true] at this
    refine ⟨this.1, fun x hx => ?_⟩
    have := this.2 _ (List.getElem_mem hx)
    simpa [cellOk] using this
  refine ⟨m.length, widthM m, fun y x => (m.getD y []).getD x 0, ?_, h1, h2, h3, h4, fun y x hy hx => ?_⟩
  · apply List.ext_getElem
    · simp [mkM]
    · intro y hy1 hy2
      rw [mkM_at]
      apply List.ext_getElem
      · rw [rowF_len, (hrow y hy1).1]
      · intro x hx1 hx2
        rw [rowF_at, List.getD_eq_getElem?_getD, List.getD_eq_getElem?_getD, List.getElem?_eq_getElem hy1, Option.getD_some, List.getElem?_eq_getElem hx1]; rfl
  · have hx' : x < m[y].length := by rw [(hrow y hy).1]; exact hx
    have := (hrow y hy).2 x hx'
    simpa [List.getD_eq_getElem?_getD, List.getElem?_eq_getElem hy, List.getElem?_eq_getElem hx'] using this
theorem width_mkM {R C : Nat} {f : Nat → Nat → Int} (h : 0 < R) : widthM (mkM R C f) = C := by
  rw [width_at _ (by rw [mkM_len]; exact h), mkM_at, rowF_len]
theorem img_ok {R C : Nat} {f : Nat → Nat → Int} (h : Img R C f) : okB (mkM R C f) = true := by
  have hw := width_mkM (C := C) (f := f) (show 0 < R by have := h.r1; omega)
  refine okB_yes (by rw [mkM_len]; exact ⟨h.r1, h.r2⟩) (by rw [hw]; exact ⟨h.c1, h.c2⟩) fun k hk => ?_
  rw [hw, mkM_at]
  have hk' : k < R := by rw [mkM_len] at hk; exact hk
  refine rowOk_yes (rowF_len _ _) fun j hj => ?_
  rw [rowF_len] at hj
  rw [rowF_at]
  rcases h.cell k j hk' hj with e | e <;> rw [e] <;> rfl

/-- An image that is read: its rows' slices and its cells. -/
theorem inMat_img {w : World} {v : Value} {R C : Nat} {f : Nat → Nat → Int} (h : InMat w v (mkM R C f)) (hR : 0 < R) (hC : 0 < C) :
    ∃ g o c, v = .slice (some ⟨g, o, none⟩) R c ∧ g < w.heap.size ∧ ∀ y, y < R → ∃ g' o' c', w.cell? ⟨g, o + y, none⟩ = some (.slice (some ⟨g', o', none⟩) C c') ∧ g' < w.heap.size ∧ ∀ x, x < C → w.cell? ⟨g', o' + x, none⟩ = some (.int .i64 (f y x)) := by
  obtain ⟨a, c, rfl, -, hp⟩ := h
  obtain ⟨g, o, rfl, hg, hc⟩ := hp.resolve_left (by rw [mkM_len]; omega)
  refine ⟨g, o, c, by rw [mkM_len], hg, fun y hy => ?_⟩
  obtain ⟨u, hu, hr⟩ := hc y (by rw [mkM_len]; exact hy)
  rw [mkM_at] at hr
  obtain ⟨a', c', rfl, -, hp'⟩ := hr
  obtain ⟨g', o', rfl, hg', hc'⟩ := hp'.resolve_left (by rw [rowF_len]; omega)
  rw [rowF_len] at hu
  refine ⟨g', o', c', hu, hg', fun x hx => ?_⟩
  rw [hc' x (by rw [rowF_len]; exact hx), rowF_at]

/-- A cell of an image that the call owns: where it lies, and the image with another number in it. -/
theorem ownMat_cell {w : World} {lo hi g n c R C : Nat} {f : Nat → Nat → Int} (h : OwnMat w lo hi (.slice (some ⟨g, 0, none⟩) n c) (mkM R C f)) (y x : Nat) (hy : y < R) (hx : x < C) :
    ∃ g' c', w.cell? ⟨g, y, none⟩ = some (.slice (some ⟨g', 0, none⟩) C c') ∧ w.cell? ⟨g', x, none⟩ = some (.int .i64 (f y x)) ∧ w.frozen? ⟨g', x, none⟩ = false ∧ lo ≤ g' ∧ g' < hi ∧
      ∀ z : Int, OwnMat (w.setCell ⟨g', x, none⟩ (.int .i64 z)) lo hi (.slice (some ⟨g, 0, none⟩) n c) (mkM R C fun a b => if a = y ∧ b = x then z else f a b) := by
  obtain ⟨u, hu, -, hr, hh, hset⟩ := ownMat_row h y (by rw [mkM_len]; exact hy)
  rw [mkM_at, rowF_len] at hr hset
  obtain ⟨g', c', rfl, hlo, -, -, -, hc, hf⟩ := own_some hr (by omega)
  refine ⟨g', c', hu, ?_, hf x, hlo, hh _ rfl, fun z => ?_⟩
  · rw [hc x hx, ints_at _ x (by rw [rowF_len]; exact hx), rowF_at]
  · obtain ⟨h1, h2⟩ := hr.stored x (.int .i64 z)
    rw [ints_set, rowF_set] at h1
    have := hset _ _ h1 (rowF_len _ _) h2
    rw [mkM_set] at this; exact this

/-- The image as rows of five numbers, -1 where it has no cell. -/
def imgF (R C : Nat) (f : Nat → Nat → Int) (i : Nat) : Int := if i / 5 < R ∧ i % 5 < C then f (i / 5) (i % 5) else -1
theorem imgF_at (R C : Nat) (f : Nat → Nat → Int) (y x : Nat) (h : x < 5) : imgF R C f (5 * y + x) = if y < R ∧ x < C then f y x else -1 := by
  rw [imgF, show (5 * y + x) / 5 = y by omega, show (5 * y + x) % 5 = x by omega]
theorem imgF_range {R C : Nat} {f : Nat → Nat → Int} (h : Img R C f) (i : Nat) : imgF R C f i = -1 ∨ imgF R C f i = 0 ∨ imgF R C f i = 1 := by
  unfold imgF
  split
  · rename_i hh; rcases h.cell _ _ hh.1 hh.2 with e | e <;> simp [e]
  · exact .inl rfl

/-- How many of the first k numbers have p. -/
def cnt (p : Nat → Bool) : Nat → Nat
  | 0 => 0
  | k + 1 => cnt p k + if p k then 1 else 0
theorem cnt_yes {p : Nat → Bool} {k : Nat} (h : p k = true) : cnt p (k + 1) = cnt p k + 1 := by rw [cnt, if_pos h]
theorem cnt_no {p : Nat → Bool} {k : Nat} (h : p k = false) : cnt p (k + 1) = cnt p k := by rw [cnt, if_neg (by simp [h])]; rfl
theorem cnt_skip {p : Nat → Bool} {k l : Nat} (hkl : k ≤ l) (h : ∀ i, k ≤ i → i < l → p i = false) : cnt p l = cnt p k := by
  induction l with
  | zero => obtain rfl : k = 0 := by omega
            rfl
  | succ l ih =>
    by_cases e : k = l + 1
    · rw [e]
    · rw [cnt_no (h l (by omega) (by omega)), ih (by omega) fun i h1 h2 => h i h1 (by omega)]
theorem cnt_le (p : Nat → Bool) (k : Nat) : cnt p k ≤ k := by
  induction k with
  | zero => exact Nat.le_refl _
  | succ k ih => rw [cnt]; split <;> omega
def zeroM (_y _x : Nat) : Int := 0
end Go.Proofs.Ytpfaaglaeholbaa
/-
  whiteImage.
-/
namespace Go.Proofs.Ytpfaaglaeholbaa
open Go.RowKit

def whiteF (r c : Int) (i : Nat) : Int := if r ≤ (i / 5 : Nat) ∨ c ≤ (i % 5 : Nat) then -1 else 0
def upF (F : Nat → Int) (k : Nat) (i : Nat) : Int := if i < k then F i else 0
theorem Try.zeroImg (w : World) : (zeroValue 65).run Try.prog w = .ok (.agg (vec 25 fun _ => 0)) w := Try.zeroValue65 w
theorem Try.zeroRow (w : World) : (zeroValue 63).run Try.prog w = .ok (.agg (vec 5 fun _ => 0)) w := Try.zeroValue63 w
theorem Try.sizeImg : (Try.prog.info? 65).map (·.size) = some 25 := by kernel_rfl
theorem Try.sizeRow : (Try.prog.info? 63).map (·.size) = some 5 := by kernel_rfl

theorem upF_zero (F : Nat → Int) : upF F 0 = fun _ => 0 := by funext i; simp [upF]
theorem upF_set (F : Nat → Int) (k : Nat) (v : Int) (h : F k = v) : (fun j => if j = k then v else upF F k j) = upF F (k + 1) := by
  funext j
  simp only [upF]
  by_cases e : j = k
  · subst e; simp [h]
  · rw [if_neg e]
    by_cases hl : j < k
    · rw [if_pos hl, if_pos (by omega)]
    · rw [if_neg hl, if_neg (by omega)]
theorem upF_skip (F : Nat → Int) (k : Nat) (h : F k = 0) : upF F k = upF F (k + 1) := by
  funext j
  simp only [upF]
  by_cases hl : j < k
  · rw [if_pos hl, if_pos (by omega)]
  · by_cases e : j = k
    · subst e; simp [h]
    · rw [if_neg hl, if_neg (by omega)]
theorem upF_all (F : Nat → Int) (n k : Nat) (h : n ≤ k) : ∀ i, i < n → upF F k i = F i := fun i hi => by rw [upF, if_pos (by omega)]
theorem whiteF_at (r c : Int) (y x : Nat) (h : x < 5) : whiteF r c (5 * y + x) = if r ≤ (y : Nat) ∨ c ≤ (x : Nat) then -1 else 0 := by
  rw [whiteF, show (5 * y + x) / 5 = y by omega, show (5 * y + x) % 5 = x by omega]

set_option maxHeartbeats 400000 in
theorem whiteImage_any (r c : Int) (w : World) :
    Calls Try.prog 87 #[.int .i64 r, .int .i64 c] w fun e w' => e = .returned (.agg (vec 25 (whiteF r c))) ∧ Below w.heap.size w w' := by
  go_enter Try.func87, Try.ntmps87
  go_wp2_with (first | (with_reducible refine wpList_allocVec 25 4 rfl rfl rfl Try.zeroImg ?_; intro w1 h1 b1 s1) | (with_reducible refine wpList_allocVec 25 5 rfl rfl rfl Try.zeroImg ?_; intro w2 h2 b2 s2))
  rw [s1] at h2
  have b1' := b1.trans (b2.mono (by omega))
  have h1 := blk_below h1 b2
  have s2 : w2.heap.size = w.heap.size + 2 := by omega
  clear b1 s1 b2
  go_loopw [8] (fun i w' => ∃ y : Nat, y ≤ 5 ∧ i = .int .i64 y ∧ Blk w' (w.heap.size + 1) 65 25 (upF (whiteF r c) (5 * y)) ∧ Blk w' w.heap.size 65 25 (fun _ => 0) ∧ Below w.heap.size w w') (fun i _ => 5 - (intOf i).toNat)
  case atStart => exact ⟨0, by omega, rfl, by rw [Nat.mul_zero, upF_zero]; exact h2, h1, b1'⟩
  case round =>
    clear h1 h2 b1' s2
    obtain ⟨y, hy, rfl, hp, hr, hb⟩ := hrel
    by_cases hlt : y < 5
    · have hyI : (y : Int) < 5 := by omega
      go_wp2
      go_loopw [11] (fun i w' => ∃ x : Nat, x ≤ 5 ∧ i = .int .i64 x ∧ Blk w' (w.heap.size + 1) 65 25 (upF (whiteF r c) (5 * y + x)) ∧ Blk w' w.heap.size 65 25 (fun _ => 0) ∧ Below w.heap.size w w') (fun i _ => 5 - (intOf i).toNat)
      case atStart => exact ⟨0, by omega, rfl, hp, hr, hb⟩
      case round =>
        clear hp hr hb
        obtain ⟨x, hx, rfl, hp, hr, hb⟩ := hrel
        by_cases hlx : x < 5
        · by_cases hc : r ≤ (y : Int) ∨ c ≤ (x : Int)
          · have HS := hide (upF_set (whiteF r c) (5 * y + x) (-1) (by rw [whiteF_at r c y x hlx, if_pos hc]))
            have hcl := blk_cell hp (5 * y + x) (by omega)
            have hfr := blk_frozen hp (5 * y + x)
            have HA : Hid (0 + y * 5 + x * 1 = 5 * y + x) := hide (by omega)
            by_cases h1 : r ≤ (y : Int)
            all_goals
              try have h2 : c ≤ (x : Int) := by omega
              clear hc
              go_wp2_with (first | (with_reducible refine wpList_indexAt y 24 rfl rfl _ _ rfl rfl rfl Try.underlying65 Try.sizeOf63 hlt ?_) | (with_reducible refine wpList_indexAt x 25 rfl rfl _ _ rfl rfl rfl Try.underlying63 Try.sizeOf3 hlx ?_; rw [HA.out]))
              go_roundw
              case rel => exact ⟨x + 1, by omega, by go_num, by have := blk_set hp (5 * y + x) (-1); rw [HS.out] at this; exact this, blk_other hr _ _ (by simp), hb.setCell (by simp) _⟩
              case measure => simp [intOf]; omega
          · have h1 : (y : Int) < r := by omega
            have h2 : (x : Int) < c := by omega
            have HS := hide (upF_skip (whiteF r c) (5 * y + x) (by rw [whiteF_at r c y x hlx, if_neg hc]))
            clear hc
            go_wp2
            go_roundw
            case rel => exact ⟨x + 1, by omega, by go_num, by rw [HS.out] at hp; exact hp, hr, hb⟩
            case measure => simp [intOf]; omega
        · obtain rfl : x = 5 := by omega
          go_wp2
          go_roundw
          case rel => exact ⟨y + 1, by omega, by go_num, by rw [show 5 * (y + 1) = 5 * y + 5 by omega]; exact hp, hr, hb⟩
          case measure => simp [intOf]; omega
    · obtain rfl : y = 5 := by omega
      have hp := blk_congr hp (upF_all (whiteF r c) 25 (5 * 5) (by omega))
      go_wp2_with (first | (with_reducible refine wpList_loadVec hp 28 rfl rfl _ rfl rfl Try.underlying65 Try.sizeImg ?_) | (with_reducible refine wpList_storeVec hr rfl (.tmp 4) (.tmp 28) rfl rfl rfl Try.sizeImg ?_; intro w4 h4 g4 s4))
      refine bodyPost_ret (results_cell_row rfl _ _ w.heap.size 65 _ (0, 0) _ rfl h4 Try.underlying65 rfl (by rw [vec_size]; exact Try.sizeImg)) rfl ⟨rfl, ?_⟩
      exact hb.trans (grown_below g4 (fun k hk => by cases hk; exact Nat.le_refl _) hb.size)
end Go.Proofs.Ytpfaaglaeholbaa
/-
  The program's images: imageOf, size, lists.
-/
namespace Go.Proofs.Ytpfaaglaeholbaa
open Go.RowKit

theorem results_vec_tmp {P : Program} {fn : Func} {p t : Tmp} {ty : TypeId} (h : fn.results = #[.cell p ty, .tmp t]) (tmps : Array Value) (w : World) (g n m : Nat) (T e : TypeId) (F : Nat → Int)
    (hp : tmps.getD p undef = .pointer (some ⟨g, 0, none⟩)) (hb : Blk w g T n F) (hu : P.underlying ty = some (.array m e)) (hi : (P.info? ty).map (·.size) = some n) :
    (results fn tmps).run P w = .ok (.tuple #[.agg (vec n F), tmps.getD t undef]) w := by
  have hp' : tmps[p]?.getD undef = .pointer (some ⟨g, 0, none⟩) := by simpa using hp
  simp [results, h, hp', asAddr, run_loadVar_row w g T ty (vec n F) (0, 0) _ hb hu rfl (by rw [hi, vec_size])]
theorem results_vec {P : Program} {fn : Func} {p : Tmp} {ty : TypeId} (h : fn.results = #[.cell p ty]) (tmps : Array Value) (w : World) (g n m : Nat) (T e : TypeId) (F : Nat → Int)
    (hp : tmps.getD p undef = .pointer (some ⟨g, 0, none⟩)) (hb : Blk w g T n F) (hu : P.underlying ty = some (.array m e)) (hi : (P.info? ty).map (·.size) = some n) :
    (results fn tmps).run P w = .ok (.agg (vec n F)) w :=
  results_cell_row h tmps w g T (vec n F) (0, 0) _ hp hb hu rfl (by rw [hi, vec_size])

/-- The rows so far: of row y the first x cells, too. -/
def upRow (R C : Nat) (f : Nat → Nat → Int) (y : Nat) (i : Nat) : Int := if i / 5 < y then imgF R C f i else whiteF R C i
theorem upRow_zero (R C : Nat) (f : Nat → Nat → Int) : upRow R C f 0 = whiteF R C := by funext i; simp [upRow]
theorem upRow_all (R C : Nat) (f : Nat → Nat → Int) : ∀ i, i < 25 → upRow R C f R i = imgF R C f i := by
  intro i hi
  unfold upRow
  split
  · rfl
  · rename_i h; rw [whiteF, if_pos (by left; omega), imgF, if_neg (by omega)]
theorem upRow_step (R C : Nat) (f : Nat → Nat → Int) (y : Nat) (hy : y < R) (hR : R ≤ 5) (hC : C ≤ 5) : splice (vecL 25 (upRow R C f y)) (y * 5) (ints (rowF C (f y))) = vecL 25 (upRow R C f (y + 1)) := by
  have hl : (splice (vecL 25 (upRow R C f y)) (y * 5) (ints (rowF C (f y)))).length = 25 := by
    rw [length_splice _ _ _ (by rw [vecL_len, ints_len, rowF_len]; omega), vecL_len]
  apply List.ext_getElem
  · rw [hl, vecL_len]
  · intro i h1 h2
    have hi : i < 25 := by rw [hl] at h1; exact h1
    simp only [splice, vecL, ints, rowF]
    simp only [List.getElem_append, List.length_take, List.length_map, List.length_range, List.getElem_take, List.getElem_map, List.getElem_range, List.getElem_drop]
    by_cases a : i < y * 5
    · have : i < min (y * 5) 25 := by omega
      simp only [this, dif_pos]
      rw [upRow, upRow, if_pos (by omega), if_pos (by omega)]
    · have h0 : ¬ i < min (y * 5) 25 := by omega
      simp only [h0, dif_neg, not_false_eq_true]
      by_cases b : i < y * 5 + C
      · have h3 : i - min (y * 5) 25 < C := by omega
        simp only [h3, dif_pos]
        rw [upRow, if_pos (by omega), imgF, if_pos (by omega), show i - min (y * 5) 25 = i % 5 by omega, show y = i / 5 by omega]
      · have h3 : ¬ i - min (y * 5) 25 < C := by omega
        simp only [h3, dif_neg, not_false_eq_true]
        rw [show y * 5 + C + (i - min (y * 5) 25 - C) = i by omega]
        by_cases d : i / 5 < y + 1
        · rw [upRow, if_neg (by omega), upRow, if_pos d, whiteF, if_pos (by right; omega), imgF, if_neg (by omega)]
        · rw [upRow, if_neg (by omega), upRow, if_neg d]

theorem Try.builtImg : Try.prog.built 65 [] = some (vec 25 fun _ => 0) := by kernel_rfl
set_option maxHeartbeats 400000 in
theorem imageOf_no (v : Value) (m : List (List Int)) (w : World) (hin : InMat w v m) (h : okB m = false) :
    Calls Try.prog 49 #[v] w fun e w' => e = .returned (.tuple #[.agg (vec 25 fun _ => 0), .bool false]) ∧ Below w.heap.size w w' := by
  have HI := hide hin; have H := hide h
  clear hin h
  go_enter Try.func49, Try.ntmps49
  go_wp2_with (with_reducible refine wpList_allocVec 25 2 rfl rfl rfl Try.zeroImg ?_; intro w1 h1 b1 s1)
  have H1 := hide h1; have B1 := hide b1
  clear h1 b1
  go_wp2_with fail
  refine (implImageOk_any v m _ (inMat_below HI.out B1.out)).mono ?_
  rw [H.out]
  rintro e w2 ⟨rfl, rfl⟩
  go_wp2_with (first | (with_reducible refine wpList_buildVec 10 rfl rfl rfl Try.builtImg ?_) | (with_reducible refine wpList_storeVec H1.out rfl (.tmp 2) (.tmp 10) rfl rfl rfl Try.sizeImg ?_; intro w4 h4 g4 s4))
  refine bodyPost_ret (results_vec_tmp rfl _ _ w.heap.size 25 _ 65 _ _ rfl h4 Try.underlying65 Try.sizeImg) rfl ⟨rfl, ?_⟩
  exact B1.out.trans (grown_below g4 (fun k hk => by cases hk; exact Nat.le_refl _) B1.out.size)

set_option maxRecDepth 100000 in
set_option maxHeartbeats 1000000 in
theorem imageOf_yes (v : Value) (R C : Nat) (f : Nat → Nat → Int) (w : World) (hin : InMat w v (mkM R C f)) (hI : Img R C f) :
    Calls Try.prog 49 #[v] w fun e w' => e = .returned (.tuple #[.agg (vec 25 (imgF R C f)), .bool true]) ∧ Below w.heap.size w w' := by
  have HI := hide hin
  have hR := hI.r2; have hR1 := hI.r1; have hC := hI.c2; have hC1 := hI.c1
  have HOK := hide (img_ok hI)
  obtain ⟨g, o, c, rfl, hg, hcell⟩ := inMat_img hin (by omega) (by omega)
  have HC := hide hcell
  clear hin hcell hI
  go_enter Try.func49, Try.ntmps49
  go_wp2_with (with_reducible refine wpList_allocVec 25 2 rfl rfl rfl Try.zeroImg ?_; intro w1 h1 b1 s1)
  have H1 := hide h1; have B1 := hide b1
  clear h1 b1
  go_wp2_with fail
  refine (implImageOk_any _ _ _ (inMat_below HI.out B1.out)).mono ?_
  rw [HOK.out]
  rintro e w2 ⟨rfl, rfl⟩
  obtain ⟨g0, o0, c0, hx0, -⟩ := HC.out 0 (by omega)
  have hx0 := below_cell B1.out hg hx0
  rw [Nat.add_zero] at hx0
  go_wp2_with (first | (with_reducible refine (whiteImage_any (R : Int) (C : Int) _).mono ?_; rintro e w3 ⟨rfl, b3⟩) | (with_reducible refine wpList_allocVec 25 4 rfl rfl rfl Try.zeroImg ?_; intro w5 h5 b5 s5) | (with_reducible refine wpList_storeVec h5 rfl (.tmp 4) (.tmp 17) rfl rfl rfl Try.sizeImg ?_; intro w6 h6 g6 s6))
  have hlt3 : w.heap.size < w3.heap.size := by have := b3.size; omega
  have B3 := hide (B1.out.trans (b3.mono B1.out.size))
  have B6 := hide (B3.out.trans ((b5.mono B3.out.size).trans (grown_below g6 (fun k hk => by cases hk; omega) (by omega))))
  have H1 := hide (blk_grown (blk_below (blk_below H1.out b3) b5) g6 (by simp; omega))
  have h6' := hide h6
  have hs6 : w3.heap.size < w6.heap.size := blk_lt h6
  clear b3 b5 h5 s5 g6 s6 h6 hx0
  obtain ⟨p, hp⟩ : ∃ p, p = w3.heap.size := ⟨_, rfl⟩
  rw [← hp] at h6' hlt3 hs6 ⊢
  clear hp
  go_loopw [20] (fun i w' => ∃ y : Nat, y ≤ R ∧ i = .int .i64 y ∧ Blk w' p 65 25 (upRow R C f y) ∧ Blk w' w.heap.size 65 25 (fun _ => 0) ∧ Below w.heap.size w w') (fun i _ => R - (intOf i).toNat)
  case atStart => exact ⟨0, by omega, rfl, by rw [upRow_zero]; exact h6'.out, H1.out, B6.out⟩
  case round =>
    clear h6' H1 B6 B3 B1
    obtain ⟨y, hy, rfl, hp, hr, hb⟩ := hrel
    have HP := hide hp; have HR := hide hr; have HB := hide hb
    clear hp hr hb
    by_cases hlt : y < R
    · obtain ⟨g', o', c', hx, hg', hcell⟩ := HC.out y hlt
      have hx := below_cell HB.out hg hx
      have HCC := hide hcell
      have HP2 : Hid (wr.heap[p]? = some (.cells (vecL 25 (upRow R C f y)).toArray 65 (0, 0))) := HP.out
      have HST := hide (upRow_step R C f y hlt hR hC)
      have hyI : (y : Int) < 5 := by omega
      clear hcell
      obtain ⟨cs, hcs⟩ : ∃ cs, cs = ints (rowF C (f y)) := ⟨_, rfl⟩
      have HCS := hide hcs
      have hcl : cs.length = C := by rw [hcs, ints_len, rowF_len]
      have HCL := hide hcl
      clear hcs hcl
      have K1 : Hid (cs.length = Nat.min C 5) := hide (by rw [HCL.out]; show C = min C 5; omega)
      have K2 : Hid (0 < cs.length → some (⟨p, y * 5, none⟩ : Addr) = some ⟨p, y * 5, none⟩ ∧ ∃ ad, some (⟨g', o', none⟩ : Addr) = some ad ∧ ∀ j v, cs[j]? = some v → wr.cell? (ad.add j) = some v) := hide (by
        intro _
        refine ⟨rfl, _, rfl, fun j v hv => ?_⟩
        have hj : j < C := by have := (List.getElem?_eq_some_iff.1 hv).1; have := HCL.out; omega
        rw [HCS.out, ints_at _ j (by rw [rowF_len]; exact hj), rowF_at, Option.some.injEq] at hv
        subst hv
        rw [addr_add]
        exact below_cell HB.out hg' (HCC.out j hj))
      have K3 : Hid (y * 5 + cs.length ≤ (vecL 25 (upRow R C f y)).length) := hide (by rw [HCL.out, vecL_len]; omega)
      have K4 : Hid (∀ v ∈ cs, v.oneCell' = true) := hide (by
        intro v hv
        rw [HCS.out] at hv
        simp only [ints, List.mem_map] at hv
        obtain ⟨z, -, rfl⟩ := hv; rfl)
      go_wp2_with (first | (with_reducible refine wpList_indexAt y 26 rfl rfl _ _ rfl rfl rfl Try.underlying65 Try.sizeOf63 (by omega) ?_) | (refine wpList_copy_splice (o := ⟨some 29, _, _, _, _, _⟩) rfl (.tmp 27) (.tmp 28) 44 44 rfl 3 Try.underlying44 (by kernel_rfl) _ _ _ _ _ _ rfl rfl p (y * 5) (vecL 25 (upRow R C f y)) 65 HP2.out cs K1.out K2.out K3.out K4.out (w.heap.size + 1) wr (Below.refl _ _) hlt3 ?_; intro w7 h7 b7))
      go_roundw
      case rel =>
        refine ⟨y + 1, by omega, by go_num, ?_, ?_, HB.out.trans (b7.mono (by omega))⟩
        · have := h7.out
          rw [HCS.out, HST.out] at this; exact this
        · unfold Blk; rw [b7.block _ (Nat.lt_succ_self _)]; exact HR.out
      case measure => simp [intOf]; omega
    · obtain rfl : y = R := by omega
      have HP := hide (blk_congr HP.out (upRow_all y C f))
      go_wp2_with (first | (with_reducible refine wpList_loadVec HP.out 31 rfl rfl _ rfl rfl Try.underlying65 Try.sizeImg ?_) | (with_reducible refine wpList_storeVec HR.out rfl (.tmp 2) (.tmp 31) rfl rfl rfl Try.sizeImg ?_; intro w8 h8 g8 s8))
      refine bodyPost_ret (results_vec_tmp rfl _ _ w.heap.size 25 _ 65 _ _ rfl h8 Try.underlying65 Try.sizeImg) rfl ⟨rfl, ?_⟩
      exact HB.out.trans (grown_below g8 (fun k hk => by cases hk; exact Nat.le_refl _) HB.out.size)
end Go.Proofs.Ytpfaaglaeholbaa
/-
  l02Empty of the model.
-/
namespace Go.Proofs.Ytpfaaglaeholbaa
open Go.RowKit

set_option maxHeartbeats 1000000 in
theorem l02Empty_any (R C : Nat) (w : World) (hR : R ≤ 5) (hC : C ≤ 5) :
    Calls Try.prog 83 #[.int .i64 R, .int .i64 C] w (MatRes (mkM R C zeroM) w) := by
  have HZ : Hid (ints (rowF C (zeroM 0)) = List.replicate C (.int .i64 0)) := hide (by
    apply List.ext_getElem
    · simp [ints, rowF]
    · intro i h1 h2; simp [ints, rowF, zeroM])
  go_enter Try.func83, Try.ntmps83
  go_wp2
  go_loopw [5, 6] (fun o i w' => ∃ (y : Nat) (v : Value), y ≤ R ∧ i = .int .i64 y ∧ v = o ∧ OwnMat w' w.heap.size w'.heap.size v (mkM y C zeroM) ∧ Below w.heap.size w w') (fun _ i _ => R - (intOf i).toNat)
  case atStart => exact ⟨0, _, by omega, rfl, rfl, ⟨[], World.ownsRow_made (base := w.heap.size) w #[] 0 (Nat.le_refl _) (Nat.zero_le _) rfl, (fun k e => by simp [Value.ownBlock] at e; subst e; simp), (fun i h => absurd h (Nat.not_lt_zero _)), fun i j _ h => absurd h (Nat.not_lt_zero _)⟩, (Below.refl _ _).alloc (Nat.le_refl _) _⟩
  case round =>
    obtain ⟨y, v, hy, rfl, rfl, hown, hb⟩ := hrel
    have HO := hide hown; have HB := hide hb
    clear hown hb
    by_cases hlt : y < R
    · have hyI : (y : Int) < R := by omega
      have hsz := HB.out.size
      go_wp2_with (first | (at_make; refine wpList_new wr.heap.size C (.int .i64 0) rfl _ _ rfl Try.underlying44 Try.infoInt rfl (by decide) rfl rfl (by omega) (Nat.le_refl _) ?_; intro w1 hown1 hb1 hg1; have O1 := hide (ownMat_below HO.out hb1); have HU : Hid (w1.ownsRow wr.heap.size 3 1 (.slice (some ⟨wr.heap.size, 0, none⟩) C C) (rowF C (zeroM y)).length (ints (rowF C (zeroM y)))) := hide (by rw [rowF_len, show ints (rowF C (zeroM y)) = List.replicate C (.int .i64 0) from HZ.out]; exact hown1); have HB1 := hide (HB.out.trans (hb1.mono hsz)); have hs1 := hb1.size; clear hown1 hb1 hg1; obtain ⟨vs, hv, hvh, hvr, hva⟩ := O1.out; have hvl := mkM_len y C zeroM; rw [hvl] at hv; have HV := hide hv; have HVR := hide hvr; have HVA := hide hva; clear hv hvh hvr hva hvl) | (at_builtin; refine wpList_push HV.out (.slice (some ⟨wr.heap.size, 0, none⟩) C C) (.slice none 0 0) rfl _ _ rfl Try.underlying23 Try.infoInts rfl (by decide) rfl rfl rfl (by omega) (by omega) ?_; intro v' w6 hown1 hb1 hg1))
      go_roundw
      case rel =>
        have hs6 := hb1.size
        have hp := ownMat_push (r := rowF C (zeroM y)) (hi' := w6.heap.size) HVR.out HVA.out (by rw [mkM_len]; exact HV.out) (by rw [rowF_len]; have := HU.out; rw [rowF_len] at this; exact this) hsz (by omega) (by omega) hg1 (by rw [mkM_len]; exact hown1) (fun k e => (hown1.lt k e).2)
        rw [← mkM_succ] at hp
        exact ⟨y + 1, _, by omega, by go_num, rfl, hp, HB1.out.trans (hb1.mono (by omega))⟩
      case measure => simp [intOf]; omega
    · obtain rfl : y = R := by omega
      go_wp2
      go_ret
      exact ⟨_, rfl, HO.out, HB.out⟩

end Go.Proofs.Ytpfaaglaeholbaa
