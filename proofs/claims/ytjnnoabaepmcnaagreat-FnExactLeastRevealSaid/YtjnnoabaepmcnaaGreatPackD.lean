/-
  Texts of this claim, one behind the other: Conj, MostS, SortL, Top, AppR, Fill, White, Arr.
-/
import Derived.Test.YtjnnoabaepmcnaaGreatPackC
import Derived.Sort.LotA
import Derived.Test.YtjnnoabaepmcnaaGreatPackA
import Derived.Test.YtjnnoabaepmcnaaGreatPackB
import Derived.Laws.CopyOwn
/-
  ConjugateOf, of the model and of the program.
-/
namespace Go.Proofs.YtjnnoabaepmcnaaGreat
open Go.RowKit

/-- The list g 0, .., g (n - 1). -/
def tabL (n : Nat) (g : Nat → Int) : List Int := (List.range n).map g
theorem tabL_len (n : Nat) (g : Nat → Int) : (tabL n g).length = n := by simp [tabL]
theorem tabL_at {n : Nat} {g : Nat → Int} {i : Nat} (h : i < (tabL n g).length) : (tabL n g)[i] = g i := by simp [tabL]
theorem tabL_congr {n : Nat} {g h : Nat → Int} (e : ∀ i, i < n → g i = h i) : tabL n g = tabL n h := by
  unfold tabL; exact List.map_congr_left fun i hi => e i (List.mem_range.1 hi)
theorem tabL_set (n : Nat) (g : Nat → Int) (k : Nat) (y : Int) : (tabL n g).set k y = tabL n fun t => if t = k then y else g t := by
  apply List.ext_getElem
  · simp [tabL]
  · intro i h1 h2
    rw [List.getElem_set, tabL_at h2]
    by_cases e : k = i
    · rw [if_pos e, if_pos e.symm]
    · rw [if_neg e, tabL_at, if_neg (fun h => e h.symm)]
theorem tabL_zero (n : Nat) : List.replicate n (Value.int .i64 0) = ints (tabL n fun _ => 0) := by
  apply List.ext_getElem
  · simp [ints, tabL]
  · intro i h1 h2; simp [ints, tabL]
theorem tabL_held {n : Nat} {g : Nat → Int} {i : Nat} (h : i < n) : (ints (tabL n g)).getD i undef = .int .i64 (g i) := by
  rw [List.getD_eq_getElem?_getD, ints_at _ _ (by rw [tabL_len]; exact h), tabL_at]; rfl

/-- How many of l are at least t. -/
def atLeast (t : Int) (l : List Int) : Nat := l.countP fun x => decide (t ≤ x)
theorem atLeast_le (t : Int) (l : List Int) : atLeast t l ≤ l.length := List.countP_le_length
theorem atLeast_take (t : Int) (l : List Int) (k : Nat) (h : k < l.length) : atLeast t (l.take (k + 1)) = atLeast t (l.take k) + if t ≤ l[k] then 1 else 0 := by
  rw [atLeast, List.take_succ_eq_append_getElem h, List.countP_append]
  simp [atLeast]
/-- What ConjugateOf returns. -/
def conjL (l : List Int) (n : Nat) : List Int := tabL n fun k => ((atLeast (k + 1) l : Nat) : Int)
def conjOk (l : List Int) (n : Int) : Bool := decide (1 ≤ n ∧ n ≤ 5) && (decide (l.length ≤ 5) && !l.any (badB n))
def conjRes (l : List Int) (n : Int) : List Int := if conjOk l n = true then conjL l n.toNat else []
theorem conj_no1 {l : List Int} {n : Int} (h : ¬ (1 ≤ n ∧ n ≤ 5)) : conjRes l n = [] := by rw [conjRes, conjOk, decide_eq_false h]; rfl
theorem conj_no2 {l : List Int} {n : Int} (h : 5 < l.length) : conjRes l n = [] := by rw [conjRes, conjOk, decide_eq_false (show ¬ l.length ≤ 5 by omega)]; simp
theorem conj_no3 {l : List Int} {n : Int} (h : l.any (badB n) = true) : conjRes l n = [] := by rw [conjRes, conjOk, h]; simp
theorem conj_yes {l : List Int} {n : Nat} (h1 : 1 ≤ n ∧ n ≤ 5) (h2 : l.length ≤ 5) (h : l.any (badB n) = false) : conjRes l n = conjL l n := by
  rw [conjRes, conjOk, h, decide_eq_true h2, decide_eq_true (show (1 : Int) ≤ n ∧ (n : Int) ≤ 5 by omega)]; simp

set_option maxHeartbeats 400000 in
theorem specConj_n (v : Value) (l : List Int) (n : Int) (w : World) (hin : InRow w v l) (h : ¬ (1 ≤ n ∧ n ≤ 5)) :
    Calls Tryz.prog 76 #[v, .int .i64 n] w (IntsRes [] w) := by
  obtain ⟨a, c, rfl, hm, -⟩ := hin
  unfold maxLen at hm
  have HE := hide (decide_eq_false h)
  clear h
  go_enter Tryz.func76, Tryz.ntmps76
  go_wp2_with (with_reducible refine (l01In_any n 1 5 _).mono ?_; rw [HE.out]; rintro e w' ⟨rfl, rfl⟩)
  go_ret
  exact intsRes_nil (Below.refl _ _)
set_option maxHeartbeats 400000 in
theorem specConj_len (v : Value) (l : List Int) (n : Int) (w : World) (hin : InRow w v l) (h : 1 ≤ n ∧ n ≤ 5) (h2 : 5 < l.length) :
    Calls Tryz.prog 76 #[v, .int .i64 n] w (IntsRes [] w) := by
  obtain ⟨a, c, rfl, hm, -⟩ := hin
  unfold maxLen at hm
  have HE := hide (decide_eq_true h)
  clear h
  go_enter Tryz.func76, Tryz.ntmps76
  go_wp2_with (with_reducible refine (l01In_any n 1 5 _).mono ?_; rw [HE.out]; rintro e w' ⟨rfl, rfl⟩)
  go_ret
  exact intsRes_nil (Below.refl _ _)
set_option maxHeartbeats 2000000 in
theorem specConj_yes (v : Value) (l : List Int) (n : Nat) (w : World) (hin : InRow w v l) (h : 1 ≤ n ∧ n ≤ 5) (h2 : l.length ≤ 5) :
    Calls Tryz.prog 76 #[v, .int .i64 n] w (IntsRes (conjRes l n) w) := by
  obtain ⟨a, c, rfl, hm, hp⟩ := hin
  unfold maxLen at hm
  have HP := hide fun h : l.length ≠ 0 => hp.resolve_left h
  have HE := hide (decide_eq_true (show (1 : Int) ≤ n ∧ (n : Int) ≤ 5 by omega))
  have HN3 := hide (conj_no3 (l := l) (n := n))
  have HY := hide (conj_yes (l := l) h h2)
  obtain ⟨L, hL⟩ : ∃ L, L = l.length := ⟨_, rfl⟩
  have HL := hide hL
  obtain ⟨h11, h12⟩ := h
  rw [← hL] at hm h2 ⊢
  clear hp hL
  go_enter Tryz.func76, Tryz.ntmps76
  go_wp2_with (first | (with_reducible refine (l01In_any n 1 5 _).mono ?_; rw [HE.out]; rintro e w' ⟨rfl, rfl⟩) | (at_make; refine wpList_new w.heap.size n (.int .i64 0) rfl _ _ rfl Tryz.underlying23 Tryz.infoInt rfl (by decide) rfl rfl (by omega) (Nat.le_refl _) ?_; intro w1 hown1 hb1 hg1))
  have HO := hide hown1; have HB := hide hb1
  clear hown1 hb1 hg1
  go_loopw [21] (fun i w' => ∃ k : Nat, k ≤ L ∧ i = .int .i64 k ∧ (∀ t, (h : t < l.length) → t < k → badB n l[t] = false) ∧ w'.ownsRow w.heap.size 3 1 (.slice (some ⟨w.heap.size, 0, none⟩) n n) n (ints (tabL n fun t => ((atLeast (t + 1) (l.take k) : Nat) : Int))) ∧ Below w.heap.size w w') (fun i _ => L - (intOf i).toNat)
  case atStart => exact ⟨0, Nat.zero_le _, rfl, fun t _ h => absurd h (Nat.not_lt_zero _), by rw [tabL_zero] at HO; exact HO.out, HB.out⟩
  case round =>
    clear HO HB
    obtain ⟨k, hk, rfl, hall, hown, hb⟩ := hrel
    have HA := hide hall; have HO := hide hown; have HB := hide hb
    clear hall hown hb
    by_cases hlt : k < L
    · obtain ⟨g, o, rfl, hg, hc⟩ := HP.out (by have := HL.out; omega)
      have hk' : k < l.length := by rw [← HL.out]; exact hlt
      have hx := below_cell HB.out hg (hc k hk')
      have HC := hide hc
      have HNO := hide (fun h => HN3.out (any_yes (p := badB n) k hk' h))
      have HST : Hid (badB n l[k] = false → ∀ t, (h : t < l.length) → t < k + 1 → badB n l[t] = false) := hide fun h t h1 ht => by
        by_cases e : t = k
        · subst e; exact h
        · exact HA.out t h1 (by omega)
      have HAT := hide (fun t : Nat => atLeast_take ((t : Int) + 1) l k hk')
      have HLE := hide (fun t : Int => Nat.le_trans (atLeast_le t (l.take k)) (show (l.take k).length ≤ 5 by rw [List.length_take]; have := HL.out; omega))
      obtain ⟨x, hxx⟩ : ∃ x, x = l[k] := ⟨_, rfl⟩
      rw [← hxx] at hx HNO HST HAT
      clear hxx hc
      have HBI := hide (bad_in n x)
      cases e : badB n x with
      | true =>
        have HE2 : Hid (decide (0 ≤ x ∧ x ≤ (n : Int)) = false) := hide (by rw [HBI.out, e]; rfl)
        have HF := hide (HNO.out e)
        clear e
        go_wp2_with (with_reducible refine (l01In_any x 0 (n : Int) _).mono ?_; rw [HE2.out]; rintro e w' ⟨rfl, rfl⟩)
        go_ret
        rw [HF.out]
        exact intsRes_nil HB.out
      | false =>
        have hx2 : 0 ≤ x ∧ x ≤ (n : Int) := by have := HBI.out; rw [e] at this; simpa using this
        have HE2 : Hid (decide (0 ≤ x ∧ x ≤ (n : Int)) = true) := hide (decide_eq_true hx2)
        have HST := hide (HST.out e)
        obtain ⟨hx0, hx1⟩ := hx2
        clear e
        go_wp2_with (with_reducible refine (l01In_any x 0 (n : Int) _).mono ?_; rw [HE2.out]; rintro e w' ⟨rfl, rfl⟩)
        obtain ⟨G, HG⟩ : ∃ G : Nat → Int, Hid (G = fun t : Nat => ((atLeast ((t : Int) + 1) (l.take k) : Nat) : Int)) := ⟨_, hide rfl⟩
        have HO := HO
        rw [← HG.out] at HO
        go_loopw [8] (fun i w' => ∃ q : Nat, (q : Int) ≤ x ∧ i = .int .i64 q ∧ w'.ownsRow w.heap.size 3 1 (.slice (some ⟨w.heap.size, 0, none⟩) n n) n (ints (tabL n fun t => G t + if t < q then 1 else 0)) ∧ Below w.heap.size w w') (fun i _ => (x - intOf i).toNat)
        case atStart =>
          refine ⟨0, by omega, rfl, ?_, HB.out⟩
          have e : (tabL n fun t => G t + if t < 0 then 1 else 0) = tabL n G := tabL_congr fun i _ => by simp
          rw [e]; exact HO.out
        case round =>
          clear HO HB
          obtain ⟨q, hq, rfl, hown, hb⟩ := hrel
          have HO := hide hown; have HB := hide hb
          clear hown hb
          by_cases hltq : (q : Int) < x
          · have hqn : q < n := by omega
            have hc1 := cell_held HO.out hqn
            rw [tabL_held hqn, if_neg (Nat.lt_irrefl q), Int.add_zero] at hc1
            have hG : 0 ≤ G q ∧ G q ≤ 5 := by rw [HG.out]; have := HLE.out ((q : Int) + 1); dsimp only; omega
            have hf := HO.out.frozenAt q
            have HS := HO.out.stored q (.int .i64 (G q + 1))
            rw [ints_set, tabL_set] at HS
            have e2 : (tabL n fun t => if t = q then G q + 1 else G t + if t < q then 1 else 0) = tabL n fun t => G t + if t < q + 1 then 1 else 0 := tabL_congr fun i _ => by
              by_cases e : i = q
              · subst e; rw [if_pos rfl, if_pos (Nat.lt_succ_self _)]
              · rw [if_neg e]
                by_cases e' : i < q
                · rw [if_pos e', if_pos (by omega)]
                · rw [if_neg e', if_neg (by omega)]
            rw [e2] at HS
            have HS := hide HS
            obtain ⟨hG0, hG1⟩ := hG
            obtain ⟨z, hz⟩ : ∃ z, z = G q := ⟨_, rfl⟩
            rw [← hz] at hc1 hG0 hG1 HS
            clear hz e2
            go_wp2
            go_roundw
            case rel => exact ⟨q + 1, by omega, by go_num, HS.out.1, HB.out.setCell (Nat.le_refl _) _⟩
            case measure => simp [intOf]; omega
          · have e3 : (tabL n fun t => G t + if t < q then 1 else 0) = tabL n fun t => ((atLeast (t + 1) (l.take (k + 1)) : Nat) : Int) := tabL_congr fun i _ => by
              rw [HG.out, HAT.out i]
              by_cases e : (i : Int) + 1 ≤ x
              · rw [if_pos e, if_pos (by omega)]; rfl
              · rw [if_neg e, if_neg (by omega)]; simp
            have HO : Hid _ := hide (e3 ▸ HO.out)
            clear e3
            go_wp2
            go_roundw
            case rel => exact ⟨k + 1, by omega, by go_num, HST.out, HO.out, HB.out⟩
            case measure => simp [intOf]; omega
    · have HY2 := hide (HY.out (any_no (p := badB n) fun t h => HA.out t h (by have := HL.out; omega)))
      have HE3 : Hid (l.take k = l) := hide (List.take_of_length_le (by have := HL.out; omega))
      go_wp2
      go_ret
      rw [HY2.out]
      have := HO.out
      rw [HE3.out] at this
      exact ⟨_, rfl, by rw [conjL, tabL_len]; exact this, HB.out⟩
theorem specConj_any (v : Value) (l : List Int) (n : Int) (w : World) (hin : InRow w v l) :
    Calls Tryz.prog 76 #[v, .int .i64 n] w (IntsRes (conjRes l n) w) := by
  by_cases h : 1 ≤ n ∧ n ≤ 5
  · by_cases h2 : l.length ≤ 5
    · obtain ⟨m, rfl⟩ : ∃ m : Nat, n = m := ⟨n.toNat, by omega⟩
      exact specConj_yes v l m w hin (by omega) h2
    · rw [conj_no2 (by omega)]; exact specConj_len v l n w hin h (by omega)
  · rw [conj_no1 h]; exact specConj_n v l n w hin h

set_option maxHeartbeats 400000 in
theorem countAtLeast_any (v : Value) (r : List Int) (t : Int) (w : World) (hin : InRow w v r) (hn : r.length ≤ 5) :
    Calls Tryz.prog 111 #[v, .int .i64 t] w fun e w' => e = .returned (.int .i64 (atLeast t r : Nat)) ∧ w = w' := by
  obtain ⟨a, c, rfl, hm, hp⟩ := hin
  unfold maxLen at hm
  have HP := hide fun h : r.length ≠ 0 => hp.resolve_left h
  obtain ⟨n, hnn⟩ : ∃ n, n = r.length := ⟨_, rfl⟩
  have HN := hide hnn
  rw [← hnn] at hm hn ⊢
  clear hp hnn
  go_enter Tryz.func111, Tryz.ntmps111
  go_wp2
  go_loop [5, 10] (fun s i => ∃ k : Nat, k ≤ n ∧ i = .int .i64 k ∧ s = .int .i64 (atLeast t (r.take k) : Nat)) (fun _ i => n - (intOf i).toNat)
  case atStart => exact ⟨0, Nat.zero_le _, rfl, rfl⟩
  case round =>
    obtain ⟨k, hk, rfl, rfl⟩ := hrel
    have hle := Nat.le_trans (atLeast_le t (r.take k)) (show (r.take k).length ≤ 5 by rw [List.length_take]; have := HN.out; omega)
    by_cases hlt : k < n
    · obtain ⟨g, o, rfl, hg, hc⟩ := HP.out (by have := HN.out; omega)
      have hk' : k < r.length := by rw [← HN.out]; exact hlt
      have hx := hc k hk'
      have HAT := hide (atLeast_take t r k hk')
      obtain ⟨x, hxx⟩ : ∃ x, x = r[k] := ⟨_, rfl⟩
      obtain ⟨q, hq⟩ : ∃ q, q = atLeast t (r.take k) := ⟨_, rfl⟩
      rw [← hxx] at hx HAT
      rw [← hq] at hle HAT ⊢
      clear hxx hq hc
      by_cases htx : t ≤ x
      · have HAT2 : Hid (atLeast t (r.take (k + 1)) = q + 1) := hide (by rw [HAT.out, if_pos htx])
        clear HAT
        go_wp2
        go_round
        case rel => exact ⟨k + 1, by omega, by go_num, by rw [HAT2.out]; go_num⟩
        case measure => simp [intOf]; omega
      · have HAT2 : Hid (atLeast t (r.take (k + 1)) = q) := hide (by rw [HAT.out, if_neg htx]; rfl)
        clear HAT
        go_wp2
        go_round
        case rel => exact ⟨k + 1, by omega, by go_num, by rw [HAT2.out]⟩
        case measure => simp [intOf]; omega
    · have HE : Hid (r.take k = r) := hide (List.take_of_length_le (by have := HN.out; omega))
      rw [HE.out] at hle ⊢
      go_wp2
      go_ret
      exact ⟨rfl, rfl⟩
set_option maxHeartbeats 400000 in
theorem conjAt_any (v : Value) (r : List Int) (t : Int) (q : Nat) (w : World) (hin : InRow w v r) (hn : r.length ≤ 5) (hc : w.cell? ⟨q, 0, none⟩ = some v) :
    Calls Tryz.prog 110 #[.int .i64 t, .pointer (some ⟨q, 0, none⟩)] w fun e w' => e = .returned (.int .i64 (atLeast t r : Nat)) ∧ w = w' := by
  have HI := hide hin
  obtain ⟨a, c, rfl, -, -⟩ := hin
  go_enter Tryz.func110, Tryz.ntmps110
  go_wp2_with ((with_reducible refine (countAtLeast_any _ r t _ HI.out hn).mono ?_); rintro e w' ⟨rfl, rfl⟩)
  go_ret
  exact ⟨rfl, rfl⟩
set_option maxHeartbeats 1000000 in
theorem collectInt_any (v : Value) (r : List Int) (n q : Nat) (w : World) (hin : InRow w v r) (hr : r.length ≤ 5) (hq : q < w.heap.size) (hc : w.cell? ⟨q, 0, none⟩ = some v) (h : 1 ≤ n ∧ n ≤ 5) :
    Calls Tryz.prog 109 #[.int .i64 n, .func (.func 110) #[] #[.pointer (some ⟨q, 0, none⟩)]] w (IntsRes (conjL r n) w) := by
  have HI := hide hin; have HR := hide hr; have HC := hide hc; have HQ := hide hq
  obtain ⟨h11, h12⟩ := h
  clear hin hr hc hq
  go_enter Tryz.func109, Tryz.ntmps109
  go_wp2_with (at_make; refine wpList_new w.heap.size n (.int .i64 0) rfl _ _ rfl Tryz.underlying23 Tryz.infoInt rfl (by decide) rfl rfl (by omega) (Nat.le_refl _) ?_; intro w1 hown1 hb1 hg1)
  have HO := hide hown1; have HB := hide hb1
  clear hown1 hb1 hg1
  go_wp2
  go_loopw [10] (fun i w' => ∃ k : Nat, k ≤ n ∧ i = .int .i64 k ∧ w'.ownsRow w.heap.size 3 1 (.slice (some ⟨w.heap.size, 0, none⟩) n n) n (ints (tabL n fun t => if t < k then ((atLeast (t + 1) r : Nat) : Int) else 0)) ∧ Below w.heap.size w w') (fun i _ => n - (intOf i).toNat)
  case atStart => exact ⟨0, Nat.zero_le _, rfl, by rw [tabL_zero] at HO; exact HO.out, HB.out⟩
  case round =>
    clear HO HB
    obtain ⟨k, hk, rfl, hown, hb⟩ := hrel
    have HO := hide hown; have HB := hide hb
    clear hown hb
    by_cases hlt : k < n
    · have hc1 := cell_held HO.out hlt
      have hf := HO.out.frozenAt k
      have HS := HO.out.stored k (.int .i64 (atLeast ((k : Int) + 1) r : Nat))
      rw [ints_set, tabL_set] at HS
      have e2 : (tabL n fun t => if t = k then ((atLeast ((k : Int) + 1) r : Nat) : Int) else if t < k then ((atLeast (t + 1) r : Nat) : Int) else 0) = tabL n fun t => if t < k + 1 then ((atLeast (t + 1) r : Nat) : Int) else 0 := tabL_congr fun i _ => by
        by_cases e : i = k
        · subst e; rw [if_pos rfl, if_pos (Nat.lt_succ_self _)]
        · rw [if_neg e]
          by_cases e' : i < k
          · rw [if_pos e', if_pos (by omega)]
          · rw [if_neg e', if_neg (by omega)]
      rw [e2] at HS
      have HS := hide HS
      clear e2
      have hle := Nat.le_trans (atLeast_le ((k : Int) + 1) r) HR.out
      have HCA := hide (conjAt_any v r ((k : Int) + 1) q wr (inRow_below HI.out HB.out) HR.out (below_cell HB.out HQ.out HC.out))
      obtain ⟨z, hz⟩ : ∃ z, z = atLeast ((k : Int) + 1) r := ⟨_, rfl⟩
      rw [← hz] at HS hle HCA
      clear hz
      go_wp2_with (go_at_call 110; refine HCA.out.mono ?_; rintro e w9 ⟨rfl, rfl⟩)
      go_roundw
      case rel => exact ⟨k + 1, by omega, by go_num, HS.out.1, HB.out.setCell (Nat.le_refl _) _⟩
      case measure => simp [intOf]; omega
    · obtain rfl : k = n := by omega
      have e3 : (tabL k fun t => if t < k then ((atLeast (t + 1) r : Nat) : Int) else 0) = conjL r k := tabL_congr fun i hi => by rw [if_pos hi]
      have HO : Hid _ := hide (e3 ▸ HO.out)
      clear e3
      go_wp2
      go_ret
      exact ⟨_, rfl, by rw [conjL, tabL_len]; exact HO.out, HB.out⟩
/-- .. and nil where there are none. -/
def IntsNil (r : List Int) (w : World) (e : Ending) (w' : World) : Prop := IntsRes r w e w' ∧ (r = [] → e = .returned (.slice none 0 0))
set_option maxHeartbeats 1000000 in
theorem implConj_nil (v : Value) (l : List Int) (n : Int) (w : World) (hin : InRow w v l) :
    Calls Tryz.prog 104 #[v, .int .i64 n] w (IntsNil (conjRes l n) w) := by
  have hbox := (Below.refl w.heap.size w).alloc (Nat.le_refl _) (.cells #[v] 23)
  have HI := hide (inRow_below hin hbox); have HBX := hide hbox
  have HCX := hide (show (w.alloc (.cells #[v] 23)).cell? ⟨w.heap.size, 0, none⟩ = some v by simp [World.cell?_alloc_new])
  obtain ⟨a, c, rfl, hm, -⟩ := hin
  unfold maxLen at hm
  clear hbox
  by_cases h : 1 ≤ n ∧ n ≤ 5
  · have HE := hide (decide_eq_true h)
    obtain ⟨h11, h12⟩ := h
    by_cases h2 : l.length ≤ 5
    · obtain ⟨m, rfl⟩ : ∃ m : Nat, n = m := ⟨n.toNat, by omega⟩
      have HL := hide h2
      cases h3 : l.any (badB m) with
      | true =>
        rw [conj_no3 h3]
        have H3 := hide h3
        clear h3
        go_enter Tryz.func104, Tryz.ntmps104
        go_wp2_with (first | (with_reducible refine (sideOk_any (m : Int) _).mono ?_; rw [HE.out]; rintro e w' ⟨rfl, rfl⟩) | ((with_reducible refine (sumsInRange_any _ l (m : Int) _ HI.out).mono ?_); rw [H3.out]; rintro e w1 ⟨rfl, b1⟩; have B1 := hide (HBX.out.trans (b1.mono HBX.out.size)); clear b1))
        go_ret
        exact ⟨intsRes_nil B1.out, fun _ => rfl⟩
      | false =>
        rw [conj_yes ⟨by omega, by omega⟩ h2 h3]
        have H3 := hide h3
        clear h3
        go_enter Tryz.func104, Tryz.ntmps104
        go_wp2_with (first | (with_reducible refine (sideOk_any (m : Int) _).mono ?_; rw [HE.out]; rintro e w' ⟨rfl, rfl⟩) | ((with_reducible refine (sumsInRange_any _ l (m : Int) _ HI.out).mono ?_); rw [H3.out]; rintro e w1 ⟨rfl, b1⟩; have B1 := hide (HBX.out.trans (b1.mono HBX.out.size)); have I1 := hide (inRow_below HI.out b1); have C1 := hide (below_cell b1 (by simp) HCX.out); have hs1 := b1.size; rw [World.size_alloc] at hs1; clear b1) | ((with_reducible refine (collectInt_any _ l m w.heap.size _ I1.out HL.out (by omega) C1.out ⟨by omega, by omega⟩).mono ?_); rintro e w2 ⟨u, rfl, ho, hb⟩; have HO := hide (own_base ho B1.out.size); have HB2 := hide (B1.out.trans (hb.mono B1.out.size)); clear ho hb))
        go_ret
        exact ⟨⟨_, rfl, HO.out, HB2.out⟩, fun h => absurd (congrArg List.length h) (by rw [conjL, tabL_len]; simp; omega)⟩
    · rw [conj_no2 (by omega)]
      go_enter Tryz.func104, Tryz.ntmps104
      go_wp2_with (first | (with_reducible refine (sideOk_any n _).mono ?_; rw [HE.out]; rintro e w' ⟨rfl, rfl⟩))
      go_ret
      exact ⟨intsRes_nil HBX.out, fun _ => rfl⟩
  · rw [conj_no1 h]
    have HE := hide (decide_eq_false h)
    clear h
    go_enter Tryz.func104, Tryz.ntmps104
    go_wp2_with (first | (with_reducible refine (sideOk_any n _).mono ?_; rw [HE.out]; rintro e w' ⟨rfl, rfl⟩))
    go_ret
    exact ⟨intsRes_nil HBX.out, fun _ => rfl⟩
theorem implConj_any (v : Value) (l : List Int) (n : Int) (w : World) (hin : InRow w v l) :
    Calls Tryz.prog 104 #[v, .int .i64 n] w (IntsRes (conjRes l n) w) := (implConj_nil v l n w hin).mono fun _ _ h => h.1
end Go.Proofs.YtjnnoabaepmcnaaGreat
/-
  The sums of the lesser ones are the sums of the conjugate.
-/
namespace Go.Proofs.YtjnnoabaepmcnaaGreat
open Go.RowKit

theorem most_step (r : List Int) (k : Nat) : (r.map fun x => min x ((k : Int) + 1)).sum = (r.map fun x => min x (k : Int)).sum + (atLeast ((k : Int) + 1) r : Nat) := by
  induction r with
  | nil => rfl
  | cons x r ih =>
    rw [List.map_cons, List.map_cons, List.sum_cons, List.sum_cons, ih, atLeast, atLeast, List.countP_cons]
    by_cases h : (k : Int) + 1 ≤ x
    · rw [if_pos (decide_eq_true h)]; omega
    · rw [if_neg (by simpa using h)]; omega
theorem most_sum {r : List Int} {n : Nat} (hr : ∀ x ∈ r, 0 ≤ x) : ∀ k, k ≤ n → (r.map fun x => min x (k : Int)).sum = ((conjL r n).take k).sum := by
  intro k
  induction k with
  | zero =>
    intro _
    have h : (r.map fun x => min x ((0 : Nat) : Int)) = r.map fun _ => 0 := List.map_congr_left fun x hx => by have := hr x hx; omega
    rw [h]
    clear h hr
    induction r with
    | nil => rfl
    | cons x r ih => rw [List.map_cons, List.sum_cons, ih]; simp
  | succ k ih =>
    intro hk
    have hl : (conjL r n).length = n := by rw [conjL, tabL_len]
    have ha : (conjL r n)[k]'(by omega) = ((atLeast (k + 1) r : Nat) : Int) := tabL_at _
    rw [sum_snoc _ k (by omega), ← ih (by omega), ha]
    exact most_step r k
end Go.Proofs.YtjnnoabaepmcnaaGreat
/-
  Lists of integers in descending order, and SortedDown of the model.
-/
namespace Go.Proofs.YtjnnoabaepmcnaaGreat
open Go.RowKit

def Desc (l : List Int) : Prop := l.Pairwise fun x y => y ≤ x
theorem desc_unique : ∀ {a b : List Int}, a.Perm b → Desc a → Desc b → a = b := by
  intro a
  induction a with
  | nil => intro b hp _ _; exact hp.nil_eq
  | cons x a ih =>
    intro b hp ha hb
    cases b with
    | nil => exact absurd hp.symm.nil_eq (by simp)
    | cons y b =>
      have hxy : x = y := by
        have h1 : x ∈ y :: b := hp.subset (List.mem_cons_self ..)
        have h2 : y ∈ x :: a := hp.symm.subset (List.mem_cons_self ..)
        rw [List.mem_cons] at h1 h2
        rcases h1 with h1 | h1
        · exact h1
        · rcases h2 with h2 | h2
          · exact h2.symm
          · have h3 := (List.pairwise_cons.1 hb).1 x h1
            have h4 := (List.pairwise_cons.1 ha).1 y h2
            omega
      subst hxy
      rw [ih hp.cons_inv (List.pairwise_cons.1 ha).2 (List.pairwise_cons.1 hb).2]
/-- What SortedDown returns. -/
def sortD (l : List Int) : List Int := l.mergeSort fun x y => decide (y ≤ x)
theorem sortD_perm (l : List Int) : (sortD l).Perm l := List.mergeSort_perm l _
theorem sortD_desc (l : List Int) : Desc (sortD l) := by
  have h := List.pairwise_mergeSort (le := fun x y : Int => decide (y ≤ x)) (by simp; omega) (by simp; omega) l
  exact h.imp fun h => by simpa using h
theorem sortD_of {l s : List Int} (hp : s.Perm l) (hs : Desc s) : s = sortD l := desc_unique (hp.trans (sortD_perm l).symm) hs (sortD_desc l)
theorem sortD_len (l : List Int) : (sortD l).length = l.length := (sortD_perm l).length_eq

/-- x among s, at q. -/
def bub (s : List Int) (x : Int) (q : Nat) : List Int := s.take q ++ x :: s.drop q
theorem bub_len {s : List Int} {x : Int} {q : Nat} (h : q ≤ s.length) : (bub s x q).length = s.length + 1 := by simp [bub]; omega
theorem bub_end (s : List Int) (x : Int) : bub s x s.length = s ++ [x] := by simp [bub]
theorem bub_self {s : List Int} {x : Int} {q : Nat} (h : q ≤ s.length) : (ints (bub s x q)).getD q undef = .int .i64 x := by
  rw [List.getD_eq_getElem?_getD, ints_at _ _ (by rw [bub_len h]; omega)]
  simp only [bub, Option.getD_some, Value.int.injEq, true_and]
  rw [List.getElem_append_right (by simp; omega)]
  simp [Nat.min_eq_left h]
theorem bub_eq {s : List Int} {x : Int} {p : Nat} (h : p < s.length) : bub s x (p + 1) = s.take p ++ s[p] :: x :: s.drop (p + 1) := by
  rw [bub, List.take_succ_eq_append_getElem h, List.append_assoc]; rfl
theorem bub_prev {s : List Int} {x : Int} {p : Nat} (h : p < s.length) : (ints (bub s x (p + 1))).getD p undef = .int .i64 s[p] := by
  rw [List.getD_eq_getElem?_getD, ints_at _ _ (by rw [bub_len (by omega)]; omega)]
  simp only [bub_eq h, Option.getD_some, Value.int.injEq, true_and]
  rw [List.getElem_append_right (by simp; omega)]
  simp [Nat.min_eq_left (Nat.le_of_lt h)]
theorem bub_step {s : List Int} {x : Int} {p : Nat} (h : p < s.length) : ((bub s x (p + 1)).set (p + 1) s[p]).set p x = bub s x p := by
  have hl : (s.take p).length = p := by rw [List.length_take]; omega
  rw [bub_eq h, List.set_append_right _ _ (by omega), hl, show p + 1 - p = 0 + 1 by omega, List.set_cons_succ, List.set_cons_zero, List.set_append_right _ _ (by omega), hl, Nat.sub_self, List.set_cons_zero, bub, List.drop_eq_getElem_cons h]
theorem bub_perm (s : List Int) (x : Int) (q : Nat) : (bub s x q).Perm (x :: s) := by
  have h : (bub s x q).Perm (x :: (s.take q ++ s.drop q)) := List.perm_middle
  rwa [List.take_append_drop] at h
theorem bub_desc {s : List Int} {x : Int} {q : Nat} (hq : q ≤ s.length) (hs : Desc s) (h1 : ∀ y ∈ s.drop q, y < x) (h2 : ∀ p, (h : p < s.length) → p + 1 = q → x ≤ s[p]) : Desc (bub s x q) := by
  have hs' := hs
  unfold Desc at hs
  rw [← List.take_append_drop q s, List.pairwise_append] at hs
  obtain ⟨a1, a2, a3⟩ := hs
  have hx : ∀ a ∈ s.take q, x ≤ a := fun a ha => by
    obtain ⟨i, hi, rfl⟩ := List.getElem_of_mem ha
    rw [List.length_take] at hi
    rw [List.getElem_take]
    have h3 := h2 (q - 1) (by omega) (by omega)
    by_cases e : i = q - 1
    · subst e; exact h3
    · have := List.pairwise_iff_getElem.1 hs' i (q - 1) (by omega) (by omega) (by omega)
      omega
  refine List.pairwise_append.2 ⟨a1, List.pairwise_cons.2 ⟨fun y hy => by have := h1 y hy; omega, a2⟩, fun a ha b hb => ?_⟩
  rcases List.mem_cons.1 hb with rfl | hb
  · exact hx a ha
  · exact a3 a ha b hb

set_option maxHeartbeats 2000000 in
theorem specSortedDown_any (v : Value) (l : List Int) (w : World) (hin : InRow w v l) (hl : l.length ≤ 1048576) :
    Calls Tryz.prog 77 #[v] w (IntsRes (sortD l) w) := by
  obtain ⟨a, c, rfl, hm, hp⟩ := hin
  unfold maxLen at hm
  have HP := hide fun h : l.length ≠ 0 => hp.resolve_left h
  obtain ⟨L, hL⟩ : ∃ L, L = l.length := ⟨_, rfl⟩
  have HL := hide hL
  rw [← hL] at hm hl ⊢
  clear hp hL
  have HO0 : Hid ((w.alloc (.cells #[] 3)).ownsRow w.heap.size 3 1 (.slice (some ⟨w.heap.size, 0, none⟩) 0 0) 0 []) := hide (World.ownsRow_made (base := w.heap.size) w #[] 0 (Nat.le_refl _) (Nat.zero_le _) rfl)
  have HB0 := hide ((Below.refl w.heap.size w).alloc (Nat.le_refl _) (.cells #[] 3))
  go_enter Tryz.func77, Tryz.ntmps77
  go_wp2
  go_loopw [3, 11] (fun o i wr => ∃ k : Nat, k ≤ L ∧ i = .int .i64 k ∧ (∃ s : List Int, s.length = k ∧ s.Perm (l.take k) ∧ Desc s ∧ wr.ownsRow w.heap.size 3 1 o k (ints s)) ∧ Below w.heap.size w wr) (fun _ i _ => L - (intOf i).toNat)
  case atStart => exact ⟨0, Nat.zero_le _, rfl, ⟨[], rfl, by simp, List.Pairwise.nil, HO0.out⟩, HB0.out⟩
  case round =>
    clear HO0 HB0
    obtain ⟨k, hk, rfl, ⟨s, hsl, hsp, hsd, hown⟩, hb⟩ := hrel
    have HO := hide hown; have HB := hide hb; have HSL := hide hsl; have HSP := hide hsp; have HSD := hide hsd
    obtain ⟨sa, sc, rfl⟩ := own_slice hown
    have hsz := hb.size
    clear hown hb hsl hsp hsd
    by_cases hlt : k < L
    · obtain ⟨g, o, rfl, hg, hc⟩ := HP.out (by have := HL.out; omega)
      have hk' : k < l.length := by rw [← HL.out]; exact hlt
      have hx := below_cell HB.out hg (hc k hk')
      have HXX := hide (show l.take (k + 1) = l.take k ++ [l[k]] from List.take_succ_eq_append_getElem hk')
      obtain ⟨x, hxx⟩ : ∃ x, x = l[k] := ⟨_, rfl⟩
      rw [← hxx] at hx HXX
      clear hxx hc
      go_wp2_with (at_builtin; refine wpList_push HO.out (.int .i64 x) (.int .i64 0) rfl _ _ rfl Tryz.underlying23 Tryz.infoInt rfl (by decide) rfl rfl rfl (by omega) (by omega) ?_; intro v' w6 hown1 hb1 hg1; obtain ⟨g1, cap1, rfl, hbg1, hg1', hc1', hm1, -, -⟩ := own_some hown1 (by omega); unfold maxLen at hm1; have HO1 := hide hown1; have HB1 := hide (HB.out.trans hb1); clear hown1 hb1 hg1)
      have HE0 : Hid (ints s ++ [Value.int .i64 x] = ints (bub s x k)) := hide (by rw [← HSL.out, bub_end]; simp [ints])
      rw [HE0.out] at HO1
      clear HE0 HO hx
      go_loopw [6] (fun i w2 => ∃ q : Nat, q ≤ k ∧ i = .int .i64 q ∧ w2.ownsRow w.heap.size 3 1 (.slice (some ⟨g1, 0, none⟩) (k + 1) cap1) (k + 1) (ints (bub s x q)) ∧ (∀ y ∈ s.drop q, y < x) ∧ Below w.heap.size w w2) (fun i _ => (intOf i).toNat)
      case atStart => exact ⟨k, Nat.le_refl _, by go_num, HO1.out, by rw [List.drop_of_length_le (by have := HSL.out; omega)]; simp, HB1.out⟩
      case round =>
        clear HO1 HB1
        obtain ⟨q, hq, rfl, hown, hall, hb⟩ := hrel
        have HO := hide hown; have HA := hide hall; have HB1 := hide hb
        clear hown hall hb
        have HFIN : Hid ((∀ p, (h : p < s.length) → p + 1 = q → x ≤ s[p]) → (bub s x q).Perm (l.take (k + 1)) ∧ Desc (bub s x q)) := hide fun h => by
          refine ⟨(bub_perm s x q).trans ?_, bub_desc (by have := HSL.out; omega) HSD.out HA.out h⟩
          rw [HXX.out]
          exact ((List.Perm.cons x HSP.out).trans (List.perm_append_singleton x _).symm)
        by_cases h0 : q = 0
        · subst h0
          have HF := hide (HFIN.out fun p _ e => by omega)
          clear HFIN
          go_wp2
          go_quiet (fail)
          go_wp2
          have HE1 : Hid ((bub s x 0).length = k + 1) := hide (by rw [bub_len (Nat.zero_le _), HSL.out])
          go_roundw
          case rel => exact ⟨k + 1, by omega, by go_num, ⟨bub s x 0, HE1.out, HF.out.1, HF.out.2, HO.out⟩, below_draws HB1.out _⟩
          case measure => simp [intOf]; omega
        · obtain ⟨p, rfl⟩ : ∃ p, q = p + 1 := ⟨q - 1, by omega⟩
          have hps : p < s.length := by have := HSL.out; omega
          have hc1 := cell_held HO.out (show p < k + 1 by omega)
          have hc2 := cell_held HO.out (show p + 1 < k + 1 by omega)
          rw [bub_prev hps] at hc1
          rw [bub_self (by have := HSL.out; omega)] at hc2
          by_cases hlq : s[p] < x
          · have hf1 := HO.out.frozenAt p
            have hf2 := HO.out.frozenAt (p + 1)
            have HS := hide fun n : Nat => by
              have HS2 := ((own_draws HO.out n).stored (p + 1) (.int .i64 s[p])).1.stored p (.int .i64 x)
              rw [ints_set, ints_set, bub_step hps] at HS2
              exact HS2.1
            have HALL : Hid (∀ y ∈ s.drop p, y < x) := hide fun y hy => by
              rw [List.drop_eq_getElem_cons hps] at hy
              rcases List.mem_cons.1 hy with rfl | hy
              · exact hlq
              · exact HA.out y hy
            have HBS := hide fun n : Nat => (((below_draws HB1.out n).setCell (p := ⟨g1, p + 1, none⟩) hbg1 (.int .i64 s[p])).setCell (p := ⟨g1, p, none⟩) hbg1 (.int .i64 x))
            obtain ⟨z, hz⟩ : ∃ z, z = s[p] := ⟨_, rfl⟩
            rw [← hz] at hc1 hlq HS HBS
            clear hz HFIN
            go_wp2
            go_quiet (fail)
            go_wp2
            go_roundw
            case rel => exact ⟨p, by omega, by go_num, HS.out _, HALL.out, HBS.out _⟩
            case measure => simp [intOf]
          · have HF := hide (HFIN.out fun p' h e => by obtain rfl : p' = p := by omega
                                                       omega)
            have HE1 : Hid ((bub s x (p + 1)).length = k + 1) := hide (by rw [bub_len (by omega), HSL.out])
            obtain ⟨z, hz⟩ : ∃ z, z = s[p] := ⟨_, rfl⟩
            rw [← hz] at hc1 hlq
            clear hz HFIN
            go_wp2
            go_quiet (fail)
            go_wp2
            go_roundw
            case rel => exact ⟨k + 1, by omega, by go_num, ⟨bub s x (p + 1), HE1.out, HF.out.1, HF.out.2, HO.out⟩, below_draws HB1.out _⟩
            case measure => simp [intOf]; omega
    · have HE : Hid (l.take k = l) := hide (List.take_of_length_le (by have := HL.out; omega))
      have HR : Hid (s = sortD l) := hide (sortD_of (by have := HSP.out; rwa [HE.out] at this) HSD.out)
      obtain rfl : k = L := by omega
      go_wp2
      go_ret
      exact ⟨_, rfl, by rw [← HR.out, HSL.out]; exact HO.out, HB.out⟩
end Go.Proofs.YtjnnoabaepmcnaaGreat
/-
  The columns by their sums: the greatest first, of equal ones those further to the left.
-/
namespace Go.Proofs.YtjnnoabaepmcnaaGreat
open Go.RowKit

/-- A column's place in the order, as a number: the greater the earlier. -/
def keyF (c : List Int) (i : Nat) : Int := c.getD i 0 * 8 + (7 - (i : Int))
theorem keyF_inj {c : List Int} {i j : Nat} (hi : i < 8) (hj : j < 8) (h : keyF c i = keyF c j) : i = j := by unfold keyF at h; omega
/-- The order of the columns. -/
def sortK (c : List Int) : List Nat := (List.range c.length).mergeSort fun i j => decide (keyF c j ≤ keyF c i)
theorem sortK_perm (c : List Int) : (sortK c).Perm (List.range c.length) := List.mergeSort_perm _ _
theorem sortK_len (c : List Int) : (sortK c).length = c.length := by rw [(sortK_perm c).length_eq, List.length_range]
theorem sortK_desc (c : List Int) : (sortK c).Pairwise fun i j => keyF c j ≤ keyF c i := by
  have h := List.pairwise_mergeSort (le := fun i j : Nat => decide (keyF c j ≤ keyF c i)) (by simp; omega) (by simp; omega) (List.range c.length)
  exact h.imp fun h => by simpa using h
theorem sortK_mem {c : List Int} {i : Nat} : i ∈ sortK c ↔ i < c.length := by rw [(sortK_perm c).mem_iff, List.mem_range]
theorem sortK_nodup (c : List Int) : (sortK c).Nodup := (sortK_perm c).nodup_iff.2 List.nodup_range
theorem map_inj_of {k : Nat → Int} {p : Nat → Prop} (hk : ∀ i j, p i → p j → k i = k j → i = j) : ∀ {s t : List Nat}, (∀ i ∈ s, p i) → (∀ i ∈ t, p i) → s.map k = t.map k → s = t
  | [], [], _, _, _ => rfl
  | [], y :: t, _, _, h => by simp at h
  | x :: s, [], _, _, h => by simp at h
  | x :: s, y :: t, hs, ht, h => by
    simp only [List.map_cons, List.cons.injEq] at h
    rw [hk x y (hs x List.mem_cons_self) (ht y List.mem_cons_self) h.1, map_inj_of hk (fun i hi => hs i (List.mem_cons_of_mem _ hi)) (fun i hi => ht i (List.mem_cons_of_mem _ hi)) h.2]
theorem sortK_of {c : List Int} {s : List Nat} (hc : c.length ≤ 8) (hp : s.Perm (List.range c.length)) (hd : s.Pairwise fun i j => keyF c j ≤ keyF c i) : s = sortK c := by
  refine map_inj_of (k := keyF c) (p := fun i => i < c.length) (fun i j hi hj h => keyF_inj (by omega) (by omega) h) (fun i hi => by rw [hp.mem_iff, List.mem_range] at hi; exact hi) (fun i hi => sortK_mem.1 hi) ?_
  exact desc_unique ((hp.trans (sortK_perm c).symm).map _) (List.pairwise_map.2 hd) (List.pairwise_map.2 (sortK_desc c))
/-- The row whose n black cells stand in the first columns of the order. -/
def topF (c : List Int) (n x : Nat) : Int := if x ∈ (sortK c).take n then 1 else 0
def topRow (c : List Int) (n : Nat) : List Int := tabL c.length (topF c n)
theorem topRow_len (c : List Int) (n : Nat) : (topRow c n).length = c.length := tabL_len _ _
theorem topF_zero (c : List Int) (x : Nat) : topF c 0 x = 0 := by rw [topF, if_neg (by simp)]
theorem topF_succ {c : List Int} {n : Nat} (h : n < (sortK c).length) (x : Nat) : topF c (n + 1) x = if x = (sortK c)[n] then 1 else topF c n x := by
  unfold topF
  rw [List.take_succ_eq_append_getElem h]
  by_cases e : x = (sortK c)[n]
  · rw [if_pos e, if_pos (by rw [List.mem_append]; right; simp [e])]
  · rw [if_neg e]
    by_cases e2 : x ∈ (sortK c).take n
    · rw [if_pos e2, if_pos (List.mem_append_left _ e2)]
    · rw [if_neg e2, if_neg (by rw [List.mem_append]; rintro (h | h); exact e2 h; exact e (by simpa using h))]
theorem topF_next {c : List Int} {n : Nat} (h : n < (sortK c).length) : topF c n (sortK c)[n] = 0 := by
  rw [topF, if_neg]
  intro hm
  obtain ⟨i, hi, he⟩ := List.getElem_of_mem hm
  rw [List.length_take] at hi
  rw [List.getElem_take] at he
  have := (List.nodup_iff_pairwise_ne.1 (sortK_nodup c))
  have := List.pairwise_iff_getElem.1 this i n (by omega) h (by omega)
  exact this he
/-- The next column is the first one of those that are white yet. -/
theorem next_of {c : List Int} {n b : Nat} (hc : c.length ≤ 8) (h : n < (sortK c).length) (hb : b < c.length) (hw : topF c n b = 0) (hall : ∀ t, t < c.length → topF c n t = 0 → keyF c t ≤ keyF c b) : b = (sortK c)[n] := by
  have hn : (sortK c)[n] < c.length := sortK_mem.1 (List.getElem_mem h)
  have h1 := hall _ hn (topF_next h)
  obtain ⟨i, hi, he⟩ := List.getElem_of_mem (sortK_mem.2 hb)
  have hni : n ≤ i := by
    rcases Nat.lt_or_ge i n with h2 | h2
    · exfalso
      rw [topF, if_pos] at hw
      · cases hw
      · rw [← he]
        refine List.mem_of_getElem (i := i) (h := by rw [List.length_take]; omega) ?_
        rw [List.getElem_take]
    · exact h2
  by_cases e : n = i
  · subst e; exact he.symm
  · have h2 := List.pairwise_iff_getElem.1 (sortK_desc c) n i h hi (by omega)
    rw [he] at h2
    exact keyF_inj (c := c) (by omega) (by omega) (by omega)

open Go.Sort in
theorem insInner_congr {α : Type} [Inhabited α] (lt lt' : α → α → Bool) (a : Nat) : ∀ (j : Nat) (d : Array α), j < d.size → (∀ k, k < j → lt d[j]! d[k]! = lt' d[j]! d[k]!) → insInner lt a j d = insInner lt' a j d
  | 0, _, _, _ => rfl
  | j + 1, d, hj, h => by
    unfold insInner
    rw [h j (Nat.lt_succ_self _)]
    have ih := insInner_congr lt lt' a j (swp d (j + 1) j) (by rw [swp_size]; omega) (fun k hk => by
      rw [swp_get d hj (by omega), swp_get d hj (by omega), if_pos rfl, if_neg (by omega), if_neg (by omega)]
      exact h k (by omega))
    rw [ih]
open Go.Sort in
theorem insInner_keeps {α : Type} [Inhabited α] (lt : α → α → Bool) (a : Nat) (p : α → Prop) (i : Nat) : ∀ (j : Nat) (d : Array α), j ≤ i → i < d.size → (∀ k, k ≤ i → p d[k]!) →
    (insInner lt a j d).size = d.size ∧ (∀ k, k ≤ i → p (insInner lt a j d)[k]!) ∧ ∀ k, i < k → (insInner lt a j d)[k]! = d[k]!
  | 0, d, _, _, h => ⟨rfl, h, fun _ _ => rfl⟩
  | j + 1, d, hj, hi, h => by
    unfold insInner
    split
    · obtain ⟨h1, h2, h3⟩ := insInner_keeps lt a p i j (swp d (j + 1) j) (by omega) (by rw [swp_size]; exact hi) (fun k hk => by
        rw [swp_get d (by omega) (by omega)]
        split
        · exact h _ (by omega)
        · split
          · exact h _ (by omega)
          · exact h _ hk)
      refine ⟨by rw [h1, swp_size], h2, fun k hk => ?_⟩
      rw [h3 k hk, swp_get d (by omega) (by omega), if_neg (by omega), if_neg (by omega)]
    · exact ⟨rfl, h, fun _ _ => rfl⟩
/-- Two orders that agree wherever the left one came in later sort alike. -/
theorem insOuter_congr {C : Nat} [Inhabited (Fin C)] (lt lt' : Fin C → Fin C → Bool) (h : ∀ x y : Fin C, y.val < x.val → lt x y = lt' x y) : ∀ (m i : Nat) (d : Array (Fin C)), C - i = m → i ≤ C → d.size = C → (∀ k, k < i → (d[k]!).val < i) → (∀ k, i ≤ k → k < C → (d[k]!).val = k) →
    Go.Sort.insOuter lt 0 C i d = Go.Sort.insOuter lt' 0 C i d
  | 0, i, d, hm, hi, hs, _, _ => by
    rw [Go.Sort.insOuter, if_neg (by omega), Go.Sort.insOuter, if_neg (by omega)]
  | m + 1, i, d, hm, hi, hs, hlo, hhi => by
    have hlt : i < C := by omega
    rw [Go.Sort.insOuter, if_pos hlt]
    conv => rhs; rw [Go.Sort.insOuter, if_pos hlt]
    have e : Go.Sort.insInner lt 0 i d = Go.Sort.insInner lt' 0 i d := insInner_congr lt lt' 0 i d (by omega) fun k hk => h _ _ (by rw [hhi i (Nat.le_refl _) hlt]; exact hlo k hk)
    rw [e]
    obtain ⟨h1, h2, h3⟩ := insInner_keeps lt' 0 (fun x => x.val < i + 1) i i d (Nat.le_refl _) (by omega) (fun k hk => by
      by_cases e : k = i
      · subst e; rw [hhi k (Nat.le_refl _) hlt]; omega
      · have := hlo k (by omega); omega)
    exact insOuter_congr lt lt' h m (i + 1) _ (by omega) (by omega) (by rw [h1]; exact hs) (fun k hk => h2 k (by omega)) (fun k hk1 hk2 => by rw [h3 k (by omega)]; exact hhi k (by omega) hk2)

theorem extract_all {α : Type} (r : Array α) (n : Nat) (h : r.size = n) : r.extract 0 n = r := by subst h; simp
def finsL (C : Nat) : Array (Fin C) := Array.ofFn fun i => i
/-- What the library's stable sort of the columns leaves. -/
theorem insertion_top {c : List Int} [Inhabited (Fin c.length)] (hc : c.length ≤ 8) (lt : Fin c.length → Fin c.length → Bool) (hlt : ∀ x y, lt x y = decide (c.getD y.val 0 < c.getD x.val 0)) :
    (Go.Sort.insertionSort lt (finsL c.length) 0 c.length).toList.map (·.val) = sortK c := by
  have hsz : (finsL c.length).size = c.length := by simp [finsL]
  have hget : ∀ k, k < c.length → ((finsL c.length)[k]!).val = k := fun k hk => by
    rw [getElem!_pos (finsL c.length) k (by rw [hsz]; exact hk)]; simp [finsL]
  let lt' : Fin c.length → Fin c.length → Bool := fun x y => decide (keyF c y.val < keyF c x.val)
  have hcong : Go.Sort.insertionSort lt (finsL c.length) 0 c.length = Go.Sort.insertionSort lt' (finsL c.length) 0 c.length := by
    unfold Go.Sort.insertionSort
    by_cases h0 : c.length = 0
    · rw [Go.Sort.insOuter, if_neg (by omega), Go.Sort.insOuter, if_neg (by omega)]
    · refine insOuter_congr lt lt' (fun x y hxy => ?_) _ 1 _ rfl (by omega) hsz (fun k hk => by rw [hget k (by omega)]; exact hk) (fun k _ hk => hget k hk)
      have hx := x.isLt; have hy := y.isLt
      rw [hlt x y]
      show decide _ = decide (keyF c y.val < keyF c x.val)
      unfold keyF
      by_cases h : c.getD y.val 0 < c.getD x.val 0
      · rw [decide_eq_true h, decide_eq_true (by omega)]
      · rw [decide_eq_false h, decide_eq_false (by omega)]
  rw [hcong]
  have hswo : Go.Sort.SWO lt' := ⟨fun x => by simp [lt'], fun x y z h1 h2 => by simp [lt'] at *; omega, fun x y z h1 h2 => by simp [lt'] at *; omega⟩
  obtain ⟨⟨p1, -, p3⟩, s⟩ := Go.Sort.insertionSort_holds hswo (finsL c.length) 0 c.length (Nat.zero_le _) (by rw [hsz]; exact Nat.le_refl _)
  generalize Go.Sort.insertionSort lt' (finsL c.length) 0 c.length = r at p1 p3 s
  have hr : r.size = c.length := by rw [p1, hsz]
  rw [extract_all r _ hr, extract_all (finsL c.length) _ hsz] at p3
  refine sortK_of hc ?_ ?_
  · have := p3.map (·.val)
    refine this.trans (List.Perm.of_eq ?_)
    apply List.ext_getElem
    · simp [finsL]
    · intro i h1 h2; simp [finsL]
  · refine List.pairwise_map.2 (List.pairwise_iff_getElem.2 fun i j hi hj hij => ?_)
    have hi' : i < r.size := by simpa using hi
    have hj' : j < r.size := by simpa using hj
    have := s i j (Nat.zero_le _) hij (by omega)
    rw [getElem!_pos r i hi', getElem!_pos r j hj'] at this
    simp only [lt', decide_eq_false_iff_not] at this
    simp only [Array.getElem_toList]
    omega
end Go.Proofs.YtjnnoabaepmcnaaGreat
/-
  A slice of integers appended to a slice that the call owns.
-/
namespace Go.Proofs.YtjnnoabaepmcnaaGreat
open Go.RowKit

/-- 'append(v, r...)' at a slice of the call's own, r a slice of integers. -/
theorem wpList_appendRow {P : Program} {ops : Array Oper} {rest : List Oper} {o : Oper} {a : Act} {Q : Exit → Act → World → Prop} {W : World} {base n bytes : Nat} {E T : TypeId} {v : Value} {xs : List Value} (d : Tmp) (_hd : o.dst = some d)
    (hown : W.ownsRow base E 1 v n xs) (r : List Int) (g b c : Nat) (z : Value) (hgd : o.guard = none) (s x : Operand)
    (ho : o.op = .call { callee := .builtin .append, args := #[s, x], argTypes := #[T, T] })
    (ht : P.underlying T = some (.slice E)) (hinfo : (P.info? E).map (fun i => (i.zero, i.size, i.bytes)) = some (some z, 1, bytes)) (hz : z.cells.size = 1) (hby : bytes ≤ 32)
    (hs : a.eval s = v) (hx : a.eval x = .slice (some ⟨g, b, none⟩) r.length c) (hr : ∀ j, (h : j < r.length) → W.cell? ⟨g, b + j, none⟩ = some (.int .i64 r[j])) (hn : n + r.length < 4000000) (hbase : base ≤ W.heap.size)
    (h : ∀ v' w', w'.ownsRow base E 1 v' (n + r.length) (xs ++ ints r) → Below base W w' → W.grownBy w' v.ownBlock → wpList P ops Q rest (a.put o.dst v') w') :
    wpList P ops Q (o :: rest) a W := by
  obtain ⟨i0, hi, hz0, hz1, hz2⟩ := info_parts hinfo
  refine wpList_append_own _ hgd s x T ho base E i0 z 1 bytes ht hi hz0 hz1 hz2 hz (by decide) v n xs hs hown ⟨g, b, none⟩ r.length c (ints r) hx (by simp [ints]) (fun j u hu => ?_) (fun u hu => ?_)
    (by unfold maxLen; omega) (by have : (n + r.length) * bytes ≤ 4000000 * 32 := Nat.mul_le_mul (by omega) hby; omega) hbase ?_
  · have hj : j < r.length := by have := (List.getElem?_eq_some_iff.1 hu).1; simpa [ints] using this
    rw [ints_at r j hj, Option.some.injEq] at hu
    subst hu
    rw [addr_add]; exact hr j hj
  · simp only [ints, List.mem_map] at hu
    obtain ⟨q, -, rfl⟩ := hu; rfl
  · intro v' w' hown' hg _
    exact h v' w' hown' ((Below.refl _ _).grown hg hbase (fun k hk => (hown.lt k hk).1)) hg
end Go.Proofs.YtjnnoabaepmcnaaGreat
/-
  l05Fill of the model.
-/
namespace Go.Proofs.YtjnnoabaepmcnaaGreat
open Go.RowKit

theorem tabL_self (c : List Int) : tabL c.length (fun x => c.getD x 0) = c := by
  apply List.ext_getElem
  · rw [tabL_len]
  · intro i h1 h2
    rw [tabL_at, List.getD_eq_getElem?_getD, List.getElem?_eq_getElem h2]; rfl
/-- What a row leaves of the column sums. -/
def subL (c row : List Int) : List Int := tabL c.length fun x => c.getD x 0 - row.getD x 0
theorem subL_len (c row : List Int) : (subL c row).length = c.length := tabL_len _ _
theorem tabL_getD {n : Nat} {g : Nat → Int} {x : Nat} (h : x < n) : (tabL n g).getD x 0 = g x := by
  rw [List.getD_eq_getElem?_getD, List.getElem?_eq_getElem (by rw [tabL_len]; exact h), tabL_at]; rfl
theorem subL_top (c : List Int) (n : Nat) : subL c (topRow c n) = tabL c.length fun x => c.getD x 0 - topF c n x :=
  tabL_congr fun i hi => by rw [topRow, tabL_getD hi]
theorem top01 (c : List Int) (n x : Nat) : topF c n x = 0 ∨ topF c n x = 1 := by
  unfold topF
  split
  · exact .inr rfl
  · exact .inl rfl
/-- Numbers that are small enough to be reckoned with. -/
def Mid100 (m : Int) (c : List Int) : Prop := c.length ≤ 5 ∧ ∀ x, x < c.length → -m ≤ c.getD x 0 ∧ c.getD x 0 ≤ 100
/-- The image whose rows are chosen one after the other. -/
def imgL (ch : List Int → List Int → List Int) : List Int → List Int → List (List Int)
  | [], _ => []
  | a :: r, c => ch (a :: r) c :: imgL ch r (subL c (ch (a :: r) c))
def greedyCh (r c : List Int) : List Int := topRow c (r.headD 0).toNat
theorem imgL_len (ch : List Int → List Int → List Int) : ∀ (r c : List Int), (imgL ch r c).length = r.length
  | [], _ => rfl
  | a :: r, c => by rw [imgL, List.length_cons, imgL_len ch r, List.length_cons]
/-- What l05Fill returns. -/
def FillRes (c : List Int) (n : Nat) (w : World) (e : Ending) (w' : World) : Prop :=
  ∃ u v, e = .returned (.tuple #[u, v]) ∧ w'.ownsRow w.heap.size 3 1 u c.length (ints (topRow c n)) ∧ w'.ownsRow w.heap.size 3 1 v c.length (ints (subL c (topRow c n))) ∧ Below w.heap.size w w'
/-- The best of the first x columns that are white yet. -/
def BestOf (c : List Int) (n x : Nat) (b : Int) : Prop :=
  (b = -1 ∧ ∀ t, t < x → topF c n t = 1) ∨ ∃ k : Nat, b = k ∧ k < x ∧ topF c n k = 0 ∧ ∀ t, t < x → topF c n t = 0 → keyF c t ≤ keyF c k
theorem best_skip {c : List Int} {n x : Nat} {b : Int} (h : BestOf c n x b) (hx : topF c n x = 1) : BestOf c n (x + 1) b := by
  rcases h with ⟨h1, h2⟩ | ⟨k, h1, h2, h3, h4⟩
  · refine .inl ⟨h1, fun t ht => ?_⟩
    by_cases e : t = x
    · rw [e]; exact hx
    · exact h2 t (by omega)
  · refine .inr ⟨k, h1, by omega, h3, fun t ht h0 => ?_⟩
    by_cases e : t = x
    · rw [e, hx] at h0; cases h0
    · exact h4 t (by omega) h0
theorem best_first {c : List Int} {n x : Nat} (h : BestOf c n x (-1)) (hx : topF c n x = 0) : BestOf c n (x + 1) x := by
  rcases h with ⟨-, h2⟩ | ⟨k, h1, -⟩
  · refine .inr ⟨x, rfl, Nat.lt_succ_self _, hx, fun t ht h0 => ?_⟩
    by_cases e : t = x
    · rw [e]; exact Int.le_refl _
    · rw [h2 t (by omega)] at h0; cases h0
  · omega
theorem best_take {c : List Int} {n x k : Nat} (h : BestOf c n x k) (hx8 : x < 8) (hx : topF c n x = 0) (hgt : c.getD k 0 < c.getD x 0) : BestOf c n (x + 1) x := by
  rcases h with ⟨h1, -⟩ | ⟨k', h1, h2, h3, h4⟩
  · omega
  · obtain rfl : k = k' := by omega
    refine .inr ⟨x, rfl, Nat.lt_succ_self _, hx, fun t ht h0 => ?_⟩
    by_cases e : t = x
    · rw [e]; exact Int.le_refl _
    · have := h4 t (by omega) h0
      unfold keyF at this ⊢
      omega
theorem best_keep {c : List Int} {n x k : Nat} (h : BestOf c n x k) (hgt : ¬ c.getD k 0 < c.getD x 0) : BestOf c n (x + 1) k := by
  rcases h with ⟨h1, -⟩ | ⟨k', h1, h2, h3, h4⟩
  · omega
  · obtain rfl : k = k' := by omega
    refine .inr ⟨k, rfl, by omega, h3, fun t ht h0 => ?_⟩
    by_cases e : t = x
    · subst e; unfold keyF; omega
    · exact h4 t (by omega) h0
theorem best_end {c : List Int} {n : Nat} {b : Int} (hc : c.length ≤ 8) (hn : n < (sortK c).length) (h : BestOf c n c.length b) : b = ((sortK c)[n] : Nat) := by
  rcases h with ⟨-, h2⟩ | ⟨k, h1, h2, h3, h4⟩
  · have := h2 _ (sortK_mem.1 (List.getElem_mem hn))
    rw [topF_next hn] at this; cases this
  · rw [h1, next_of hc hn h2 h3 fun t ht h0 => h4 t ht h0]
theorem next_ex {c : List Int} {n : Nat} (hc : c.length ≤ 8) (hn : n < (sortK c).length) :
    ∃ b, b < c.length ∧ (∀ t, topF c (n + 1) t = if t = b then 1 else topF c n t) ∧ topF c n b = 0 ∧ ∀ q, BestOf c n c.length q → q = (b : Nat) :=
  ⟨(sortK c)[n], sortK_mem.1 (List.getElem_mem hn), fun t => topF_succ hn t, topF_next hn, fun _ h => best_end hc hn h⟩

end Go.Proofs.YtjnnoabaepmcnaaGreat
/-
  whiteImage.
-/
namespace Go.Proofs.YtjnnoabaepmcnaaGreat
open Go.RowKit

def whiteF (r c : Int) (i : Nat) : Int := if r ≤ (i / 5 : Nat) ∨ c ≤ (i % 5 : Nat) then -1 else 0
def upF (F : Nat → Int) (k : Nat) (i : Nat) : Int := if i < k then F i else 0
theorem Tryz.zeroImg (w : World) : (zeroValue 80).run Tryz.prog w = .ok (.agg (vec 25 fun _ => 0)) w := Tryz.zeroValue80 w
theorem Tryz.zeroRow (w : World) : (zeroValue 78).run Tryz.prog w = .ok (.agg (vec 5 fun _ => 0)) w := Tryz.zeroValue78 w
theorem Tryz.sizeImg : (Tryz.prog.info? 80).map (·.size) = some 25 := by kernel_rfl
theorem Tryz.sizeRow : (Tryz.prog.info? 78).map (·.size) = some 5 := by kernel_rfl

theorem upF_zero (F : Nat → Int) : upF F 0 = fun _ => 0 := by funext i; simp [upF]
theorem upF_set (F : Nat → Int) (k : Nat) (v : Int) (h : F k = v) : (fun j => if j = k then v else upF F k j) = upF F (k + 1) := by
  funext j
  simp only [upF]
  by_cases e : j = k
  · subst e; simp [h]
  · rw [if_neg e]
    by_cases hl : j < k
    · rw [if_pos hl, if_pos (by omega)]
    · rw [if_neg hl, if_neg (by omega)]
theorem upF_skip (F : Nat → Int) (k : Nat) (h : F k = 0) : upF F k = upF F (k + 1) := by
  funext j
  simp only [upF]
  by_cases hl : j < k
  · rw [if_pos hl, if_pos (by omega)]
  · by_cases e : j = k
    · subst e; simp [h]
    · rw [if_neg hl, if_neg (by omega)]
theorem upF_all (F : Nat → Int) (n k : Nat) (h : n ≤ k) : ∀ i, i < n → upF F k i = F i := fun i hi => by rw [upF, if_pos (by omega)]
theorem whiteF_at (r c : Int) (y x : Nat) (h : x < 5) : whiteF r c (5 * y + x) = if r ≤ (y : Nat) ∨ c ≤ (x : Nat) then -1 else 0 := by
  rw [whiteF, show (5 * y + x) / 5 = y by omega, show (5 * y + x) % 5 = x by omega]

set_option maxHeartbeats 400000 in
theorem whiteImage_any (r c : Int) (w : World) :
    Calls Tryz.prog 86 #[.int .i64 r, .int .i64 c] w fun e w' => e = .returned (.agg (vec 25 (whiteF r c))) ∧ Below w.heap.size w w' := by
  go_enter Tryz.func86, Tryz.ntmps86
  go_wp2_with (first | (with_reducible refine wpList_allocVec 25 4 rfl rfl rfl Tryz.zeroImg ?_; intro w1 h1 b1 s1) | (with_reducible refine wpList_allocVec 25 5 rfl rfl rfl Tryz.zeroImg ?_; intro w2 h2 b2 s2))
  rw [s1] at h2
  have b1' := b1.trans (b2.mono (by omega))
  have h1 := blk_below h1 b2
  have s2 : w2.heap.size = w.heap.size + 2 := by omega
  clear b1 s1 b2
  go_loopw [8] (fun i w' => ∃ y : Nat, y ≤ 5 ∧ i = .int .i64 y ∧ Blk w' (w.heap.size + 1) 80 25 (upF (whiteF r c) (5 * y)) ∧ Blk w' w.heap.size 80 25 (fun _ => 0) ∧ Below w.heap.size w w') (fun i _ => 5 - (intOf i).toNat)
  case atStart => exact ⟨0, by omega, rfl, by rw [Nat.mul_zero, upF_zero]; exact h2, h1, b1'⟩
  case round =>
    clear h1 h2 b1' s2
    obtain ⟨y, hy, rfl, hp, hr, hb⟩ := hrel
    by_cases hlt : y < 5
    · have hyI : (y : Int) < 5 := by omega
      go_wp2
      go_loopw [11] (fun i w' => ∃ x : Nat, x ≤ 5 ∧ i = .int .i64 x ∧ Blk w' (w.heap.size + 1) 80 25 (upF (whiteF r c) (5 * y + x)) ∧ Blk w' w.heap.size 80 25 (fun _ => 0) ∧ Below w.heap.size w w') (fun i _ => 5 - (intOf i).toNat)
      case atStart => exact ⟨0, by omega, rfl, hp, hr, hb⟩
      case round =>
        clear hp hr hb
        obtain ⟨x, hx, rfl, hp, hr, hb⟩ := hrel
        by_cases hlx : x < 5
        · by_cases hc : r ≤ (y : Int) ∨ c ≤ (x : Int)
          · have HS := hide (upF_set (whiteF r c) (5 * y + x) (-1) (by rw [whiteF_at r c y x hlx, if_pos hc]))
            have hcl := blk_cell hp (5 * y + x) (by omega)
            have hfr := blk_frozen hp (5 * y + x)
            have HA : Hid (0 + y * 5 + x * 1 = 5 * y + x) := hide (by omega)
            by_cases h1 : r ≤ (y : Int)
            all_goals
              try have h2 : c ≤ (x : Int) := by omega
              clear hc
              go_wp2_with (first | (with_reducible refine wpList_indexAt y 24 rfl rfl _ _ rfl rfl rfl Tryz.underlying80 Tryz.sizeOf78 hlt ?_) | (with_reducible refine wpList_indexAt x 25 rfl rfl _ _ rfl rfl rfl Tryz.underlying78 Tryz.sizeOf3 hlx ?_; rw [HA.out]))
              go_roundw
              case rel => exact ⟨x + 1, by omega, by go_num, by have := blk_set hp (5 * y + x) (-1); rw [HS.out] at this; exact this, blk_other hr _ _ (by simp), hb.setCell (by simp) _⟩
              case measure => simp [intOf]; omega
          · have h1 : (y : Int) < r := by omega
            have h2 : (x : Int) < c := by omega
            have HS := hide (upF_skip (whiteF r c) (5 * y + x) (by rw [whiteF_at r c y x hlx, if_neg hc]))
            clear hc
            go_wp2
            go_roundw
            case rel => exact ⟨x + 1, by omega, by go_num, by rw [HS.out] at hp; exact hp, hr, hb⟩
            case measure => simp [intOf]; omega
        · obtain rfl : x = 5 := by omega
          go_wp2
          go_roundw
          case rel => exact ⟨y + 1, by omega, by go_num, by rw [show 5 * (y + 1) = 5 * y + 5 by omega]; exact hp, hr, hb⟩
          case measure => simp [intOf]; omega
    · obtain rfl : y = 5 := by omega
      have hp := blk_congr hp (upF_all (whiteF r c) 25 (5 * 5) (by omega))
      go_wp2_with (first | (with_reducible refine wpList_loadVec hp 28 rfl rfl _ rfl rfl Tryz.underlying80 Tryz.sizeImg ?_) | (with_reducible refine wpList_storeVec hr rfl (.tmp 4) (.tmp 28) rfl rfl rfl Tryz.sizeImg ?_; intro w4 h4 g4 s4))
      refine bodyPost_ret (results_cell_row rfl _ _ w.heap.size 80 _ (0, 0) _ rfl h4 Tryz.underlying80 rfl (by rw [vec_size]; exact Tryz.sizeImg)) rfl ⟨rfl, ?_⟩
      exact hb.trans (grown_below g4 (fun k hk => by cases hk; exact Nat.le_refl _) hb.size)
end Go.Proofs.YtjnnoabaepmcnaaGreat
/-
  The program's images: imageOf, size, lists.
-/
namespace Go.Proofs.YtjnnoabaepmcnaaGreat
open Go.RowKit

theorem results_vec_tmp {P : Program} {fn : Func} {p t : Tmp} {ty : TypeId} (h : fn.results = #[.cell p ty, .tmp t]) (tmps : Array Value) (w : World) (g n m : Nat) (T e : TypeId) (F : Nat → Int)
    (hp : tmps.getD p undef = .pointer (some ⟨g, 0, none⟩)) (hb : Blk w g T n F) (hu : P.underlying ty = some (.array m e)) (hi : (P.info? ty).map (·.size) = some n) :
    (results fn tmps).run P w = .ok (.tuple #[.agg (vec n F), tmps.getD t undef]) w := by
  have hp' : tmps[p]?.getD undef = .pointer (some ⟨g, 0, none⟩) := by simpa using hp
  simp [results, h, hp', asAddr, run_loadVar_row w g T ty (vec n F) (0, 0) _ hb hu rfl (by rw [hi, vec_size])]
theorem results_vec {P : Program} {fn : Func} {p : Tmp} {ty : TypeId} (h : fn.results = #[.cell p ty]) (tmps : Array Value) (w : World) (g n m : Nat) (T e : TypeId) (F : Nat → Int)
    (hp : tmps.getD p undef = .pointer (some ⟨g, 0, none⟩)) (hb : Blk w g T n F) (hu : P.underlying ty = some (.array m e)) (hi : (P.info? ty).map (·.size) = some n) :
    (results fn tmps).run P w = .ok (.agg (vec n F)) w :=
  results_cell_row h tmps w g T (vec n F) (0, 0) _ hp hb hu rfl (by rw [hi, vec_size])

/-- The rows so far: of row y the first x cells, too. -/
def upRow (R C : Nat) (f : Nat → Nat → Int) (y : Nat) (i : Nat) : Int := if i / 5 < y then imgF R C f i else whiteF R C i
theorem upRow_zero (R C : Nat) (f : Nat → Nat → Int) : upRow R C f 0 = whiteF R C := by funext i; simp [upRow]
theorem upRow_all (R C : Nat) (f : Nat → Nat → Int) : ∀ i, i < 25 → upRow R C f R i = imgF R C f i := by
  intro i hi
  unfold upRow
  split
  · rfl
  · rename_i h; rw [whiteF, if_pos (by left; omega), imgF, if_neg (by omega)]
theorem upRow_step (R C : Nat) (f : Nat → Nat → Int) (y : Nat) (hy : y < R) (hR : R ≤ 5) (hC : C ≤ 5) : splice (vecL 25 (upRow R C f y)) (y * 5) (ints (rowF C (f y))) = vecL 25 (upRow R C f (y + 1)) := by
  have hl : (splice (vecL 25 (upRow R C f y)) (y * 5) (ints (rowF C (f y)))).length = 25 := by
    rw [length_splice _ _ _ (by rw [vecL_len, ints_len, rowF_len]; omega), vecL_len]
  apply List.ext_getElem
  · rw [hl, vecL_len]
  · intro i h1 h2
    have hi : i < 25 := by rw [hl] at h1; exact h1
    simp only [splice, vecL, ints, rowF]
    simp only [List.getElem_append, List.length_take, List.length_map, List.length_range, List.getElem_take, List.getElem_map, List.getElem_range, List.getElem_drop]
    by_cases a : i < y * 5
    · have : i < min (y * 5) 25 := by omega
      simp only [this, dif_pos]
      rw [upRow, upRow, if_pos (by omega), if_pos (by omega)]
    · have h0 : ¬ i < min (y * 5) 25 := by omega
      simp only [h0, dif_neg, not_false_eq_true]
      by_cases b : i < y * 5 + C
      · have h3 : i - min (y * 5) 25 < C := by omega
        simp only [h3, dif_pos]
        rw [upRow, if_pos (by omega), imgF, if_pos (by omega), show i - min (y * 5) 25 = i % 5 by omega, show y = i / 5 by omega]
      · have h3 : ¬ i - min (y * 5) 25 < C := by omega
        simp only [h3, dif_neg, not_false_eq_true]
        rw [show y * 5 + C + (i - min (y * 5) 25 - C) = i by omega]
        by_cases d : i / 5 < y + 1
        · rw [upRow, if_neg (by omega), upRow, if_pos d, whiteF, if_pos (by right; omega), imgF, if_neg (by omega)]
        · rw [upRow, if_neg (by omega), upRow, if_neg d]

theorem Tryz.builtImg : Tryz.prog.built 80 [] = some (vec 25 fun _ => 0) := by kernel_rfl
set_option maxHeartbeats 400000 in
theorem imageOf_no (v : Value) (m : List (List Int)) (w : World) (hin : InMat w v m) (h : okB m = false) :
    Calls Tryz.prog 73 #[v] w fun e w' => e = .returned (.tuple #[.agg (vec 25 fun _ => 0), .bool false]) ∧ Below w.heap.size w w' := by
  have HI := hide hin; have H := hide h
  clear hin h
  go_enter Tryz.func73, Tryz.ntmps73
  go_wp2_with (with_reducible refine wpList_allocVec 25 2 rfl rfl rfl Tryz.zeroImg ?_; intro w1 h1 b1 s1)
  have H1 := hide h1; have B1 := hide b1
  clear h1 b1
  go_wp2_with fail
  refine (implImageOk_any v m _ (inMat_below HI.out B1.out)).mono ?_
  rw [H.out]
  rintro e w2 ⟨rfl, rfl⟩
  go_wp2_with (first | (with_reducible refine wpList_buildVec 10 rfl rfl rfl Tryz.builtImg ?_) | (with_reducible refine wpList_storeVec H1.out rfl (.tmp 2) (.tmp 10) rfl rfl rfl Tryz.sizeImg ?_; intro w4 h4 g4 s4))
  refine bodyPost_ret (results_vec_tmp rfl _ _ w.heap.size 25 _ 80 _ _ rfl h4 Tryz.underlying80 Tryz.sizeImg) rfl ⟨rfl, ?_⟩
  exact B1.out.trans (grown_below g4 (fun k hk => by cases hk; exact Nat.le_refl _) B1.out.size)

set_option maxRecDepth 100000 in
set_option maxHeartbeats 1000000 in
theorem imageOf_yes (v : Value) (R C : Nat) (f : Nat → Nat → Int) (w : World) (hin : InMat w v (mkM R C f)) (hI : Img R C f) :
    Calls Tryz.prog 73 #[v] w fun e w' => e = .returned (.tuple #[.agg (vec 25 (imgF R C f)), .bool true]) ∧ Below w.heap.size w w' := by
  have HI := hide hin
  have hR := hI.r2; have hR1 := hI.r1; have hC := hI.c2; have hC1 := hI.c1
  have HOK := hide (img_ok hI)
  obtain ⟨g, o, c, rfl, hg, hcell⟩ := inMat_img hin (by omega) (by omega)
  have HC := hide hcell
  clear hin hcell hI
  go_enter Tryz.func73, Tryz.ntmps73
  go_wp2_with (with_reducible refine wpList_allocVec 25 2 rfl rfl rfl Tryz.zeroImg ?_; intro w1 h1 b1 s1)
  have H1 := hide h1; have B1 := hide b1
  clear h1 b1
  go_wp2_with fail
  refine (implImageOk_any _ _ _ (inMat_below HI.out B1.out)).mono ?_
  rw [HOK.out]
  rintro e w2 ⟨rfl, rfl⟩
  obtain ⟨g0, o0, c0, hx0, -⟩ := HC.out 0 (by omega)
  have hx0 := below_cell B1.out hg hx0
  rw [Nat.add_zero] at hx0
  go_wp2_with (first | (with_reducible refine (whiteImage_any (R : Int) (C : Int) _).mono ?_; rintro e w3 ⟨rfl, b3⟩) | (with_reducible refine wpList_allocVec 25 4 rfl rfl rfl Tryz.zeroImg ?_; intro w5 h5 b5 s5) | (with_reducible refine wpList_storeVec h5 rfl (.tmp 4) (.tmp 17) rfl rfl rfl Tryz.sizeImg ?_; intro w6 h6 g6 s6))
  have hlt3 : w.heap.size < w3.heap.size := by have := b3.size; omega
  have B3 := hide (B1.out.trans (b3.mono B1.out.size))
  have B6 := hide (B3.out.trans ((b5.mono B3.out.size).trans (grown_below g6 (fun k hk => by cases hk; omega) (by omega))))
  have H1 := hide (blk_grown (blk_below (blk_below H1.out b3) b5) g6 (by simp; omega))
  have h6' := hide h6
  have hs6 : w3.heap.size < w6.heap.size := blk_lt h6
  clear b3 b5 h5 s5 g6 s6 h6 hx0
  obtain ⟨p, hp⟩ : ∃ p, p = w3.heap.size := ⟨_, rfl⟩
  rw [← hp] at h6' hlt3 hs6 ⊢
  clear hp
  go_loopw [20] (fun i w' => ∃ y : Nat, y ≤ R ∧ i = .int .i64 y ∧ Blk w' p 80 25 (upRow R C f y) ∧ Blk w' w.heap.size 80 25 (fun _ => 0) ∧ Below w.heap.size w w') (fun i _ => R - (intOf i).toNat)
  case atStart => exact ⟨0, by omega, rfl, by rw [upRow_zero]; exact h6'.out, H1.out, B6.out⟩
  case round =>
    clear h6' H1 B6 B3 B1
    obtain ⟨y, hy, rfl, hp, hr, hb⟩ := hrel
    have HP := hide hp; have HR := hide hr; have HB := hide hb
    clear hp hr hb
    by_cases hlt : y < R
    · obtain ⟨g', o', c', hx, hg', hcell⟩ := HC.out y hlt
      have hx := below_cell HB.out hg hx
      have HCC := hide hcell
      have HP2 : Hid (wr.heap[p]? = some (.cells (vecL 25 (upRow R C f y)).toArray 80 (0, 0))) := HP.out
      have HST := hide (upRow_step R C f y hlt hR hC)
      have hyI : (y : Int) < 5 := by omega
      clear hcell
      obtain ⟨cs, hcs⟩ : ∃ cs, cs = ints (rowF C (f y)) := ⟨_, rfl⟩
      have HCS := hide hcs
      have hcl : cs.length = C := by rw [hcs, ints_len, rowF_len]
      have HCL := hide hcl
      clear hcs hcl
      have K1 : Hid (cs.length = Nat.min C 5) := hide (by rw [HCL.out]; show C = min C 5; omega)
      have K2 : Hid (0 < cs.length → some (⟨p, y * 5, none⟩ : Addr) = some ⟨p, y * 5, none⟩ ∧ ∃ ad, some (⟨g', o', none⟩ : Addr) = some ad ∧ ∀ j v, cs[j]? = some v → wr.cell? (ad.add j) = some v) := hide (by
        intro _
        refine ⟨rfl, _, rfl, fun j v hv => ?_⟩
        have hj : j < C := by have := (List.getElem?_eq_some_iff.1 hv).1; have := HCL.out; omega
        rw [HCS.out, ints_at _ j (by rw [rowF_len]; exact hj), rowF_at, Option.some.injEq] at hv
        subst hv
        rw [addr_add]
        exact below_cell HB.out hg' (HCC.out j hj))
      have K3 : Hid (y * 5 + cs.length ≤ (vecL 25 (upRow R C f y)).length) := hide (by rw [HCL.out, vecL_len]; omega)
      have K4 : Hid (∀ v ∈ cs, v.oneCell' = true) := hide (by
        intro v hv
        rw [HCS.out] at hv
        simp only [ints, List.mem_map] at hv
        obtain ⟨z, -, rfl⟩ := hv; rfl)
      go_wp2_with (first | (with_reducible refine wpList_indexAt y 26 rfl rfl _ _ rfl rfl rfl Tryz.underlying80 Tryz.sizeOf78 (by omega) ?_) | (refine wpList_copy_splice (o := ⟨some 29, _, _, _, _, _⟩) rfl (.tmp 27) (.tmp 28) 23 23 rfl 3 Tryz.underlying23 (by kernel_rfl) _ _ _ _ _ _ rfl rfl p (y * 5) (vecL 25 (upRow R C f y)) 80 HP2.out cs K1.out K2.out K3.out K4.out (w.heap.size + 1) wr (Below.refl _ _) hlt3 ?_; intro w7 h7 b7))
      go_roundw
      case rel =>
        refine ⟨y + 1, by omega, by go_num, ?_, ?_, HB.out.trans (b7.mono (by omega))⟩
        · have := h7.out
          rw [HCS.out, HST.out] at this; exact this
        · unfold Blk; rw [b7.block _ (Nat.lt_succ_self _)]; exact HR.out
      case measure => simp [intOf]; omega
    · obtain rfl : y = R := by omega
      have HP := hide (blk_congr HP.out (upRow_all y C f))
      go_wp2_with (first | (with_reducible refine wpList_loadVec HP.out 31 rfl rfl _ rfl rfl Tryz.underlying80 Tryz.sizeImg ?_) | (with_reducible refine wpList_storeVec HR.out rfl (.tmp 2) (.tmp 31) rfl rfl rfl Tryz.sizeImg ?_; intro w8 h8 g8 s8))
      refine bodyPost_ret (results_vec_tmp rfl _ _ w.heap.size 25 _ 80 _ _ rfl h8 Tryz.underlying80 Tryz.sizeImg) rfl ⟨rfl, ?_⟩
      exact HB.out.trans (grown_below g8 (fun k hk => by cases hk; exact Nat.le_refl _) HB.out.size)
end Go.Proofs.YtjnnoabaepmcnaaGreat
